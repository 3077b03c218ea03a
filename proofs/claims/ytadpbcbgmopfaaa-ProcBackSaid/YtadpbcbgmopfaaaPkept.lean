/-
  The library's BinarySearchFunc at lives that rise; the program's look-up, what it keeps of a list, Meet, Minus, Same. For lists of at most 2^40 lives.
-/
import Derived.Test.YtadpbcbgmopfaaaPsort
import Derived.Test.YtadpbcbgmopfaaaPset
import Derived.Test.YtadpbcbgmopfaaaPlist
namespace Go.Proofs.Ytadpbcbgmopfaaa
set_option maxRecDepth 20000
open Go.RowKit
open Go.Sort (grow)

theorem search_mem {l : List Life} {p : Life} {i : Nat} (hr : Rising l) (h1 : ∀ t, t < i → before (atL l t) p) (h2 : ∀ t, i ≤ t → t < l.length → ¬ before (atL l t) p) : p ∈ l ↔ i < l.length ∧ cmpL (atL l i) p = 0 := by
  constructor
  · intro hm
    obtain ⟨j, hj, e⟩ := List.getElem_of_mem hm
    have ej : atL l j = p := by rw [atL_lt hj]; exact e
    have hij : i ≤ j := by
      rcases Nat.lt_or_ge j i with h | h
      · have := h1 j h
        rw [ej] at this
        exact absurd this (before_irrefl p)
      · exact h
    refine ⟨by omega, (cmpL_zero _ _).2 ?_⟩
    rcases Nat.lt_or_ge i j with h | h
    · have hb := List.pairwise_iff_getElem.1 hr i j (by omega) hj h
      rw [← atL_lt (show i < l.length by omega), ← atL_lt hj, ej] at hb
      exact absurd hb (h2 i (Nat.le_refl _) (by omega))
    · have : i = j := by omega
      rw [this]; exact ej
  · rintro ⟨hi, hc⟩
    rw [← (cmpL_zero _ _).1 hc]
    exact atL_mem hi
theorem rising_mono {l : List Life} {p : Life} (hr : Rising l) {a b : Nat} (hab : a ≤ b) (hb : b < l.length) (h : before (atL l b) p) : before (atL l a) p := by
  rcases Nat.lt_or_ge a b with hlt | hge
  · have := List.pairwise_iff_getElem.1 hr a b (by omega) hb hlt
    rw [← atL_lt (show a < l.length by omega), ← atL_lt hb] at this
    exact before_trans this h
  · have : a = b := by omega
    rw [this]; exact h
set_option maxHeartbeats 4000000 in
theorem search_any (A : Option Addr) (l : List Life) (n c : Nat) (p : Life) (w : World) (h : Lives w w.heap.size A l) (hr : Rising l) (hn : l.length = n) (hb : n ≤ 1099511627776) :
    Calls Try.prog 106 #[.slice A n c, lifeV p, orderV] w fun e w' => ∃ i : Int, e = .returned (.tuple #[.int .i64 i, .bool (decide (p ∈ l))]) ∧ Hid (Below w.heap.size w w') := by
  have B1 := Lib.hid ((Below.refl w.heap.size w).alloc (Nat.le_refl _) (.cells #[.int .i64 p.1, .int .u64 p.2] 70))
  have HM := Lib.hid (fun i h1 h2 => search_mem (p := p) (i := i) hr h1 h2)
  have HMo := Lib.hid (fun a b (hab : a ≤ b) (hb : b < l.length) h => rising_mono (p := p) hr hab hb h)
  have HC := Lib.hid (fun x W => order_any x p W)
  have HCl := Lib.hid (fun x => cmpL_lt x p)
  generalize hres : decide (p ∈ l) = r
  have HR := Lib.hid hres
  have HL := Lib.hid h
  have HN := Lib.hid hn
  clear hres h hn hr
  obtain ⟨p1, p2⟩ := p
  obtain ⟨k1, k2⟩ := one_new w p1 p2
  simp only at B1
  have mixed : Try.prog.follows .mixedOrders = true := by kernel_rfl
  have eg := enters_order
  go_enter Try.func106, Try.ntmps106
  go_wp2_with fail
  generalize w.alloc (.cells #[.int .i64 p1, .int .u64 p2] 70) = W2 at *
  generalize hB : w.heap.size = B at k1 k2 ⊢
  have HB := Lib.hid hB
  have K1 := Lib.hid k1
  have K2 := Lib.hid k2
  clear hB k1 k2
  obtain ⟨n0, hn0⟩ : ∃ n0, n0 = n := ⟨_, rfl⟩
  go_loopw [9, 10] (fun s t wr => ∃ lo hi : Nat, lo ≤ hi ∧ hi ≤ n ∧ s = .int .i64 lo ∧ t = .int .i64 hi ∧ Hid (Below W2.heap.size W2 wr) ∧ Hid (∀ j, j < lo → before (atL l j) (p1, p2)) ∧ Hid (∀ j, hi ≤ j → j < n → ¬ before (atL l j) (p1, p2))) (fun s t _ => (intOf t).toNat - (intOf s).toNat)
  case atStart => exact ⟨0, n, Nat.zero_le _, Nat.le_refl _, rfl, rfl, Lib.hid (Below.refl _ _), Lib.hid (fun j hj => absurd hj (Nat.not_lt_zero _)), Lib.hid (fun j h1 h2 => by omega)⟩
  case round =>
    obtain ⟨lo, hi, hlh, hhn, rfl, rfl, hbw, hlow, hhigh⟩ := hrel
    have kb1 := cell_below K1.out hbw.out
    have kb2 := cell_below K2.out hbw.out
    have hBl : B < wr.heap.size := World.block_lt_of_cell? wr _ kb1
    have q1 := fun n os => cell_grown (n := n) (os := os) hBl kb1
    have q2 := fun n os => cell_grown (n := n) (os := os) (a := ⟨B, 1, none⟩) hBl kb2
    clear kb1 kb2 hBl
    by_cases hlt : lo < hi
    · obtain ⟨mid, hmid⟩ : ∃ mid, mid = (lo + hi) / 2 := ⟨_, rfl⟩
      have hm : ((lo : Int) + (hi : Int)) / 2 = (mid : Int) := by omega
      have hm1 : lo ≤ mid := by omega
      have hm2 : mid < hi := by omega
      clear hmid
      obtain ⟨b, off, rfl, hbb, hc1, hc2⟩ := (HL.out.below B1.out).at_ (k := mid) (by rw [HN.out]; omega)
      have hbb2 : b < W2.heap.size := World.block_lt_of_cell? W2 _ hc1
      have hbb3 : b < wr.heap.size := Nat.lt_of_lt_of_le hbb2 hbw.out.size
      have q3 := fun n os => cell_grown (n := n) (os := os) (a := ⟨b, off + mid * 2, none⟩) hbb3 ((hbw.out.cell (p := ⟨b, off + mid * 2, none⟩) hbb2).trans hc1)
      have q4 := fun n os => cell_grown (n := n) (os := os) (a := ⟨b, off + mid * 2 + 1, none⟩) hbb3 ((hbw.out.cell (p := ⟨b, off + mid * 2 + 1, none⟩) hbb2).trans hc2)
      clear hc1 hc2 hbb hbb2 hbb3
      have HC2 := Lib.hid (HC.out (atL l (mid)))
      have HCl2 := Lib.hid (HCl.out (atL l (mid)))
      have HAt := Lib.hid (show atL l (mid) = atL l (mid) from rfl)
      generalize hx : atL l (mid) = x at *
      have HX := Lib.hid hx
      clear hx HAt
      obtain ⟨x1, x2⟩ := x
      simp only at q3 q4
      have g0 : (0 : Int) ≤ (mid : Int) := by omega
      have g1 : (lo : Int) < (hi : Int) := by omega
      have g2 : (mid : Int) < (n : Int) := by omega
      go_wp2_with fail
      by_cases hc : before (x1, x2) (p1, p2)
      · have hcl : cmpL (x1, x2) (p1, p2) < 0 := HCl2.out.2 hc
        have HLo := Lib.hid (show ∀ j, j < mid + 1 → before (atL l j) (p1, p2) from fun j hj => HMo.out j (mid) (by omega) (by rw [HN.out]; omega) (by rw [HX.out]; exact hc))
        clear hc HCl2 HC
        generalize cmpL (x1, x2) (p1, p2) = cv at *
        go_quiet_grown (first | (go_at_fn 97; refine Calls.grown_of (HC2.out _)))
        go_wp2
        go_roundw
        case rel => exact ⟨mid + 1, hi, by omega, hhn, by first | rfl | (go_num), rfl, Lib.hid (btr hbw.out (grow_below _ _ _)), HLo, hhigh⟩
        case measure => simp [intOf]; omega
      · have hcl : ¬ cmpL (x1, x2) (p1, p2) < 0 := fun h => hc (HCl2.out.1 h)
        have HHi := Lib.hid (show ∀ j, mid ≤ j → j < n → ¬ before (atL l j) (p1, p2) from fun j h1 h2 h3 => hc (by rw [← HX.out]; exact HMo.out (mid) j h1 (by rw [HN.out]; exact h2) h3))
        clear hc HCl2 HC
        generalize cmpL (x1, x2) (p1, p2) = cv at *
        go_quiet_grown (first | (go_at_fn 97; refine Calls.grown_of (HC2.out _)))
        go_wp2
        go_roundw
        case rel => exact ⟨lo, mid, by omega, by omega, rfl, by first | rfl | (go_num), Lib.hid (btr hbw.out (grow_below _ _ _)), hlow, HHi⟩
        case measure => simp [intOf]; omega
    · obtain rfl : lo = hi := by omega
      have g1 : ¬ (lo : Int) < (lo : Int) := by omega
      have HM2 := HM.out lo hlow.out (by rw [HN.out]; exact hhigh.out)
      rw [HN.out] at HM2
      by_cases hlt2 : lo < n
      · obtain ⟨b, off, rfl, hbb, hc1, hc2⟩ := (HL.out.below B1.out).at_ (k := lo) (by rw [HN.out]; exact hlt2)
        have hbb2 : b < W2.heap.size := World.block_lt_of_cell? W2 _ hc1
        have hbb3 : b < wr.heap.size := Nat.lt_of_lt_of_le hbb2 hbw.out.size
        have q3 := fun n os => cell_grown (n := n) (os := os) (a := ⟨b, off + lo * 2, none⟩) hbb3 ((hbw.out.cell (p := ⟨b, off + lo * 2, none⟩) hbb2).trans hc1)
        have q4 := fun n os => cell_grown (n := n) (os := os) (a := ⟨b, off + lo * 2 + 1, none⟩) hbb3 ((hbw.out.cell (p := ⟨b, off + lo * 2 + 1, none⟩) hbb2).trans hc2)
        clear hc1 hc2 hbb hbb2 hbb3
        have HC2 := Lib.hid (HC.out (atL l lo))
        have HM3 := Lib.hid HM2
        clear HM2
        generalize atL l lo = x at *
        obtain ⟨x1, x2⟩ := x
        simp only at q3 q4
        have g0 : (0 : Int) ≤ (lo : Int) := by omega
        have g2 : (lo : Int) < (n : Int) := by omega
        clear HC HCl HM HMo hlow hhigh
        generalize cmpL (x1, x2) (p1, p2) = cv at *
        go_wp2_with fail
        by_cases hz : cv = 0
        · have : r = true := by rw [← HR.out]; exact decide_eq_true (HM3.out.2 ⟨hlt2, hz⟩)
          subst this hz
          go_quiet_grown (first | (go_at_fn 97; refine Calls.grown_of (HC2.out _)))
          go_wp2
          go_ret2
          first | exact ⟨_, rfl, Lib.hid (btr B1.out (btr hbw.out (grow_below _ _ _)))⟩ | exact ⟨⟨_, rfl⟩, Lib.hid (btr B1.out (btr hbw.out (grow_below _ _ _)))⟩
        · have : r = false := by rw [← HR.out]; exact decide_eq_false (fun h => hz (HM3.out.1 h).2)
          subst this
          have hz2 : (cv == 0) = false := by simp [hz]
          go_quiet_grown (first | (go_at_fn 97; refine Calls.grown_of (HC2.out _)))
          go_wp2
          go_ret2
          first | exact ⟨_, rfl, Lib.hid (btr B1.out (btr hbw.out (grow_below _ _ _)))⟩ | exact ⟨⟨_, rfl⟩, Lib.hid (btr B1.out (btr hbw.out (grow_below _ _ _)))⟩
      · have : r = false := by rw [← HR.out]; exact decide_eq_false (fun h => hlt2 (HM2.1 h).1)
        subst this
        have g2 : ¬ (lo : Int) < (n : Int) := by omega
        clear HC HCl HM HMo hlow hhigh HM2
        go_wp2_with fail
        refine wp_region_quiet_grown mixed (by kernel_rfl) ?_
        iterate 5 (quiet_step (fail))
        iterate 8 (generalize hact : ({ tmps := _, defers := [] } : Act) = aa; refine wpQuiet_skip (by rw [← hact]; kernel_rfl) ?_; subst hact; simp only [Act.put, List.setIfInBounds_toArray, List.set_cons_succ, List.set_cons_zero])
        iterate 3 (quiet_step (fail))
        refine wpQuiet_nil ?_
        intro _ hw'
        obtain ⟨⟨nq, osq⟩, hw''⟩ := hw'
        subst hw''
        go_wp2
        go_ret2
        first | exact ⟨_, rfl, Lib.hid (btr B1.out (btr hbw.out (grow_below _ _ _)))⟩ | exact ⟨⟨_, rfl⟩, Lib.hid (btr B1.out (btr hbw.out (grow_below _ _ _)))⟩
/-- What the look-up's closure has caught: a list that rises. -/
def Caught (B n c : Nat) (A : Option Addr) (l : List Life) (w : World) : Prop := w.cell? ⟨B, 0, none⟩ = some (.slice A n c) ∧ Lives w w.heap.size A l ∧ Rising l ∧ l.length = n
theorem Caught.on {B n c : Nat} {A : Option Addr} {l : List Life} {w w' : World} (h : Caught B n c A l w) (hb : Below w.heap.size w w') : Caught B n c A l w' := ⟨cell_below h.1 hb, h.2.1.on hb, h.2.2⟩
set_option maxHeartbeats 2000000 in
theorem look_any (B : Nat) (A : Option Addr) (l : List Life) (n c : Nat) (p : Life) (w : World) (h : Caught B n c A l w) (hb : n ≤ 1099511627776) :
    Calls Try.prog 105 #[lifeV p, .pointer (some ⟨B, 0, none⟩)] w fun e w' => e = .returned (.bool (decide (p ∈ l))) ∧ Hid (Below w.heap.size w w') := by
  have B1 := Lib.hid ((Below.refl w.heap.size w).alloc (Nat.le_refl _) (.cells #[.int .i64 p.1, .int .u64 p.2] 70))
  have HS := Lib.hid (fun W (hW : Below w.heap.size w W) => search_any A l n c p W (h.2.1.on hW) h.2.2.1 h.2.2.2 hb)
  generalize decide (p ∈ l) = r at *
  have hcell := h.1
  obtain ⟨p1, p2⟩ := p
  obtain ⟨k1, k2⟩ := one_new w p1 p2
  simp only at B1
  have kc := cell_at_old (.cells #[.int .i64 p1, .int .u64 p2] 70) hcell
  clear h hcell
  go_enter Try.func105, Try.ntmps105
  go_wp2_with fail
  generalize w.alloc (.cells #[.int .i64 p1, .int .u64 p2] 70) = W2 at *
  generalize hB : w.heap.size = B2 at k1 k2 ⊢
  have HB := Lib.hid hB
  clear hB
  go_region_held (fun w' => w'.cell? ⟨B2, 0, none⟩ = some (.int .i64 p1) ∧ w'.cell? ⟨B2, 1, none⟩ = some (.int .u64 p2) ∧ w'.cell? ⟨B, 0, none⟩ = some (.slice A n c)) (first | go_keep | exact kk.out)
    (first | (go_at_call 81; refine (order_is _).mono ?_; rintro e w1 ⟨rfl, rfl⟩) | (go_at_call 106; refine (HS.out _ (btr B1.out (bdl (Below.refl _ _)))).mono ?_; rintro e w1 ⟨i, rfl, hb1⟩; have BB := Lib.hid (btd B1.out hb1.out); have kk : Hid (w1.cell? ⟨B2, 0, none⟩ = some (.int .i64 p1) ∧ w1.cell? ⟨B2, 1, none⟩ = some (.int .u64 p2) ∧ w1.cell? ⟨B, 0, none⟩ = some (.slice A n c)) := Lib.hid ⟨cell_below k1 (bdl hb1.out), cell_below k2 (bdl hb1.out), cell_below kc (bdl hb1.out)⟩))
  all_goals
    go_wp2
    go_ret
    exact ⟨rfl, BB⟩
set_option maxHeartbeats 1000000 in
theorem among_any (A : Option Addr) (l : List Life) (n c : Nat) (w : World) (h : Lives w w.heap.size A l) (hn : l.length = n) (hb : n ≤ 1099511627776) (hA : A = none → c = 0) :
    Calls Try.prog 89 #[.slice A n c] w fun e w' => ∃ B A' c' m, e = .returned (.func (.func 105) #[] #[.pointer (some ⟨B, 0, none⟩)]) ∧ Hid (Caught B m c' A' (setL l) w') ∧ Hid (m ≤ n) ∧ Hid (Below w.heap.size w w') := by
  have HS := Lib.hid (sorted_any A l n c w h hn hb hA)
  have HLe := Lib.hid (Nat.le_trans (setL_length l) (Nat.le_of_eq hn))
  clear h hn hA
  go_enter Try.func89, Try.ntmps89
  go_wp2_with fail
  refine HS.out.mono ?_
  rintro e W1 ⟨A1, c1, rfl, hl, hA1, hc1, hb1⟩
  have HQ := Lib.hid (show Caught W1.heap.size (setL l).length c1 A1 (setL l) (W1.alloc (.cells #[.slice A1 (setL l).length c1] 74)) from ⟨cell_at_new W1 _ _ 0 _ rfl, hl.out.on ((Below.refl _ _).alloc (Nat.le_refl _) _), rising_setL l, rfl⟩)
  have HB2 := Lib.hid ((Below.refl W1.heap.size W1).alloc (Nat.le_refl _) (.cells #[.slice A1 (setL l).length c1] 74))
  clear HS
  generalize (setL l).length = m at *
  go_wp2
  go_ret
  exact ⟨_, A1, c1, m, rfl, HQ, HLe, Lib.hid (btr hb1.out HB2.out)⟩
theorem OwnP.base' {w : World} {base n cap : Nat} {A : Option Addr} {l : List Life} (h : OwnP w base A n cap l) : ∀ k, blockOf A = some k → base ≤ k := fun k e => by
  rcases h.form with ⟨rfl, _⟩ | ⟨g, rfl, hg, _⟩
  · cases e
  · obtain rfl : g = k := by simpa [blockOf] using e
    exact hg
set_option maxHeartbeats 4000000 in
theorem kept_any (A : Option Addr) (l : List Life) (n c : Nat) (g : Nat) (cb : Array Value) (f : Life → Bool) (w : World) (h : Lives w w.heap.size A l) (hn : l.length = n) (hb : n ≤ 1099511627776) (hA : A = none → c = 0)
    (eg : ∀ args w, (callFunc g args).run Try.prog w = .ok (.enter g args) w)
    (hf : ∀ p W, Below w.heap.size w W → Calls Try.prog g (#[lifeV p] ++ cb) W fun e w' => e = .returned (.bool (f p)) ∧ Hid (Below W.heap.size W w')) :
    Calls Try.prog 90 #[.slice A n c, .func (.func g) #[] cb] w fun e w' => ∃ A' c' m, e = .returned (.slice A' m c') ∧ Hid (((setL l).filter f).length = m) ∧ Hid (Lives w' w'.heap.size A' ((setL l).filter f)) ∧ Hid (A' = none → c' = 0) ∧ Hid (m ≤ c') ∧ Hid (m ≤ n) ∧ Hid (Below w.heap.size w w') := by
  have HS := Lib.hid (sorted_any A l n c w h hn hb hA)
  have HLe := Lib.hid (Nat.le_trans (setL_length l) (Nat.le_of_eq hn))
  have HF := Lib.hid hf
  clear h hn hA hf
  go_enter Try.func90, Try.ntmps90
  go_wp2_with fail
  refine HS.out.mono ?_
  rintro e W1 ⟨A1, c1, rfl, hl, hA1, hc1, hb1⟩
  clear HS
  generalize hS : setL l = S at *
  have HSS := Lib.hid hS
  clear hS
  generalize hm : S.length = m at *
  have HM := Lib.hid hm
  have hmn := HLe.out
  clear hm
  go_wp2
  go_loopw [5, 11] (fun s i wr => ∃ k : Nat, ∃ A' c' t, k ≤ m ∧ t ≤ k ∧ s = .slice A' t c' ∧ i = .int .i64 k ∧ Hid (OwnP wr W1.heap.size A' t c' ((S.take k).filter f)) ∧ Hid (Below W1.heap.size W1 wr)) (fun _ i _ => m - (intOf i).toNat)
  case atStart => exact ⟨0, none, 0, 0, Nat.zero_le _, Nat.le_refl _, rfl, rfl, Lib.hid OwnP.nil_, Lib.hid (Below.refl _ _)⟩
  case round =>
    obtain ⟨k, A2, c2, t, hk, htk, rfl, rfl, ho2, hb2⟩ := hrel
    by_cases hlt : k < m
    · obtain ⟨b, off, rfl, hbb, h1, h2⟩ := (hl.out.below hb2.out).at_ (k := k) (by rw [HM.out]; exact hlt)
      have g0 : (0 : Int) ≤ (k : Int) := by omega
      have g1 : (k : Int) < (m : Int) := by omega
      have HT := Lib.hid (show (S.take (k + 1)).filter f = (S.take k).filter f ++ (if f (atL S k) then [atL S k] else []) from by
        rw [List.take_add_one, List.getElem?_eq_getElem (by rw [HM.out]; exact hlt), List.filter_append, atL_lt (by rw [HM.out]; exact hlt)]
        simp only [Option.toList, List.filter_cons, List.filter_nil])
      generalize atL S k = x at *
      have HC := Lib.hid (HF.out x)
      obtain ⟨x1, x2⟩ := x
      simp only at h1 h2
      obtain ⟨k1, k2⟩ := one_new wr x1 x2
      have B3 := Lib.hid ((Below.refl wr.heap.size wr).alloc (Nat.le_refl _) (.cells #[.int .i64 x1, .int .u64 x2] 70))
      have ho3 := Lib.hid (ho2.out.on B3.out)
      go_wp2_with fail
      generalize wr.alloc (.cells #[.int .i64 x1, .int .u64 x2] 70) = W2 at *
      generalize hB : wr.heap.size = B at k1 k2 ⊢
      have HB := Lib.hid hB
      clear hB h1 h2
      go_wp2_with fail
      refine (HC.out W2 (btr hb1.out (btr hb2.out B3.out))).mono ?_
      rintro e W3 ⟨rfl, hb3⟩
      have ho4 := Lib.hid (ho3.out.on hb3.out)
      have hb4 := Lib.hid (btr hb2.out (btr B3.out hb3.out))
      have m1 := cell_below k1 hb3.out
      have m2 := cell_below k2 hb3.out
      clear k1 k2 ho3 ho2 B3 hb3 HC
      cases hfx : f (x1, x2) with
      | true =>
        rw [hfx, if_pos rfl] at HT
        have HN := Lib.hid (lives_new W3 [(x1, x2)])
        have B5 := Lib.hid ((Below.refl W3.heap.size W3).alloc (Nat.le_refl _) (.cells (flatP [(x1, x2)]).toArray 70))
        have ho5 := Lib.hid (ho4.out.on B5.out)
        clear hfx
        go_wp2_with (at_builtin; refine wpList_appendP rfl _ _ rfl W1.heap.size A2 t c2 _ rfl ?qc0 ho5.out (some ⟨W3.heap.size, 0, none⟩) 1 1 _ [(x1, x2)] rfl rfl (fun e => by cases e) HN.out (by omega) ?_)
        case qc0 => exact (btr hb4.out B5.out).size
        intro A6 c6 W6 e1 e2 e3
        go_wp2
        go_roundw
        case rel => exact ⟨k + 1, A6, c6, t + 1, by omega, by omega, rfl, by go_num, Lib.hid (by rw [HT.out]; exact e1.out), Lib.hid (e2.out.below (btr hb4.out B5.out) ho5.out.base' (btr hb4.out B5.out).size)⟩
        case measure => simp [intOf]; omega
      | false =>
        rw [hfx] at HT
        clear hfx
        go_wp2
        go_roundw
        case rel => exact ⟨k + 1, A2, c2, t, by omega, by omega, rfl, by go_num, Lib.hid (by rw [HT.out]; simpa using ho4.out), hb4⟩
        case measure => simp [intOf]; omega
    · obtain rfl : k = m := by omega
      have g1 : ¬ (k : Int) < (k : Int) := by omega
      have HTk := Lib.hid (show S.take k = S by rw [← HM.out, List.take_length])
      go_wp2
      go_ret
      have ho := ho2.out
      rw [HTk.out, ← HSS.out] at ho
      exact ⟨A2, c2, t, rfl, Lib.hid ho.len, Lib.hid ho.lives, Lib.hid ho.none_cap, Lib.hid ho.cap_le, Lib.hid (by omega), Lib.hid (btr hb1.out hb2.out)⟩
theorem enters_look : ∀ args w, (callFunc 105 args).run Try.prog w = .ok (.enter 105 args) w := enters_of Try.func105 (by kernel_rfl) rfl
theorem enters_not : ∀ args w, (callFunc 91 args).run Try.prog w = .ok (.enter 91 args) w := enters_of Try.func91 (by kernel_rfl) rfl
theorem meet_eq (a b : List Life) : (setL a).filter (fun p => decide (p ∈ setL b)) = meetL a b := by
  rw [setL_filter]
  unfold meetL
  congr 1
  apply List.filter_congr
  intro p _
  rw [Bool.eq_iff_iff, decide_eq_true_iff, decide_eq_true_iff, mem_setL]
theorem minus_eq (a b : List Life) : (setL a).filter (fun p => !decide (p ∈ setL b)) = minusL a b := by
  rw [setL_filter]
  unfold minusL
  congr 1
  apply List.filter_congr
  intro p _
  congr 1
  rw [Bool.eq_iff_iff, decide_eq_true_iff, decide_eq_true_iff, mem_setL]
set_option maxHeartbeats 1000000 in
theorem meet_any (A1 A2 : Option Addr) (a b : List Life) (n1 n2 c1 c2 : Nat) (w : World) (h1 : Lives w w.heap.size A1 a) (h2 : Lives w w.heap.size A2 b) (hn1 : a.length = n1) (hn2 : b.length = n2) (hb1 : n1 ≤ 1099511627776) (hb2 : n2 ≤ 1099511627776) (hA1 : A1 = none → c1 = 0) (hA2 : A2 = none → c2 = 0) :
    Calls Try.prog 55 #[.slice A1 n1 c1, .slice A2 n2 c2] w fun e w' => ∃ A' c' m, e = .returned (.slice A' m c') ∧ Hid ((meetL a b).length = m) ∧ Hid (Lives w' w'.heap.size A' (meetL a b)) ∧ Hid (A' = none → c' = 0) ∧ Hid (m ≤ c') ∧ Hid (m ≤ n1) ∧ Hid (Below w.heap.size w w') := by
  have HAm := Lib.hid (among_any A2 b n2 c2 w h2 hn2 hb2 hA2)
  have HK := Lib.hid (fun W (hW : Below w.heap.size w W) cb f hf => kept_any A1 a n1 c1 105 cb f W (h1.on hW) hn1 hb1 hA1 enters_look hf)
  rw [← meet_eq]
  clear h1 h2 hn1 hn2
  go_enter Try.func55, Try.ntmps55
  go_wp2_with fail
  refine HAm.out.mono ?_
  rintro e W1 ⟨B, A3, c3, m, rfl, hc, hm, hbW⟩
  go_wp2_with fail
  refine (HK.out W1 hbW.out #[.pointer (some ⟨B, 0, none⟩)] (fun p => decide (p ∈ setL b)) (fun p W hW => look_any B A3 (setL b) m c3 p W (hc.out.on hW) (Nat.le_trans hm.out hb2))).mono ?_
  rintro e W2 ⟨A4, c4, m4, rfl, hl, hv, hA4, hc4, hm4, hbW2⟩
  clear HK HAm
  go_wp2
  go_ret
  exact ⟨A4, c4, m4, rfl, hl, hv, hA4, hc4, hm4, Lib.hid (btr hbW.out hbW2.out)⟩
set_option maxHeartbeats 1000000 in
theorem not_any (B2 B : Nat) (A : Option Addr) (l : List Life) (n c : Nat) (p : Life) (w : World) (h : Caught B n c A l w) (h2 : w.cell? ⟨B2, 0, none⟩ = some (.func (.func 105) #[] #[.pointer (some ⟨B, 0, none⟩)])) (hb : n ≤ 1099511627776) :
    Calls Try.prog 91 #[lifeV p, .pointer (some ⟨B2, 0, none⟩)] w fun e w' => e = .returned (.bool (!decide (p ∈ l))) ∧ Hid (Below w.heap.size w w') := by
  have B1 := Lib.hid ((Below.refl w.heap.size w).alloc (Nat.le_refl _) (.cells #[.int .i64 p.1, .int .u64 p.2] 70))
  have HS := Lib.hid (look_any B A l n c p (w.alloc (.cells #[.int .i64 p.1, .int .u64 p.2] 70)) (h.on B1.out) hb)
  generalize decide (p ∈ l) = r at *
  obtain ⟨p1, p2⟩ := p
  obtain ⟨k1, k2⟩ := one_new w p1 p2
  simp only at B1
  have kc := cell_at_old (.cells #[.int .i64 p1, .int .u64 p2] 70) h2
  have eg := enters_look
  clear h h2
  go_enter Try.func91, Try.ntmps91
  go_wp2_with fail
  refine HS.out.mono ?_
  rintro e W3 ⟨rfl, hb3⟩
  go_wp2
  go_ret
  exact ⟨rfl, Lib.hid (btr B1.out hb3.out)⟩
set_option maxHeartbeats 1000000 in
theorem minus_any (A1 A2 : Option Addr) (a b : List Life) (n1 n2 c1 c2 : Nat) (w : World) (h1 : Lives w w.heap.size A1 a) (h2 : Lives w w.heap.size A2 b) (hn1 : a.length = n1) (hn2 : b.length = n2) (hb1 : n1 ≤ 1099511627776) (hb2 : n2 ≤ 1099511627776) (hA1 : A1 = none → c1 = 0) (hA2 : A2 = none → c2 = 0) :
    Calls Try.prog 57 #[.slice A1 n1 c1, .slice A2 n2 c2] w fun e w' => ∃ A' c' m, e = .returned (.slice A' m c') ∧ Hid ((minusL a b).length = m) ∧ Hid (Lives w' w'.heap.size A' (minusL a b)) ∧ Hid (A' = none → c' = 0) ∧ Hid (m ≤ c') ∧ Hid (m ≤ n1) ∧ Hid (Below w.heap.size w w') := by
  have HAm := Lib.hid (among_any A2 b n2 c2 w h2 hn2 hb2 hA2)
  have HK := Lib.hid (fun W (hW : Below w.heap.size w W) cb f hf => kept_any A1 a n1 c1 91 cb f W (h1.on hW) hn1 hb1 hA1 enters_not hf)
  rw [← minus_eq]
  clear h1 h2 hn1 hn2
  go_enter Try.func57, Try.ntmps57
  go_wp2_with fail
  refine HAm.out.mono ?_
  rintro e W1 ⟨B, A3, c3, m, rfl, hc, hm, hbW⟩
  have kb := Lib.hid (cell_at_new W1 #[.func (.func 105) #[] #[.pointer (some ⟨B, 0, none⟩)]] 71 0 _ rfl)
  have hst : ∀ (a : Addr) (m : Mode) (W : World), Sem.run Try.prog (store a (.func (.func 105) #[] #[.pointer (some ⟨B, 0, none⟩)]) m) W = stored Try.prog W a (.func (.func 105) #[] #[.pointer (some ⟨B, 0, none⟩)]) m := fun a m W => run_store Try.prog W a _ m rfl
  have B2 := Lib.hid ((Below.refl W1.heap.size W1).alloc (Nat.le_refl _) (.cells #[.func (.func 105) #[] #[.pointer (some ⟨B, 0, none⟩)]] 71))
  go_wp2_with fail
  generalize W1.alloc (.cells #[.func (.func 105) #[] #[.pointer (some ⟨B, 0, none⟩)]] 71) = W5 at *
  refine (HK.out W5 (btr hbW.out B2.out) #[.pointer (some ⟨W1.heap.size, 0, none⟩)] (fun p => !decide (p ∈ setL b)) (fun p W hW => not_any W1.heap.size B A3 (setL b) m c3 p W (hc.out.on (btr B2.out hW)) (cell_below kb.out hW) (Nat.le_trans hm.out hb2))).mono ?_
  rintro e W2 ⟨A4, c4, m4, rfl, hl, hv, hA4, hc4, hm4, hbW2⟩
  clear HK HAm
  go_wp2
  go_ret
  exact ⟨A4, c4, m4, rfl, hl, hv, hA4, hc4, hm4, Lib.hid (btr (btr hbW.out B2.out) hbW2.out)⟩
set_option maxHeartbeats 1000000 in
theorem same_any (A1 A2 : Option Addr) (a b : List Life) (n1 n2 c1 c2 : Nat) (w : World) (h1 : Lives w w.heap.size A1 a) (h2 : Lives w w.heap.size A2 b) (hn1 : a.length = n1) (hn2 : b.length = n2) (hb1 : n1 ≤ 1099511627776) (hb2 : n2 ≤ 1099511627776) (hA1 : A1 = none → c1 = 0) (hA2 : A2 = none → c2 = 0) :
    Calls Try.prog 58 #[.slice A1 n1 c1, .slice A2 n2 c2] w fun e w' => e = .returned (.bool (decide (setL a = setL b))) ∧ Hid (Below w.heap.size w w') := by
  have HS1 := Lib.hid (sorted_any A1 a n1 c1 w h1 hn1 hb1 hA1)
  have HS2 := Lib.hid (fun W (hW : Below w.heap.size w W) => sorted_any A2 b n2 c2 W (h2.on hW) hn2 hb2 hA2)
  have L1 := Lib.hid (Nat.le_trans (setL_length a) (by omega : a.length ≤ 1099511627776))
  have L2 := Lib.hid (Nat.le_trans (setL_length b) (by omega : b.length ≤ 1099511627776))
  generalize hr : decide (setL a = setL b) = r
  have HR := Lib.hid hr
  clear h1 h2 hn1 hn2 hr
  go_enter Try.func58, Try.ntmps58
  go_wp2_with fail
  refine HS1.out.mono ?_
  rintro e W1 ⟨A3, c3, rfl, hl3, hA3, hc3, hb3⟩
  go_wp2_with fail
  refine (HS2.out W1 hb3.out).mono ?_
  rintro e W2 ⟨A4, c4, rfl, hl4, hA4, hc4, hb4⟩
  have HE := Lib.hid (sequal_any A3 (setL a) (setL a).length c3 A4 (setL b) (setL b).length c4 W2 (hl3.out.on hb4.out) hl4.out rfl rfl L1.out L2.out)
  rw [HR.out] at HE
  generalize (setL a).length = t1 at *
  generalize (setL b).length = t2 at *
  clear HS1 HS2
  go_wp2_with fail
  refine HE.out.mono ?_
  rintro e W3 ⟨rfl, hb5⟩
  go_wp2
  go_ret
  exact ⟨rfl, Lib.hid (btr (btr hb3.out hb4.out) hb5.out)⟩
end Go.Proofs.Ytadpbcbgmopfaaa
