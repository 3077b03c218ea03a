/-
  Lists of lives compared, and looked through: the library's Equal, Index, Contains, the program's Has, the document's Equal. For lists of at most 2^40 lives.
-/
import Derived.Test.YtadpbcbgmopfaaaPref
namespace Go.Proofs.Ytadpbcbgmopfaaa
set_option maxRecDepth 20000
open Go.RowKit

theorem lives_ext {l m : List Life} (h : l.length = m.length) (he : ∀ j, j < l.length → atL l j = atL m j) : l = m := by
  apply List.ext_getElem h
  intro i h1 h2
  have := he i h1
  rwa [atL_lt h1, atL_lt h2] at this
theorem below_drewN' {w : World} (q : Nat) : Below w.heap.size w (w.drewN q) := ⟨rfl, rfl, rfl, Nat.le_refl _, fun _ _ => rfl⟩
set_option maxHeartbeats 1000000 in
theorem requal_any (A1 : Option Addr) (l : List Life) (n1 c1 : Nat) (A2 : Option Addr) (m : List Life) (n2 c2 : Nat) (w : World) (h1 : Lives w w.heap.size A1 l) (h2 : Lives w w.heap.size A2 m) (hn1 : l.length = n1) (hn2 : m.length = n2) (hb : n1 ≤ 1099511627776) (hb2 : n2 ≤ 1099511627776) :
    Calls Try.prog 44 #[.slice A1 n1 c1, .slice A2 n2 c2] w fun e w' => e = .returned (.bool (decide (l = m))) ∧ Hid (Below w.heap.size w w') := by
  generalize hr : decide (l = m) = r
  have HR := Lib.hid hr
  have H1 := Lib.hid h1
  have H2 := Lib.hid h2
  have N1 := Lib.hid hn1
  have N2 := Lib.hid hn2
  clear hr h1 h2 hn1 hn2
  go_enter Try.func44, Try.ntmps44
  by_cases hnn : n1 = n2
  · subst hnn
    go_wp2
    go_loopw [5] (fun i wr => ∃ k q : Nat, k ≤ n1 ∧ i = .int .i64 k ∧ wr = w.drewN q ∧ Hid (∀ j, j < k → atL l j = atL m j)) (fun i _ => n1 - (intOf i).toNat)
    case atStart => exact ⟨0, 0, Nat.zero_le _, rfl, rfl, Lib.hid fun j hj => absurd hj (Nat.not_lt_zero _)⟩
    case round =>
      obtain ⟨k, q, hk, rfl, rfl, hall⟩ := hrel
      by_cases hlt : k < n1
      · obtain ⟨b, off, rfl, hbb, c1, c2⟩ := H1.out.at_ (k := k) (by rw [N1.out]; exact hlt)
        obtain ⟨b', off', rfl, hbb', d1, d2⟩ := H2.out.at_ (k := k) (by rw [N2.out]; exact hlt)
        have g0 : (0 : Int) ≤ (k : Int) := by omega
        have g1 : (k : Int) < (n1 : Int) := by omega
        have he := fun w => ne_run (atL l k).1 (atL l k).2 (atL m k).1 (atL m k).2 w
        have hg := fun op a b w => guard_run op a b (atL l k).1 (atL l k).2 (atL m k).1 (atL m k).2 w
        have E1 := Lib.hid (show ((atL l k).1, (atL l k).2) = atL l k from rfl)
        have E2 := Lib.hid (show ((atL m k).1, (atL m k).2) = atL m k from rfl)
        generalize (atL l k).1 = x1 at *
        generalize (atL l k).2 = x2 at *
        generalize (atL m k).1 = y1 at *
        generalize (atL m k).2 = y2 at *
        by_cases hx : ((x1, x2) : Life) = (y1, y2)
        · have HX := Lib.hid hx
          rw [decide_eq_true hx] at he
          clear hx
          go_wp2_with fail
          go_quiet (fail)
          go_wp2
          go_roundw
          case rel => exact ⟨k + 1, q + nq, by omega, by go_num, rfl, Lib.hid fun j hj => by
            by_cases hjk : j = k
            · subst hjk
              rw [← E1.out, HX.out, E2.out]
            · exact hall.out j (by omega)⟩
          case measure => simp [intOf]; omega
        · have HX := Lib.hid hx
          rw [decide_eq_false hx] at he
          clear hx
          go_wp2_with fail
          go_quiet (fail)
          go_wp2
          go_ret
          have : l ≠ m := fun e => HX.out (by rw [E1.out, E2.out, e])
          refine ⟨?_, Lib.hid ⟨rfl, rfl, rfl, Nat.le_refl _, fun _ _ => rfl⟩⟩
          rw [← HR.out, decide_eq_false this]
          rfl
      · obtain rfl : k = n1 := by omega
        have g1 : ¬ (k : Int) < (k : Int) := by omega
        go_wp2
        go_ret
        have : l = m := lives_ext (N1.out.trans N2.out.symm) (by rw [N1.out]; exact hall.out)
        refine ⟨?_, Lib.hid (below_drewN' _)⟩
        rw [← HR.out, decide_eq_true this]
        rfl
  · have hne : ((n1 : Int) != (n2 : Int)) = true := by simp; omega
    go_wp2
    go_ret
    have : l ≠ m := fun e => hnn (by rw [← N1.out, ← N2.out, e])
    refine ⟨?_, Lib.hid (Below.refl _ _)⟩
    rw [← HR.out, decide_eq_false this]
    rfl
set_option maxHeartbeats 1000000 in
theorem sequal_any (A1 : Option Addr) (l : List Life) (n1 c1 : Nat) (A2 : Option Addr) (m : List Life) (n2 c2 : Nat) (w : World) (h1 : Lives w w.heap.size A1 l) (h2 : Lives w w.heap.size A2 m) (hn1 : l.length = n1) (hn2 : m.length = n2) (hb : n1 ≤ 1099511627776) (hb2 : n2 ≤ 1099511627776) :
    Calls Try.prog 92 #[.slice A1 n1 c1, .slice A2 n2 c2] w fun e w' => e = .returned (.bool (decide (l = m))) ∧ Hid (Below w.heap.size w w') := by
  generalize hr : decide (l = m) = r
  have HR := Lib.hid hr
  have H1 := Lib.hid h1
  have H2 := Lib.hid h2
  have N1 := Lib.hid hn1
  have N2 := Lib.hid hn2
  clear hr h1 h2 hn1 hn2
  go_enter Try.func92, Try.ntmps92
  by_cases hnn : n1 = n2
  · subst hnn
    go_wp2
    go_loopw [13] (fun i wr => ∃ k q : Nat, k ≤ n1 ∧ i = .int .i64 k ∧ wr = w.drewN q ∧ Hid (∀ j, j < k → atL l j = atL m j)) (fun i _ => n1 - (intOf i).toNat)
    case atStart => exact ⟨0, 0, Nat.zero_le _, rfl, rfl, Lib.hid fun j hj => absurd hj (Nat.not_lt_zero _)⟩
    case round =>
      obtain ⟨k, q, hk, rfl, rfl, hall⟩ := hrel
      by_cases hlt : k < n1
      · obtain ⟨b, off, rfl, hbb, c1, c2⟩ := H1.out.at_ (k := k) (by rw [N1.out]; exact hlt)
        obtain ⟨b', off', rfl, hbb', d1, d2⟩ := H2.out.at_ (k := k) (by rw [N2.out]; exact hlt)
        have g0 : (0 : Int) ≤ (k : Int) := by omega
        have g1 : (k : Int) < (n1 : Int) := by omega
        have he := fun w => ne_run (atL l k).1 (atL l k).2 (atL m k).1 (atL m k).2 w
        have hg := fun op a b w => guard_run op a b (atL l k).1 (atL l k).2 (atL m k).1 (atL m k).2 w
        have E1 := Lib.hid (show ((atL l k).1, (atL l k).2) = atL l k from rfl)
        have E2 := Lib.hid (show ((atL m k).1, (atL m k).2) = atL m k from rfl)
        generalize (atL l k).1 = x1 at *
        generalize (atL l k).2 = x2 at *
        generalize (atL m k).1 = y1 at *
        generalize (atL m k).2 = y2 at *
        by_cases hx : ((x1, x2) : Life) = (y1, y2)
        · have HX := Lib.hid hx
          rw [decide_eq_true hx] at he
          clear hx
          go_wp2_with fail
          go_quiet (fail)
          go_wp2
          go_roundw
          case rel => exact ⟨k + 1, q + nq, by omega, by go_num, rfl, Lib.hid fun j hj => by
            by_cases hjk : j = k
            · subst hjk
              rw [← E1.out, HX.out, E2.out]
            · exact hall.out j (by omega)⟩
          case measure => simp [intOf]; omega
        · have HX := Lib.hid hx
          rw [decide_eq_false hx] at he
          clear hx
          go_wp2_with fail
          go_quiet (fail)
          go_wp2
          go_ret
          have : l ≠ m := fun e => HX.out (by rw [E1.out, E2.out, e])
          refine ⟨?_, Lib.hid ⟨rfl, rfl, rfl, Nat.le_refl _, fun _ _ => rfl⟩⟩
          rw [← HR.out, decide_eq_false this]
          rfl
      · obtain rfl : k = n1 := by omega
        have g1 : ¬ (k : Int) < (k : Int) := by omega
        go_wp2
        go_ret
        have : l = m := lives_ext (N1.out.trans N2.out.symm) (by rw [N1.out]; exact hall.out)
        refine ⟨?_, Lib.hid (below_drewN' _)⟩
        rw [← HR.out, decide_eq_true this]
        rfl
  · have hne : ((n1 : Int) != (n2 : Int)) = true := by simp; omega
    go_wp2
    go_ret
    have : l ≠ m := fun e => hnn (by rw [← N1.out, ← N2.out, e])
    refine ⟨?_, Lib.hid (Below.refl _ _)⟩
    rw [← HR.out, decide_eq_false this]
    rfl
/-- Index: where a life is first among a list's; below 0 if nowhere. -/
def idxIs (l : List Life) (p : Life) (r : Int) : Prop := 0 ≤ r ↔ p ∈ l
set_option maxHeartbeats 1000000 in
theorem index_any (A : Option Addr) (l : List Life) (n c : Nat) (p : Life) (w : World) (h : Lives w w.heap.size A l) (hn : l.length = n) (hb : n ≤ 1099511627776) :
    Calls Try.prog 103 #[.slice A n c, lifeV p] w fun e w' => ∃ r : Int, e = .returned (.int .i64 r) ∧ Hid (idxIs l p r) ∧ Hid (Below w.heap.size w w') := by
  have B1 := Lib.hid ((Below.refl w.heap.size w).alloc (Nat.le_refl _) (.cells #[.int .i64 p.1, .int .u64 p.2] 70))
  have k1 := cell_at_new w #[.int .i64 p.1, .int .u64 p.2] 70 0 _ rfl
  have k2 := cell_at_new w #[.int .i64 p.1, .int .u64 p.2] 70 1 _ rfl
  obtain ⟨p1, p2⟩ := p
  simp only at B1 k1 k2
  have HL := Lib.hid h
  have HN := Lib.hid hn
  clear h hn
  go_enter Try.func103, Try.ntmps103
  go_wp2_with fail
  generalize w.alloc (.cells #[.int .i64 p1, .int .u64 p2] 70) = W2 at *
  generalize hB : w.heap.size = B at k1 k2 ⊢
  have HB := Lib.hid hB
  clear hB
  go_loopw [8] (fun i wr => ∃ k q : Nat, k ≤ n ∧ i = .int .i64 k ∧ wr = W2.drewN q ∧ Hid (∀ j, j < k → atL l j ≠ (p1, p2))) (fun i _ => n - (intOf i).toNat)
  case atStart => exact ⟨0, 0, Nat.zero_le _, rfl, rfl, Lib.hid fun j hj => absurd hj (Nat.not_lt_zero _)⟩
  case round =>
    obtain ⟨k, q, hk, rfl, rfl, hall⟩ := hrel
    by_cases hlt : k < n
    · obtain ⟨b, off, rfl, hbb, hc1, hc2⟩ := (HL.out.below B1.out).at_ (k := k) (by rw [HN.out]; exact hlt)
      have g0 : (0 : Int) ≤ (k : Int) := by omega
      have g1 : (k : Int) < (n : Int) := by omega
      have he := fun w => eq_run p1 p2 (atL l k).1 (atL l k).2 w
      have hg := fun op a b w => guard_run op a b p1 p2 (atL l k).1 (atL l k).2 w
      have HE := Lib.hid (show ((atL l k).1, (atL l k).2) = atL l k from rfl)
      generalize (atL l k).1 = x1 at *
      generalize (atL l k).2 = x2 at *
      by_cases hx : ((p1, p2) : Life) = (x1, x2)
      · have HX := Lib.hid hx
        rw [decide_eq_true hx] at he
        clear hx
        go_wp2_with fail
        go_quiet (fail)
        go_wp2
        go_ret
        refine ⟨(k : Int), rfl, Lib.hid ⟨fun _ => ?_, fun _ => by omega⟩, Lib.hid ⟨B1.out.os, B1.out.tape, B1.out.output, B1.out.size, B1.out.block⟩⟩
        rw [HX.out, HE.out]
        exact atL_mem (by rw [HN.out]; exact hlt)
      · have HX := Lib.hid hx
        rw [decide_eq_false hx] at he
        clear hx
        go_wp2_with fail
        go_quiet (fail)
        go_wp2
        go_roundw
        case rel => exact ⟨k + 1, q + nq, by omega, by go_num, rfl, Lib.hid fun j hj e => by
          by_cases hjk : j = k
          · subst hjk
            exact HX.out (by rw [HE.out, e])
          · exact hall.out j (by omega) e⟩
        case measure => simp [intOf]; omega
    · obtain rfl : k = n := by omega
      have g1 : ¬ (k : Int) < (k : Int) := by omega
      go_wp2
      go_ret
      have : ((p1, p2) : Life) ∉ l := mem_upto.1 (by rw [HN.out]; exact hall.out)
      exact ⟨-1, rfl, Lib.hid ⟨fun h => absurd h (by omega), fun h => absurd h this⟩, Lib.hid ⟨B1.out.os, B1.out.tape, B1.out.output, B1.out.size, B1.out.block⟩⟩
set_option maxHeartbeats 1000000 in
theorem contains_any (A : Option Addr) (l : List Life) (n c : Nat) (p : Life) (w : World) (h : Lives w w.heap.size A l) (hn : l.length = n) (hb : n ≤ 1099511627776) :
    Calls Try.prog 86 #[.slice A n c, lifeV p] w fun e w' => e = .returned (.bool (decide (p ∈ l))) ∧ Hid (Below w.heap.size w w') := by
  have B1 := Lib.hid ((Below.refl w.heap.size w).alloc (Nat.le_refl _) (.cells #[.int .i64 p.1, .int .u64 p.2] 70))
  have k1 := cell_at_new w #[.int .i64 p.1, .int .u64 p.2] 70 0 _ rfl
  have k2 := cell_at_new w #[.int .i64 p.1, .int .u64 p.2] 70 1 _ rfl
  have HI := Lib.hid (index_any A l n c p (w.alloc (.cells #[.int .i64 p.1, .int .u64 p.2] 70)) (h.on B1.out) hn hb)
  generalize hr : decide (p ∈ l) = r
  have HR := Lib.hid hr
  clear hr h
  obtain ⟨p1, p2⟩ := p
  simp only at B1 k1 k2
  go_enter Try.func86, Try.ntmps86
  go_wp2_with fail
  refine HI.out.mono ?_
  rintro e W3 ⟨i, rfl, hi, hb3⟩
  by_cases h0 : 0 ≤ i
  · have : r = true := by rw [← HR.out]; exact decide_eq_true (hi.out.1 h0)
    subst this
    go_wp2
    go_ret
    exact ⟨rfl, Lib.hid (btr B1.out hb3.out)⟩
  · have : r = false := by rw [← HR.out]; exact decide_eq_false (fun h => h0 (hi.out.2 h))
    subst this
    go_wp2
    go_ret
    exact ⟨by rw [show decide (0 ≤ i) = false from decide_eq_false (by omega)]; rfl, Lib.hid (btr B1.out hb3.out)⟩
theorem has_any (A : Option Addr) (l : List Life) (n c : Nat) (p : Life) (w : World) (h : Lives w w.heap.size A l) (hn : l.length = n) (hb : n ≤ 1099511627776) :
    Calls Try.prog 48 #[.slice A n c, lifeV p] w fun e w' => e = .returned (.bool (decide (p ∈ l))) ∧ Hid (Below w.heap.size w w') := by
  have B1 := Lib.hid ((Below.refl w.heap.size w).alloc (Nat.le_refl _) (.cells #[.int .i64 p.1, .int .u64 p.2] 70))
  have k1 := cell_at_new w #[.int .i64 p.1, .int .u64 p.2] 70 0 _ rfl
  have k2 := cell_at_new w #[.int .i64 p.1, .int .u64 p.2] 70 1 _ rfl
  have HI := Lib.hid (contains_any A l n c p (w.alloc (.cells #[.int .i64 p.1, .int .u64 p.2] 70)) (h.on B1.out) hn hb)
  generalize hr : decide (p ∈ l) = r at *
  clear hr h
  obtain ⟨p1, p2⟩ := p
  simp only at B1 k1 k2
  go_enter Try.func48, Try.ntmps48
  go_wp2_with fail
  refine HI.out.mono ?_
  rintro e W3 ⟨rfl, hb3⟩
  go_wp2
  go_ret
  exact ⟨rfl, Lib.hid (btr B1.out hb3.out)⟩
end Go.Proofs.Ytadpbcbgmopfaaa
