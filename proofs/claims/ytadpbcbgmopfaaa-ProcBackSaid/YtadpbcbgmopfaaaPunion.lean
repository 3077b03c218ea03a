/-
  Lists of lists of lives: whether the statements call them heavy; the library's Grow and Concat, the program's Union. For at most 2^30 lists of at most 2^40 lives together.
-/
import Derived.Test.YtadpbcbgmopfaaaPsort
import Derived.Lib.AppendZerosOnto
namespace Go.Proofs.Ytadpbcbgmopfaaa
set_option maxRecDepth 20000
open Go.RowKit

abbrev listAt (ls : List (List Life)) (k : Nat) : List Life := ls.getD k []
/-- A slice's address under which these lists lie. -/
def ListsP (w : World) (B : Nat) (A : Option Addr) (ls : List (List Life)) : Prop :=
  0 < ls.length → ∃ b off, A = some ⟨b, off, none⟩ ∧ b < B ∧ ∀ k, k < ls.length → ∃ A' cap, w.cell? ⟨b, off + k, none⟩ = some (.slice A' (listAt ls k).length cap) ∧ Lives w B A' (listAt ls k) ∧ (A' = none → cap = 0)
theorem ListsP.below {w w' : World} {B : Nat} {A : Option Addr} {ls : List (List Life)} (h : ListsP w B A ls) (hb : Below B w w') : ListsP w' B A ls := fun hn => by
  obtain ⟨b, off, e, hlt, hc⟩ := h hn
  refine ⟨b, off, e, hlt, fun k hk => ?_⟩
  obtain ⟨A', cap, h1, h2, h3⟩ := hc k hk
  exact ⟨A', cap, (hb.cell (p := ⟨b, off + k, none⟩) hlt).trans h1, h2.below hb, h3⟩
theorem ListsP.on {w w' : World} {A : Option Addr} {ls : List (List Life)} (h : ListsP w w.heap.size A ls) (hb : Below w.heap.size w w') : ListsP w' w'.heap.size A ls := fun hn => by
  obtain ⟨b, off, e, hlt, hc⟩ := h.below hb hn
  refine ⟨b, off, e, Nat.lt_of_lt_of_le hlt hb.size, fun k hk => ?_⟩
  obtain ⟨A', cap, h1, h2, h3⟩ := hc k hk
  exact ⟨A', cap, h1, h2.more hb.size, h3⟩
/-- Are lists longer than the statements go through? -/
def heavyB (ls : List (List Life)) : Bool := decide (∃ k, k < ls.length ∧ 300 < (listAt ls k).length) || decide (20 < ls.length)
set_option maxHeartbeats 1000000 in
theorem heavy_any (A : Option Addr) (ls : List (List Life)) (n c : Nat) (w : World) (h : ListsP w w.heap.size A ls) (hn : ls.length = n) (hb : n ≤ 9223372036854775807) :
    Calls Try.prog 42 #[.slice A n c] w fun e w' => e = .returned (.bool (heavyB ls)) ∧ w' = w := by
  generalize hr : heavyB ls = r
  have HR := Lib.hid hr
  have HL := Lib.hid h
  have HN := Lib.hid hn
  clear hr h hn
  go_enter Try.func42, Try.ntmps42
  go_wp2
  go_loopw [3] (fun i wr => ∃ k : Nat, k ≤ n ∧ i = .int .i64 k ∧ wr = w ∧ Hid (∀ j, j < k → (listAt ls j).length ≤ 300)) (fun i _ => n - (intOf i).toNat)
  case atStart => exact ⟨0, Nat.zero_le _, rfl, rfl, Lib.hid fun j hj => absurd hj (Nat.not_lt_zero _)⟩
  case round =>
    obtain ⟨k, hk, rfl, rfl, hall⟩ := hrel
    by_cases hlt : k < n
    · obtain ⟨b, off, rfl, hbb, hc⟩ := HL.out (by rw [HN.out]; omega)
      obtain ⟨A', cap, hc1, -, -⟩ := hc k (by rw [HN.out]; exact hlt)
      have g0 : (0 : Int) ≤ (k : Int) := by omega
      have g1 : (k : Int) < (n : Int) := by omega
      have HX := Lib.hid (show (∀ j, j < k → (listAt ls j).length ≤ 300) → (listAt ls k).length ≤ 300 → ∀ j, j < k + 1 → (listAt ls j).length ≤ 300 from fun h1 h2 j hj => by
        by_cases e : j = k
        · subst e; exact h2
        · exact h1 j (by omega))
      have HY := Lib.hid (show 300 < (listAt ls k).length → heavyB ls = true from fun h => by
        unfold heavyB
        rw [decide_eq_true ⟨k, by rw [HN.out]; exact hlt, h⟩]
        rfl)
      clear hc
      generalize (listAt ls k).length = m at *
      by_cases hm : 300 < m
      · have hm' : (300 : Int) < (m : Int) := by omega
        have : r = true := by rw [← HR.out]; exact HY.out hm
        subst this
        go_wp2
        go_ret
        exact ⟨rfl, rfl⟩
      · have hm' : ¬ (300 : Int) < (m : Int) := by omega
        go_wp2
        go_roundw
        case rel => exact ⟨k + 1, by omega, by go_num, by first | rfl | trivial, Lib.hid (HX.out hall.out (by omega))⟩
        case measure => simp [intOf]; omega
    · obtain rfl : k = n := by omega
      have g1 : ¬ (k : Int) < (k : Int) := by omega
      have e0 : decide (∃ j, j < ls.length ∧ 300 < (listAt ls j).length) = false := decide_eq_false fun ⟨j, h1, h2⟩ => by
        have := hall.out j (by rw [← HN.out]; exact h1)
        omega
      by_cases h20 : 20 < k
      · have h20' : (20 : Int) < (k : Int) := by omega
        have : r = true := by rw [← HR.out]; unfold heavyB; rw [HN.out, decide_eq_true h20, Bool.or_true]
        subst this
        clear e0
        go_wp2
        go_ret
        exact ⟨rfl, rfl⟩
      · have h20' : ¬ (20 : Int) < (k : Int) := by omega
        have : r = false := by rw [← HR.out]; unfold heavyB; rw [e0, HN.out, decide_eq_false h20]; rfl
        subst this
        clear e0
        go_wp2
        go_ret
        exact ⟨rfl, rfl⟩

theorem OwnP.base {w : World} {base n cap : Nat} {A : Option Addr} {l : List Life} (h : OwnP w base A n cap l) : ∀ k, blockOf A = some k → base ≤ k := fun k e => by
  rcases h.form with ⟨rfl, _⟩ | ⟨g, rfl, hg, _⟩
  · cases e
  · obtain rfl : g = k := by simpa [blockOf] using e
    exact hg
theorem OwnP.cut {w : World} {base n cap : Nat} {A : Option Addr} {l : List Life} (h : OwnP w base A n cap l) (k : Nat) (hk : k ≤ n) (hA : A ≠ none) : OwnP w base A k cap (l.take k) := by
  have hl := h.len
  refine ⟨by rw [flatP_length, List.length_take]; omega, ?_⟩
  rcases h.2 with ⟨hv, hx⟩ | ⟨g, c, cur, hv, hb, hh, hnc, hm, hcs, htk⟩
  · exact absurd (by simpa using hv : A = none ∧ n = 0 ∧ cap = 0).1 hA
  · have hv' : A = some ⟨g, 0, none⟩ ∧ cap = c := by simpa using hv
    obtain ⟨rfl, rfl⟩ := hv'
    refine .inr ⟨g, cap, cur, rfl, hb, hh, by omega, hm, hcs, ?_⟩
    have e : flatP l = flatP (l.take k) ++ flatP (l.drop k) := by rw [← flatP_append, List.take_append_drop]
    have e2 : cur.toList.take (k * 2) = (cur.toList.take (n * 2)).take (k * 2) := by rw [List.take_take, Nat.min_eq_left (by omega)]
    rw [e2, htk, e, List.take_append_of_le_length (by rw [flatP_length, List.length_take]; omega), List.take_of_length_le (by rw [flatP_length, List.length_take]; omega)]
theorem zeros_flat : ∀ k : Nat, (Builtin.zeroCells #[.int .i64 0, .int .u64 0] k).toList = flatP (List.replicate k (0, 0)) := by
  intro k
  apply List.ext_getElem?
  intro j
  by_cases hj : j < k * 2
  · have hz : (Builtin.zeroCells #[.int .i64 0, .int .u64 0] k).toList[j]? = some (#[Value.int .i64 0, Value.int .u64 0][j % 2]!) := by
      simp [Builtin.zeroCells, hj]
    obtain ⟨h1, h2⟩ := flatP_get (List.replicate k (0, 0)) (j / 2) (by simp; omega)
    have e0 : atL (List.replicate k ((0 : Int), (0 : Int))) (j / 2) = (0, 0) := by simp [atL, List.getD, show j / 2 < k by omega]
    rw [e0] at h1 h2
    rw [hz]
    rcases Nat.mod_two_eq_zero_or_one j with e | e
    · rw [show j / 2 * 2 = j by omega] at h1
      rw [h1, e]; rfl
    · rw [show j / 2 * 2 + 1 = j by omega] at h2
      rw [h2, e]; rfl
  · rw [List.getElem?_eq_none (by simp [Builtin.zeroCells]; omega), List.getElem?_eq_none (by rw [flatP_length]; simp; omega)]
set_option maxHeartbeats 1000000 in
theorem grow_nil (n : Nat) (w : World) (hb : n ≤ 1099511627776) :
    Calls Try.prog 104 #[.slice none 0 0, .int .i64 (n : Int)] w fun e w' => ∃ A' c', e = .returned (.slice A' 0 c') ∧ Hid (OwnP w' w.heap.size A' 0 c' []) ∧ Hid (Below w.heap.size w w') := by
  have h1 : ¬ ((n : Int) < 0) := by omega
  have h2 : wrap64 ((0 : Int) - (0 : Int)) = 0 := by unfold wrap64; omega
  have h3 : wrap64 ((n : Int) - 0) = (n : Int) := by unfold wrap64; omega
  by_cases h0 : n = 0
  · subst h0
    go_enter Try.func104, Try.ntmps104
    go_wp2
    go_ret
    exact ⟨none, 0, rfl, Lib.hid OwnP.nil_, Lib.hid (Below.refl _ _)⟩
  · have h4 : (0 : Int) < (n : Int) := by omega
    obtain ⟨i0, hi0, hz0, hz1, hz2⟩ := info_parts Try.infoP
    have hold : (Builtin.firstCells i0.size 0 (.slice none 0 0)).run Try.prog w.drew = .ok ([] : List Value).toArray w.drew := run_firstCells_none w.drew i0.size 0 0 0
    have hrz : ∀ ty, (Builtin.append_ #[74, 3] ty #[.slice none 0 0, .int .i64 (n : Int)]).run Try.prog w = _ := fun ty => Lib.run_append_grow_zeros w 74 3 ty 70 i0 _ .i64 .i64 Try.underlying74 Try.underlying3 hi0 hz0 none 0 0 [] hold n (by omega) (by omega) (by omega) (by omega) (by rw [hz2]; omega) (growslice_fits (by omega) (by rw [hz2]; omega))
    have hge := grownCap_ge w (0 + n) 0 70
    have hmx := grownCap_le_maxLen w (0 + n) 0 70 (by unfold maxLen; omega)
    have hcells : (Value.agg #[.int .i64 0, .int .u64 0]).cells = #[.int .i64 0, .int .u64 0] := rfl
    rw [hcells] at hrz
    generalize grownCap w (0 + n) 0 70 = G at *
    rw [Nat.zero_add] at hrz hge
    have HO := Lib.hid (show OwnP (w.drew.alloc (.cells (([] : List Value).toArray ++ Builtin.zeroCells #[.int .i64 0, .int .u64 0] n ++ Builtin.zeroCells #[.int .i64 0, .int .u64 0] (G - n)) 70)) w.heap.size (some ⟨w.heap.size, 0, none⟩) n G (List.replicate n (0, 0)) from by
      refine ⟨by rw [flatP_length]; simp, .inr ⟨w.heap.size, G, _, rfl, Nat.le_refl _, heap_alloc_new w.drew _, hge, hmx, ?_, ?_⟩⟩
      · simp [Builtin.zeroCells]; omega
      · rw [← zeros_flat]
        simp only [Array.toList_append, List.nil_append]
        rw [List.take_append_of_le_length (by simp [Builtin.zeroCells]), List.take_of_length_le (by simp [Builtin.zeroCells])])
    have HB := Lib.hid (show Below w.heap.size w (w.drew.alloc (.cells (([] : List Value).toArray ++ Builtin.zeroCells #[.int .i64 0, .int .u64 0] n ++ Builtin.zeroCells #[.int .i64 0, .int .u64 0] (G - n)) 70)) from ((Below.refl _ w).drew).alloc (Nat.le_refl _) _)
    clear hold hi0 hz0 hz1 hz2 hcells
    generalize (w.drew.alloc (.cells (([] : List Value).toArray ++ Builtin.zeroCells #[.int .i64 0, .int .u64 0] n ++ Builtin.zeroCells #[.int .i64 0, .int .u64 0] (G - n)) 70)) = W2 at *
    have HGn := Lib.hid hge
    have g63 : G ≤ 9223372036854775807 := by unfold maxLen at hmx; omega
    clear hmx
    go_enter Try.func104, Try.ntmps104
    go_wp2_with (at_builtin; refine Lib.wpList_append_run _ rfl _ _ _ _ rfl _ _ rfl rfl _ _ (hrz _) ?_)
    go_ret
    exact ⟨_, G, rfl, Lib.hid (by simpa using HO.out.cut 0 (Nat.zero_le _) (by simp)), HB⟩

/-- How many lives the first k lists have. -/
def lenUpTo (ls : List (List Life)) (k : Nat) : Nat := (ls.take k).flatten.length
theorem take_flat_succ (ls : List (List Life)) (k : Nat) (hk : k < ls.length) : (ls.take (k + 1)).flatten = (ls.take k).flatten ++ listAt ls k := by
  rw [List.take_add_one, List.getElem?_eq_getElem hk]
  have : listAt ls k = ls[k] := by simp [listAt, List.getD, hk]
  rw [this]
  simp only [Option.toList, List.flatten_append, List.flatten_cons, List.flatten_nil, List.append_nil]
theorem lenUpTo_succ (ls : List (List Life)) (k : Nat) (hk : k < ls.length) : lenUpTo ls (k + 1) = lenUpTo ls k + (listAt ls k).length := by
  unfold lenUpTo
  rw [take_flat_succ ls k hk, List.length_append]
theorem lenUpTo_le (ls : List (List Life)) : ∀ k, k ≤ ls.length → lenUpTo ls k ≤ ls.flatten.length := by
  intro k _
  have e : ls.flatten = (ls.take k).flatten ++ (ls.drop k).flatten := by rw [← List.flatten_append, List.take_append_drop]
  rw [e, List.length_append]
  unfold lenUpTo
  omega
set_option maxHeartbeats 2000000 in
theorem concat_any (A : Option Addr) (ls : List (List Life)) (n c : Nat) (w : World) (h : ListsP w w.heap.size A ls) (hn : ls.length = n) (hb : n ≤ 1073741824) (hs : ls.flatten.length ≤ 1099511627776) :
    Calls Try.prog 88 #[.slice A n c] w fun e w' => ∃ A' c', e = .returned (.slice A' ls.flatten.length c') ∧ Hid (OwnP w' w.heap.size A' ls.flatten.length c' ls.flatten) ∧ Hid (Below w.heap.size w w') := by
  have HL := Lib.hid h
  have HN := Lib.hid hn
  have HTot := Lib.hid (show lenUpTo ls n = ls.flatten.length by unfold lenUpTo; rw [← hn, List.take_length])
  clear h hn
  have HB := Lib.hid (fun k (hk : k ≤ n) => Nat.le_trans (lenUpTo_le ls k (by rw [HN.out]; exact hk)) hs)
  generalize ls.flatten.length = tot at *
  go_enter Try.func88, Try.ntmps88
  go_wp2
  go_loopw [3, 11] (fun s i wr => ∃ k : Nat, k ≤ n ∧ s = .int .i64 (lenUpTo ls k : Nat) ∧ i = .int .i64 k ∧ Hid (wr = w)) (fun _ i _ => n - (intOf i).toNat)
  case atStart => exact ⟨0, Nat.zero_le _, by simp [lenUpTo], rfl, Lib.hid rfl⟩
  case round =>
    obtain ⟨k, hk, rfl, rfl, hwr⟩ := hrel
    by_cases hlt : k < n
    · have hwr' := hwr.out
      subst hwr'
      obtain ⟨b, off, rfl, hbb, hc⟩ := HL.out (by rw [HN.out]; omega)
      obtain ⟨A', cap, hc1, -, -⟩ := hc k (by rw [HN.out]; exact hlt)
      have g0 : (0 : Int) ≤ (k : Int) := by omega
      have g1 : (k : Int) < (n : Int) := by omega
      have hl1 := lenUpTo_succ ls k (by rw [HN.out]; exact hlt)
      have hl2 := HB.out (k + 1) (by omega)
      have HE := Lib.hid hl1
      rw [hl1] at hl2
      clear hc hl1
      generalize (listAt ls k).length = m at *
      generalize lenUpTo ls k = t at *
      have e1 : IntKind.i64.wrap ((t : Int) + (m : Int)) = ((t + m : Nat) : Int) := by simp [IntKind.wrap, IntKind.bits, IntKind.signed]; omega
      have e2 : wrap64 ((t : Int) + (m : Int)) = ((t + m : Nat) : Int) := by unfold wrap64; omega
      have e3 : ¬ ((t : Int) + (m : Int)) < 0 := by omega
      have e4 : ¬ ((t + m : Nat) : Int) < 0 := by omega
      go_wp2
      go_roundw
      case rel => exact ⟨k + 1, by omega, by rw [HE.out]; go_num, by go_num, Lib.hid (by first | rfl | trivial)⟩
      case measure => simp [intOf]; omega
    · obtain rfl : k = n := by omega
      have g1 : ¬ (k : Int) < (k : Int) := by omega
      have hwr' := hwr.out
      subst hwr'
      rw [HTot.out]
      have HG := Lib.hid (grow_nil tot wr hs)
      have HTk := Lib.hid (show ls.take k = ls by rw [← HN.out, List.take_length])
      have HTot2 := HTot
      go_wp2_with fail
      refine HG.out.mono ?_
      rintro e W1 ⟨A1, c1, rfl, ho1, hb1⟩
      clear hwr HG HTot
      go_wp2
      obtain ⟨w0, hw0⟩ : ∃ w0, w0 = wr := ⟨_, rfl⟩
      subst hw0
      obtain ⟨n0, hn0⟩ : ∃ n0, n0 = k := ⟨_, rfl⟩
      subst hn0
      go_loopw [6, 27] (fun s i wr => ∃ k : Nat, ∃ A' c', k ≤ n0 ∧ s = .slice A' (lenUpTo ls k) c' ∧ i = .int .i64 k ∧ Hid (OwnP wr w0.heap.size A' (lenUpTo ls k) c' (ls.take k).flatten) ∧ Hid (Below w0.heap.size w0 wr)) (fun _ i _ => n0 - (intOf i).toNat)
      case atStart => exact ⟨0, A1, c1, Nat.zero_le _, by simp [lenUpTo], rfl, Lib.hid (by simpa [lenUpTo] using ho1.out), hb1⟩
      case round =>
        obtain ⟨k, A2, c2, hk2, rfl, rfl, ho2, hb2⟩ := hrel
        by_cases hlt2 : k < n0
        · obtain ⟨b, off, rfl, hbb, hc⟩ := HL.out.below hb2.out (by rw [HN.out]; omega)
          obtain ⟨A', cap, hc1, hl1, hA1⟩ := hc k (by rw [HN.out]; exact hlt2)
          have g0 : (0 : Int) ≤ (k : Int) := by omega
          have g1 : (k : Int) < (n0 : Int) := by omega
          have hle := lenUpTo_succ ls k (by rw [HN.out]; exact hlt2)
          have hl2 := HB.out (k + 1) (by omega)
          have HE := Lib.hid hle
          have HF := Lib.hid (take_flat_succ ls k (by rw [HN.out]; exact hlt2))
          rw [hle] at hl2
          have HLen := Lib.hid (show (listAt ls k).length = (listAt ls k).length from rfl)
          have HX := Lib.hid hl1
          clear hc hle hl1
          generalize hxs : listAt ls k = xs at *
          clear hxs
          generalize hm : xs.length = m at *
          have HM := Lib.hid hm
          clear hm HLen
          generalize lenUpTo ls k = t at *
          go_wp2_with (at_builtin; refine wpList_appendP rfl _ _ rfl w0.heap.size A2 t c2 (ls.take k).flatten rfl ?qc0 ho2.out A' m cap w0.heap.size xs rfl ?qc1 ?qc2 ?qc3 ?qc4 ?_)
          case qc0 => exact hb2.out.size
          case qc1 => exact HM.out
          case qc2 => exact hA1
          case qc3 => exact HX.out
          case qc4 => omega
          intro A3 c3 W3 h1 h2 h3
          go_wp2
          go_roundw
          case rel => exact ⟨k + 1, A3, c3, by omega, by rw [HE.out], by go_num, Lib.hid (by rw [HE.out, HF.out]; exact h1.out), Lib.hid (h2.out.below hb2.out (ho2.out.base) hb2.out.size)⟩
          case measure => simp [intOf]; omega
        · obtain rfl : k = n0 := by omega
          have g1 : ¬ (k : Int) < (k : Int) := by omega
          rw [HTot2.out]
          have ho2 := ho2.out
          rw [HTot2.out, HTk.out] at ho2
          have ho2 := Lib.hid ho2
          go_wp2
          go_ret
          exact ⟨A2, c2, rfl, ho2, hb2⟩
set_option maxHeartbeats 1000000 in
theorem union_any (A : Option Addr) (ls : List (List Life)) (n c : Nat) (w : World) (h : ListsP w w.heap.size A ls) (hn : ls.length = n) (hb : n ≤ 1073741824) (hs : ls.flatten.length ≤ 1099511627776) :
    Calls Try.prog 53 #[.slice A n c] w fun e w' => ∃ A' c', e = .returned (.slice A' (setL ls.flatten).length c') ∧ Hid (Lives w' w'.heap.size A' (setL ls.flatten)) ∧ Hid (A' = none → c' = 0) ∧ Hid ((setL ls.flatten).length ≤ c') ∧ Hid (Below w.heap.size w w') := by
  have HC := Lib.hid (concat_any A ls n c w h hn hb hs)
  clear h hn
  go_enter Try.func53, Try.ntmps53
  go_wp2_with fail
  refine HC.out.mono ?_
  rintro e W1 ⟨A1, c1, rfl, ho1, hb1⟩
  have HS := Lib.hid (sorted_any A1 ls.flatten ls.flatten.length c1 W1 ho1.out.lives rfl hs ho1.out.none_cap)
  clear HC ho1
  generalize ls.flatten.length = tot at *
  go_wp2_with fail
  refine HS.out.mono ?_
  rintro e W2 ⟨A2, c2, rfl, hl2, hA2, hc2, hb2⟩
  go_wp2
  go_ret
  exact ⟨A2, c2, rfl, hl2, hA2, hc2, Lib.hid (btr hb1.out hb2.out)⟩
end Go.Proofs.Ytadpbcbgmopfaaa
