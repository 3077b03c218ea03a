/-
  The nodes of lives: the program's answer and the document's. For lists of at most 2^38 lives.
-/
import Derived.Test.YtadpbcbgmopfaaaPints
import Derived.Test.YtadpbcbgmopfaaaPsort
import Derived.Test.YtadpbcbgmopfaaaPrsort
import Derived.Test.YtadpbcbgmopfaaaPlist
import Derived.Test.YtadpbcbgmopfaaaPset
namespace Go.Proofs.Ytadpbcbgmopfaaa
set_option maxRecDepth 20000
open Go.RowKit
open Go.Lib (keeps compactUpTo)
open Go.Sort (grow)

abbrev fstL (S : List Life) : List Int := S.map (·.1)
theorem fst_get (S : List Life) (k : Nat) (hk : k < S.length) : (fstL S).toArray[k]! = (atL S k).1 := by
  rw [getElem!_pos (fstL S).toArray k (by simpa using hk), atL_lt hk]
  simp
theorem fst_take_succ (S : List Life) (k : Nat) (hk : k < S.length) : fstL (S.take (k + 1)) = fstL (S.take k) ++ [(atL S k).1] := by
  rw [List.take_add_one, List.getElem?_eq_getElem hk, atL_lt hk]
  simp only [Option.toList, fstL, List.map_append, List.map_cons, List.map_nil]
/-- The nodes of a list's lives. -/
abbrev nodesOf (l : List Life) : List Int := compactUpTo (fstL (setL l)).toArray (setL l).length
set_option maxHeartbeats 2000000 in
theorem nodes_any (A : Option Addr) (l : List Life) (n c : Nat) (w : World) (h : Lives w w.heap.size A l) (hn : l.length = n) (hb : n ≤ 274877906944) (hA : A = none → c = 0) :
    Calls Try.prog 51 #[.slice A n c] w fun e w' => ∃ A' c' m, e = .returned (.slice A' m c') ∧ Hid ((nodesOf l).length = m) ∧ Hid (IntsIn w' A' (nodesOf l)) ∧ Hid (Below w.heap.size w w') := by
  have HS := Lib.hid (sorted_any A l n c w h hn (by omega) hA)
  have HLe := Lib.hid (Nat.le_trans (setL_length l) (Nat.le_of_eq hn))
  clear h hn hA
  go_enter Try.func51, Try.ntmps51
  go_wp2_with fail
  refine HS.out.mono ?_
  rintro e W1 ⟨A1, c1, rfl, hl, hA1, hc1, hb1⟩
  clear HS
  generalize hS : setL l = S at *
  have HSS := Lib.hid hS
  clear hS
  generalize hm : S.length = m at *
  have HM := Lib.hid hm
  have hmn := HLe.out
  clear hm
  go_wp2
  go_loopw [3, 9] (fun s i wr => ∃ k : Nat, ∃ A' c', k ≤ m ∧ s = .slice A' k c' ∧ i = .int .i64 k ∧ Hid (OwnI wr W1.heap.size A' k c' (fstL (S.take k))) ∧ Hid (Below W1.heap.size W1 wr)) (fun _ i _ => m - (intOf i).toNat)
  case atStart => exact ⟨0, none, 0, Nat.zero_le _, rfl, rfl, Lib.hid OwnI.nil_, Lib.hid (Below.refl _ _)⟩
  case round =>
    obtain ⟨k, A2, c2, hk, rfl, rfl, ho2, hb2⟩ := hrel
    by_cases hlt : k < m
    · obtain ⟨b, off, rfl, hbb, h1, h2⟩ := (hl.out.below hb2.out).at_ (k := k) (by rw [HM.out]; exact hlt)
      have g0 : (0 : Int) ≤ (k : Int) := by omega
      have g1 : (k : Int) < (m : Int) := by omega
      have HT := Lib.hid (fst_take_succ S k (by rw [HM.out]; exact hlt))
      generalize atL S k = x at *
      obtain ⟨x1, x2⟩ := x
      simp only at h1 h2
      obtain ⟨k1, k2⟩ := one_new wr x1 x2
      have B3 := Lib.hid ((Below.refl wr.heap.size wr).alloc (Nat.le_refl _) (.cells #[.int .i64 x1, .int .u64 x2] 70))
      have ho3 := Lib.hid (ho2.out.on B3.out)
      have hs2 : (wr.alloc (.cells #[.int .i64 x1, .int .u64 x2] 70)).heap.size = wr.heap.size + 1 := by simp
      have hkc := cell_at_new (wr.alloc (.cells #[.int .i64 x1, .int .u64 x2] 70)) #[.int .i64 x1] 3 0 _ rfl
      rw [hs2] at hkc
      have kc := Lib.hid hkc
      have B4 := Lib.hid ((Below.refl (wr.alloc (.cells #[.int .i64 x1, .int .u64 x2] 70)).heap.size (wr.alloc (.cells #[.int .i64 x1, .int .u64 x2] 70))).alloc (Nat.le_refl _) (.cells #[.int .i64 x1] 3))
      have ho4 := Lib.hid (ho3.out.on B4.out)
      have BB := Lib.hid (btr (btr hb2.out B3.out) B4.out)
      clear hs2 hkc
      go_wp2_with (at_builtin; refine wpList_appendI rfl _ _ rfl W1.heap.size A2 k c2 _ rfl BB.out.size ho4.out (wr.heap.size + 1) x1 rfl kc.out (by omega) ?_)
      intro A6 c6 W6 e1 e2
      go_wp2
      go_roundw
      case rel => exact ⟨k + 1, A6, c6, by omega, rfl, by go_num, Lib.hid (by rw [HT.out]; simpa using e1.out), Lib.hid (e2.out.below BB.out ho4.out.above BB.out.size)⟩
      case measure => simp [intOf]; omega
    · obtain rfl : k = m := by omega
      have g1 : ¬ (k : Int) < (k : Int) := by omega
      have HTk := Lib.hid (show S.take k = S by rw [← HM.out, List.take_length])
      have ho := ho2.out
      rw [HTk.out] at ho
      have HC := Lib.hid (compactI_any A2 k c2 W1.heap.size (fstL S) wr ho (by omega))
      have hab := Lib.hid ho.above
      clear ho
      go_wp2_with fail
      refine HC.out.mono ?_
      rintro e W5 ⟨m5, rfl, hm5, hi5, hon5⟩
      go_wp2
      go_ret
      have e0 : (fstL S).length = k := by simp only [List.length_map]; exact HM.out
      have hm5 := hm5.out
      have hi5 := hi5.out
      rw [e0] at hm5 hi5
      refine ⟨A2, c2, m5, rfl, Lib.hid ?_, Lib.hid ?_, Lib.hid (btr hb1.out (hon5.out.below hb2.out hab.out hb2.out.size))⟩
      · rw [hm5]; unfold nodesOf; rw [HSS.out, HM.out]
      · unfold nodesOf; rw [HSS.out, HM.out]; exact hi5
set_option maxHeartbeats 4000000 in
theorem rnodes_any (A : Option Addr) (l : List Life) (n c : Nat) (w : World) (h : Lives w w.heap.size A l) (hn : l.length = n) (hb : n ≤ 274877906944) :
    Calls Try.prog 52 #[.slice A n c] w fun e w' => ∃ A' c' m, e = .returned (.slice A' m c') ∧ Hid ((nodesOf l).length = m) ∧ Hid (IntsIn w' A' (nodesOf l)) ∧ Hid (Below w.heap.size w w') := by
  have HS := Lib.hid (rsorted_any A l n c w h hn hb)
  have mixed : Try.prog.follows .mixedOrders = true := by kernel_rfl
  clear h hn
  go_enter Try.func52, Try.ntmps52
  go_wp2_with fail
  refine HS.out.mono ?_
  rintro e W1 ⟨A1, c1, m, rfl, ho1, hmn, hb1⟩
  clear HS
  have hl := Lib.hid ho1.out.lives
  have HM := Lib.hid ho1.out.len
  have hmn := hmn.out
  clear ho1
  generalize hS : setL l = S at *
  have HSS := Lib.hid hS
  clear hS
  go_wp2
  go_loopw [3, 5] (fun s i wr => ∃ k : Nat, ∃ A' c' t, k ≤ m ∧ t ≤ k ∧ s = .slice A' t c' ∧ i = .int .i64 k ∧ Hid (OwnI wr W1.heap.size A' t c' (compactUpTo (fstL S).toArray k)) ∧ Hid (Below W1.heap.size W1 wr)) (fun _ i _ => m - (intOf i).toNat)
  case atStart => exact ⟨0, none, 0, 0, Nat.zero_le _, Nat.le_refl _, rfl, rfl, Lib.hid OwnI.nil_, Lib.hid (Below.refl _ _)⟩
  case round =>
    obtain ⟨k, A2, c2, t, hk, htk, rfl, rfl, ho2, hb2⟩ := hrel
    by_cases hlt : k < m
    · obtain ⟨b, off, rfl, hbb, h1, h2⟩ := (hl.out.below hb2.out).at_ (k := k) (by rw [HM.out]; exact hlt)
      have g0 : (0 : Int) ≤ (k : Int) := by omega
      have g1 : (k : Int) < (m : Int) := by omega
      have HCs := Lib.hid (Lib.compactUpTo_succ (fstL S).toArray k)
      have HF := Lib.hid (fst_get S k (by rw [HM.out]; exact hlt))
      by_cases h0 : k = 0
      · subst h0
        have HKp := Lib.hid (Lib.keeps_lt_one (fstL S).toArray 0 (by omega))
        simp only [Nat.zero_mul, Nat.add_zero] at h1 h2
        go_wp2_with fail
        refine wp_region_quiet_grown mixed (by kernel_rfl) ?_
        iterate 3 (quiet_step (fail))
        iterate 12 (generalize hact : ({ tmps := _, defers := [] } : Act) = aa; refine wpQuiet_skip2 (by rw [← hact]; kernel_rfl) ?_; subst hact; simp only [Act.put, List.setIfInBounds_toArray, List.set_cons_succ, List.set_cons_zero])
        iterate 1 (quiet_step (fail))
        refine wpQuiet_nil ?_
        intro _ hw'
        obtain ⟨⟨nq, osq⟩, hw''⟩ := hw'
        subst hw''
        have B3 := Lib.hid (grow_below wr nq osq)
        have k1 := cell_below h1 B3.out
        have ho3 := Lib.hid (ho2.out.on B3.out)
        clear h1 h2 ho2
        simp only
        generalize grow (wr.drewN nq) osq = W2 at *
        generalize atL S 0 = x at *
        have kc := Lib.hid (cell_at_new W2 #[.int .i64 x.1] 3 0 _ rfl)
        have B4 := Lib.hid ((Below.refl W2.heap.size W2).alloc (Nat.le_refl _) (.cells #[.int .i64 x.1] 3))
        have ho4 := Lib.hid (ho3.out.on B4.out)
        have BB := Lib.hid (btr (btr hb2.out B3.out) B4.out)
        go_wp2_with (at_builtin; refine wpList_appendI rfl _ _ rfl W1.heap.size A2 t c2 _ rfl BB.out.size ho4.out W2.heap.size x.1 rfl kc.out (by omega) ?_)
        intro A6 c6 W6 e1 e2
        go_wp2
        go_roundw
        case rel => exact ⟨1, A6, c6, t + 1, by omega, by omega, rfl, by go_num, Lib.hid (by rw [HCs.out, HKp.out, if_pos rfl, HF.out]; exact e1.out), Lib.hid (e2.out.below BB.out ho4.out.above BB.out.size)⟩
        case measure => simp [intOf]; omega
      · obtain ⟨b', off', e, _, h3, h4⟩ := (hl.out.below hb2.out).at_ (k := k - 1) (by rw [HM.out]; omega)
        cases e
        have h01 : IntKind.i64.wrap ((k : Int) - 1) = ((k - 1 : Nat) : Int) := by
          rw [show ((k : Int) - 1) = ((k - 1 : Nat) : Int) by omega]
          simp [IntKind.wrap, IntKind.bits, IntKind.signed]; omega
        have h02 : ((k - 1 : Nat) : Int) < (m : Int) := by omega
        have h03 : (0 : Int) ≤ ((k - 1 : Nat) : Int) := by omega
        have h04 : ((k : Int) == 0) = false := by simp; omega
        have HF2 := Lib.hid (fst_get S (k - 1) (by rw [HM.out]; omega))
        have HKp := Lib.hid (fun h => Lib.keeps_pos (d := (fstL S).toArray) (m := k) h)
        have HKn := Lib.hid (fun h => Lib.keeps_neg (d := (fstL S).toArray) (m := k) (by omega) h)
        generalize atL S k = x at *
        generalize atL S (k - 1) = y at *
        obtain ⟨x1, x2⟩ := x
        obtain ⟨y1, y2⟩ := y
        simp only at h1 h2 h3 h4 HF HF2
        have q1 := fun n os => cell_grown (n := n) (os := os) (a := ⟨b, off + k * 2, none⟩) (World.block_lt_of_cell? wr _ h1) h1
        have q3 := fun n os => cell_grown (n := n) (os := os) (a := ⟨b, off + (k - 1) * 2, none⟩) (World.block_lt_of_cell? wr _ h3) h3
        by_cases hxy : y1 = x1
        · subst hxy
          have HK := Lib.hid (HKn.out (by rw [HF.out, HF2.out]))
          have h05 : (y1 != y1) = false := by simp
          clear h1 h2 h3 h4 HKp HKn
          go_wp2_with fail
          go_quiet_grown (fail)
          go_wp2
          go_roundw
          case rel => exact ⟨k + 1, A2, c2, t, by omega, by omega, rfl, by go_num, Lib.hid (by rw [HCs.out, HK.out]; simpa using ho2.out.on (grow_below wr nq osq)), Lib.hid (btr hb2.out (grow_below _ _ _))⟩
          case measure => simp [intOf]; omega
        · have HK := Lib.hid (HKp.out (by rw [HF.out, HF2.out]; exact fun e => hxy e.symm))
          have h05 : (y1 != x1) = true := by simp [hxy]
          clear h1 h2 h3 h4 HKp HKn
          go_wp2_with fail
          go_quiet_grown (fail)
          have B3 := Lib.hid (grow_below wr nq osq)
          have k1 := q1 nq osq
          have ho3 := Lib.hid (ho2.out.on B3.out)
          clear q1 q3 ho2
          simp only
          generalize grow (wr.drewN nq) osq = W2 at *
          have kc := Lib.hid (cell_at_new W2 #[.int .i64 x1] 3 0 _ rfl)
          have B4 := Lib.hid ((Below.refl W2.heap.size W2).alloc (Nat.le_refl _) (.cells #[.int .i64 x1] 3))
          have ho4 := Lib.hid (ho3.out.on B4.out)
          have BB := Lib.hid (btr (btr hb2.out B3.out) B4.out)
          go_wp2_with (at_builtin; refine wpList_appendI rfl _ _ rfl W1.heap.size A2 t c2 _ rfl BB.out.size ho4.out W2.heap.size x1 rfl kc.out (by omega) ?_)
          intro A6 c6 W6 e1 e2
          go_wp2
          go_roundw
          case rel => exact ⟨k + 1, A6, c6, t + 1, by omega, by omega, rfl, by go_num, Lib.hid (by rw [HCs.out, HK.out, if_pos rfl, HF.out]; exact e1.out), Lib.hid (e2.out.below BB.out ho4.out.above BB.out.size)⟩
          case measure => simp [intOf]; omega
    · obtain rfl : k = m := by omega
      have g1 : ¬ (k : Int) < (k : Int) := by omega
      go_wp2
      go_ret
      refine ⟨A2, c2, t, rfl, Lib.hid ?_, Lib.hid ?_, Lib.hid (btr hb1.out hb2.out)⟩
      · unfold nodesOf; rw [HSS.out, HM.out]; exact ho2.out.len
      · unfold nodesOf; rw [HSS.out, HM.out]; exact ho2.out.ints
end Go.Proofs.Ytadpbcbgmopfaaa
