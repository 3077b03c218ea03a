/-
  Whether a list of lives is a set: the program's answer and the document's. For lists of at most 2^40 lives whose numbers are not below 0.
-/
import Derived.Test.YtadpbcbgmopfaaaPref
import Derived.Shelf.SlSortCmp.QuietGrown
namespace Go.Proofs.Ytadpbcbgmopfaaa
set_option maxRecDepth 20000
open Go.RowKit
open Go.Sort (grow)

theorem wpQuiet_skip {P : Program} {ops : Array Oper} {C : World → Prop} {Q : Act → Prop} {o : Oper} {rest : List Oper} {a : Act} (hw : Region.wanted o (yielded ops a.tmps) = false) (h : wpQuiet P ops C Q rest (a.put o.dst undef)) : wpQuiet P ops C Q (o :: rest) a := by
  unfold wpQuiet
  rw [hw]
  exact h
theorem setUpTo_zero (l : List Life) : setUpTo l 0 := fun _ hi => absurd hi (Nat.not_lt_zero _)
theorem setUpTo_succ {l : List Life} {k : Nat} (h : setUpTo l k) (hm : mayL (atL l k)) (hb : 0 < k → before (atL l (k - 1)) (atL l k)) : setUpTo l (k + 1) := fun i hi => by
  by_cases e : i = k
  · subst e; exact ⟨hm, hb⟩
  · exact h i (by omega)
theorem setUpTo_not_may {l : List Life} {k n : Nat} (hk : k < n) (hm : ¬ mayL (atL l k)) : ¬ setUpTo l n := fun h => hm (h k hk).1
theorem setUpTo_not_before {l : List Life} {k n : Nat} (hk : k < n) (h0 : 0 < k) (hb : ¬ before (atL l (k - 1)) (atL l k)) : ¬ setUpTo l n := fun h => hb ((h k hk).2 h0)
/-- A life in a block of its own. -/
theorem one_new (w : World) (x1 x2 : Int) : (w.alloc (.cells #[.int .i64 x1, .int .u64 x2] 70)).cell? ⟨w.heap.size, 0, none⟩ = some (.int .i64 x1) ∧ (w.alloc (.cells #[.int .i64 x1, .int .u64 x2] 70)).cell? ⟨w.heap.size, 1, none⟩ = some (.int .u64 x2) := ⟨cell_at_new w _ _ 0 _ rfl, cell_at_new w _ _ 1 _ rfl⟩
set_option maxHeartbeats 2000000 in
theorem set_any (A : Option Addr) (l : List Life) (n c : Nat) (w : World) (h : Lives w w.heap.size A l) (hn : l.length = n) (hb : n ≤ 1099511627776) (hpos : ∀ p ∈ l, 0 ≤ p.2) :
    Calls Try.prog 46 #[.slice A n c] w fun e w' => e = .returned (.bool (decide (setUpTo l n))) ∧ Hid (Below w.heap.size w w') := by
  generalize hr : decide (setUpTo l n) = r
  have HR := Lib.hid hr
  have HL := Lib.hid h
  have HN := Lib.hid hn
  have HP := Lib.hid hpos
  clear hr h hn hpos
  have mixed : Try.prog.follows .mixedOrders = true := by kernel_rfl
  go_enter Try.func46, Try.ntmps46
  go_wp2
  go_loopw [7] (fun i wr => ∃ k : Nat, k ≤ n ∧ i = .int .i64 k ∧ Hid (Below w.heap.size w wr) ∧ Hid (setUpTo l k)) (fun i _ => n - (intOf i).toNat)
  case atStart => exact ⟨0, Nat.zero_le _, rfl, Lib.hid (Below.refl _ _), Lib.hid (setUpTo_zero l)⟩
  case round =>
    obtain ⟨k, hk, rfl, hbw, hset⟩ := hrel
    by_cases hlt : k < n
    · obtain ⟨b, off, rfl, hbb, hc1, hc2⟩ := (HL.out.below hbw.out).at_ (k := k) (by rw [HN.out]; exact hlt)
      have hbb2 := Lib.hid (Nat.lt_of_lt_of_le hbb hbw.out.size)
      have g0 : (0 : Int) ≤ (k : Int) := by omega
      have g1 : (k : Int) < (n : Int) := by omega
      have hp2 := HP.out _ (atL_mem (l := l) (k := k) (by rw [HN.out]; exact hlt))
      have HMay := Lib.hid (fun W => may_g (atL l k) hp2 W)
      have HSn := Lib.hid (show mayL (atL l k) → (0 < k → before (atL l (k - 1)) (atL l k)) → setUpTo l (k + 1) from setUpTo_succ hset.out)
      have HNm := Lib.hid (show ¬ mayL (atL l k) → ¬ setUpTo l n from setUpTo_not_may hlt)
      have HNb := Lib.hid (show 0 < k → ¬ before (atL l (k - 1)) (atL l k) → ¬ setUpTo l n from setUpTo_not_before hlt)
      have HCmp := Lib.hid (fun W => compare_g (atL l (k - 1)) (atL l k) W)
      have HCl := Lib.hid (cmpL_lt (atL l (k - 1)) (atL l k))
      have HPrev : Hid (0 < k → wr.cell? ⟨b, off + (k - 1) * 2, none⟩ = some (.int .i64 (atL l (k - 1)).1) ∧ wr.cell? ⟨b, off + (k - 1) * 2 + 1, none⟩ = some (.int .u64 (atL l (k - 1)).2)) := Lib.hid fun h0 => by
        obtain ⟨b', off', e, _, q1, q2⟩ := (HL.out.below hbw.out).at_ (k := k - 1) (by rw [HN.out]; omega)
        cases e
        exact ⟨q1, q2⟩
      clear hp2 hbb
      generalize atL l k = x at *
      obtain ⟨x1, x2⟩ := x
      simp only at hc1 hc2
      obtain ⟨k1, k2⟩ := one_new wr x1 x2
      have B2 := Lib.hid ((Below.refl wr.heap.size wr).alloc (Nat.le_refl _) (.cells #[.int .i64 x1, .int .u64 x2] 70))
      go_wp2_with fail
      have p1 := cell_at_old (.cells #[.int .i64 x1, .int .u64 x2] 70) hc1
      generalize wr.alloc (.cells #[.int .i64 x1, .int .u64 x2] 70) = W2 at *
      generalize hB : wr.heap.size = B at k1 k2 ⊢
      have hBl : B < W2.heap.size := World.block_lt_of_cell? W2 _ k1
      have HB := Lib.hid hB
      clear hB hc1 hc2 p1
      have q1 := fun n os => cell_grown (n := n) (os := os) hBl k1
      have q2 := fun n os => cell_grown (n := n) (os := os) (a := ⟨B, 1, none⟩) hBl k2
      clear k1 k2
      by_cases hm : mayL (x1, x2)
      · rw [decide_eq_true hm] at HMay
        have HM := Lib.hid hm
        clear hm HNm
        by_cases h0 : 0 < k
        · obtain ⟨z1, z2⟩ := HPrev.out h0
          have hbW : b < W2.heap.size := Nat.lt_of_lt_of_le hbb2.out B2.out.size
          have z3 := fun n os => cell_grown (n := n) (os := os) (a := ⟨b, off + (k - 1) * 2, none⟩) hbW ((B2.out.cell (p := ⟨b, off + (k - 1) * 2, none⟩) hbb2.out).trans z1)
          have z4 := fun n os => cell_grown (n := n) (os := os) (a := ⟨b, off + (k - 1) * 2 + 1, none⟩) hbW ((B2.out.cell (p := ⟨b, off + (k - 1) * 2 + 1, none⟩) hbb2.out).trans z2)
          clear z1 z2 HPrev hbW
          generalize atL l (k - 1) = y at *
          obtain ⟨y1, y2⟩ := y
          simp only at z3 z4
          have h00 : (0 : Int) < (k : Int) := by omega
          have h01 : IntKind.i64.wrap ((k : Int) - 1) = ((k - 1 : Nat) : Int) := by
            rw [show ((k : Int) - 1) = ((k - 1 : Nat) : Int) by omega]
            simp [IntKind.wrap, IntKind.bits, IntKind.signed]; omega
          have h02 : ((k - 1 : Nat) : Int) < (n : Int) := by omega
          have h03 : (0 : Int) ≤ ((k - 1 : Nat) : Int) := by omega
          by_cases hc : before (y1, y2) (x1, x2)
          · have hcl : cmpL (y1, y2) (x1, x2) < 0 := HCl.out.2 hc
            have HS := Lib.hid (HSn.out HM.out fun _ => hc)
            clear hc HCl HSn HNb
            generalize cmpL (y1, y2) (x1, x2) = cv at *
            have hcl2 : ¬ 0 ≤ cv := by omega
            go_quiet_grown (first | (go_at_call 37; refine Calls.grown_of (HMay.out _)) | (go_at_call 39; refine Calls.grown_of (HCmp.out _)))
            go_wp2
            go_roundw
            case rel => exact ⟨k + 1, by omega, by go_num, Lib.hid (btr (btr hbw.out B2.out) (grow_below _ _ _)), HS⟩
            case measure => simp [intOf]; omega
          · have hcl : ¬ cmpL (y1, y2) (x1, x2) < 0 := fun h => hc (HCl.out.1 h)
            have HS := Lib.hid (HNb.out h0 hc)
            clear hc HCl HSn HNb
            generalize cmpL (y1, y2) (x1, x2) = cv at *
            have hcl2 : 0 ≤ cv := by omega
            have : r = false := by rw [← HR.out]; exact decide_eq_false HS.out
            subst this
            go_quiet_grown (first | (go_at_call 37; refine Calls.grown_of (HMay.out _)) | (go_at_call 39; refine Calls.grown_of (HCmp.out _)))
            go_wp2
            go_ret
            exact ⟨rfl, Lib.hid (btr (btr hbw.out B2.out) (grow_below _ _ _))⟩
        · obtain rfl : k = 0 := by omega
          have HS := Lib.hid (HSn.out HM.out fun h => absurd h h0)
          clear HCmp HCl HSn HNb HPrev
          refine wp_region_quiet_grown mixed (by kernel_rfl) ?_
          iterate 7 (quiet_step ((go_at_call 37; refine Calls.grown_of (HMay.out _))))
          iterate 8 (generalize hact : ({ tmps := _, defers := [] } : Act) = aa; refine wpQuiet_skip (by rw [← hact]; kernel_rfl) ?_; subst hact; simp only [Act.put, List.setIfInBounds_toArray, List.set_cons_succ, List.set_cons_zero])
          iterate 2 (quiet_step ((go_at_call 37; refine Calls.grown_of (HMay.out _))))
          refine wpQuiet_nil ?_
          intro _ hw'
          obtain ⟨⟨nq, osq⟩, hw''⟩ := hw'
          subst hw''
          go_wp2
          go_roundw
          case rel => exact ⟨1, by omega, by go_num, Lib.hid (btr (btr hbw.out B2.out) (grow_below _ _ _)), HS⟩
          case measure => simp [intOf]; omega
      · rw [decide_eq_false hm] at HMay
        have : r = false := by rw [← HR.out]; exact decide_eq_false (HNm.out hm)
        subst this
        clear hm HNm HCmp HCl HSn HNb HPrev
        refine wp_region_quiet_grown mixed (by kernel_rfl) ?_
        iterate 4 (quiet_step ((go_at_call 37; refine Calls.grown_of (HMay.out _))))
        iterate 12 (generalize hact : ({ tmps := _, defers := [] } : Act) = aa; refine wpQuiet_skip (by rw [← hact]; kernel_rfl) ?_; subst hact; simp only [Act.put, List.setIfInBounds_toArray, List.set_cons_succ, List.set_cons_zero])
        iterate 1 (quiet_step ((go_at_call 37; refine Calls.grown_of (HMay.out _))))
        refine wpQuiet_nil ?_
        intro _ hw'
        obtain ⟨⟨nq, osq⟩, hw''⟩ := hw'
        subst hw''
        go_wp2
        go_ret
        exact ⟨rfl, Lib.hid (btr (btr hbw.out B2.out) (grow_below _ _ _))⟩
    · obtain rfl : k = n := by omega
      have g1 : ¬ (k : Int) < (k : Int) := by omega
      go_wp2
      go_ret
      exact ⟨by rw [← HR.out, decide_eq_true hset.out]; rfl, hbw⟩
end Go.Proofs.Ytadpbcbgmopfaaa
