/-
  Package window's Take and the document's. No condition.
-/
import Derived.Test.YtmkkhknbokfciaaQres
namespace Go.Proofs.Ytmkkhknbokfciaa
set_option maxRecDepth 20000
open Go.RowKit

/-- Whether a number is the next one. -/
def nextS (g s : Nat) : Prop := s = g + 1 ∧ s ≤ 34359738367
instance (g s : Nat) : Decidable (nextS g s) := inferInstanceAs (Decidable (_ ∧ _))
def takeS (g s : Nat) : Nat := if nextS g s then s else g
def RRow (b : Nat) (x : Int) (w : World) : Prop := w.heap[b]? = some (.cells #[.int .u64 x] 45 (0, 0))
theorem RRow.below {b : Nat} {x : Int} {w w' : World} (h : RRow b x w) (hb : Below w.heap.size w w') : RRow b x w' := (hb.block b (lt_of_heap h)).trans h
theorem RRow.cell {b : Nat} {x : Int} {w : World} (h : RRow b x w) : w.cell? ⟨b, 0, none⟩ = some (.int .u64 x) := by simpa using cell_plain h 0
theorem RRow.set {b : Nat} {x : Int} {w : World} (h : RRow b x w) (y : Int) : (w.setCell ⟨b, 0, none⟩ (.int .u64 y)).heap[b]? = some (.cells #[.int .u64 y] 45 (0, 0)) := by
  unfold RRow at h
  simp [World.setCell, Array.getElem?_modify, h]
/-- What Take answers. -/
def WTakeE (w : World) (g s : Nat) (e : Ending) (w' : World) : Prop := e = .returned (.tuple #[.agg #[.int .u64 ((takeS g s : Nat) : Int)], .bool (decide (nextS g s))]) ∧ Hid (Below w.heap.size w w')
set_option maxHeartbeats 4000000 in
theorem wtake_any (g s : Nat) (w : World) (hg : g < 18446744073709551616) (hs : s < 18446744073709551616) :
    Calls Try.prog 21 #[.agg #[.int .u64 (g : Int)], .int .u64 (s : Int)] w (WTakeE w g s) := by
  have R1 := Lib.hid (show RRow w.heap.size (g : Int) (w.alloc (.cells #[.int .u64 (g : Int)] 45)) from qnew w _ _)
  have b1 := qbox w (.cells #[.int .u64 (g : Int)] 45)
  have b2 := qbox (w.alloc (.cells #[.int .u64 (g : Int)] 45)) (.cells #[.int .u64 0] 45)
  have R2 := Lib.hid (R1.out.below b2)
  have R3 := Lib.hid (show RRow (w.alloc (.cells #[.int .u64 (g : Int)] 45)).heap.size 0 ((w.alloc (.cells #[.int .u64 (g : Int)] 45)).alloc (.cells #[.int .u64 0] 45)) from qnew _ _ _)
  have es : (w.alloc (.cells #[.int .u64 (g : Int)] 45)).heap.size = w.heap.size + 1 := by simp
  rw [es] at R3
  have B2 := Lib.hid (qtr b1 b2)
  obtain ⟨W2, hW2⟩ : ∃ W2, (w.alloc (.cells #[.int .u64 (g : Int)] 45)).alloc (.cells #[.int .u64 0] 45) = W2 := ⟨_, rfl⟩
  have HQ : Hid (∀ e w', e = .returned (.tuple #[.agg #[.int .u64 ((takeS g s : Nat) : Int)], .bool (decide (nextS g s))]) → Below w.heap.size w w' → WTakeE w g s e w') := Lib.hid (fun e w' h hb => ⟨h, Lib.hid hb⟩)
  have E1 : takeS g s = if nextS g s then s else g := rfl
  generalize WTakeE w g s = Q0 at *
  clear R1 b1 b2 es
  have fin : ∀ y : Nat, Below w.heap.size w (W2.setCell ⟨w.heap.size + 1, 0, none⟩ (.int .u64 (y : Int))) := fun y => by
    rw [hW2] at B2
    exact B2.out.setCell (p := ⟨w.heap.size + 1, 0, none⟩) (by simp only; omega) _
  have HF := Lib.hid fin
  rw [hW2] at R2 R3
  have HS := Lib.hid (fun y : Int => R3.out.set y)
  have z0 := R3.out.cell
  have f0 := frozen_plain R3.out 0
  have k0 := R2.out.cell
  clear fin B2 R2 R3
  go_enter Try.func21, Try.ntmps21
  by_cases h1 : g < 34359738367
  · have g1 : ¬ (34359738367 : Int) ≤ (g : Int) := by omega
    by_cases h2 : s = g + 1
    · have e1 : IntKind.u64.wrap ((g : Int) + 1) = (s : Int) := by rw [wrapU (by omega) (by omega)]; omega
      have hn : nextS g s := ⟨h2, by omega⟩
      rw [if_pos hn] at E1
      have HN := Lib.hid (decide_eq_true hn)
      have HE := Lib.hid (show ((takeS g s : Nat) : Int) = (s : Int) by rw [E1])
      have HG := Lib.hid (fun y => HF.out (y : Nat))
      have HF2 := HF.out s
      clear h1 h2 hn E1 hg hs HF HG
      generalize (s : Int) = y at *
      have HF3 := Lib.hid HF2
      clear HF2
      go_wp2
      (try simp only [Exit.inBlock, Exit.then])
      refine bodyPost_ret (qres_tmp rfl _ _ (w.heap.size + 1) 45 #[.int .u64 y] (0, 0) _ rfl (HS.out _) Try.underlying45 rfl (by kernel_rfl)) rfl ?_
      exact HQ.out _ _ (by rw [HE.out, HN.out]; rfl) HF3.out
    · obtain ⟨x, hx⟩ : ∃ x : Int, (g : Int) + 1 = x := ⟨_, rfl⟩
      have e1 : IntKind.u64.wrap ((g : Int) + 1) = x := by rw [← hx]; exact wrapU (by omega) (by omega)
      have g2 : ((s : Int) == x) = false := by rw [beq_eq_false_iff_ne]; omega
      have g3 : ((s : Int) != x) = true := by rw [bne_iff_ne]; omega
      have hn : ¬ nextS g s := fun h => h2 h.1
      rw [if_neg hn] at E1
      have HN := Lib.hid (decide_eq_false hn)
      have HE := Lib.hid E1
      clear h1 h2 hn E1 hg hs hx
      go_wp2
      (try simp only [Exit.inBlock, Exit.then])
      refine bodyPost_ret (qres_tmp rfl _ _ (w.heap.size + 1) 45 #[.int .u64 (g : Int)] (0, 0) _ rfl (HS.out _) Try.underlying45 rfl (by kernel_rfl)) rfl ?_
      exact HQ.out _ _ (by rw [HE.out, HN.out]; rfl) (HF.out _)
  · have g1 : ¬ (g : Int) < 34359738367 := by omega
    have hn : ¬ nextS g s := fun h => by have := h.1; have := h.2; omega
    rw [if_neg hn] at E1
    have HN := Lib.hid (decide_eq_false hn)
    have HE := Lib.hid E1
    clear h1 hn E1 hg hs
    go_wp2
    (try simp only [Exit.inBlock, Exit.then])
    refine bodyPost_ret (qres_tmp rfl _ _ (w.heap.size + 1) 45 #[.int .u64 (g : Int)] (0, 0) _ rfl (HS.out _) Try.underlying45 rfl (by kernel_rfl)) rfl ?_
    exact HQ.out _ _ (by rw [HE.out, HN.out]; rfl) (HF.out _)
set_option maxHeartbeats 4000000 in
theorem wrtake_any (g s : Nat) (w : World) (hg : g < 18446744073709551616) (hs : s < 18446744073709551616) :
    Calls Try.prog 22 #[.agg #[.int .u64 (g : Int)], .int .u64 (s : Int)] w (WTakeE w g s) := by
  have R1 := Lib.hid (show RRow w.heap.size (g : Int) (w.alloc (.cells #[.int .u64 (g : Int)] 45)) from qnew w _ _)
  have b1 := qbox w (.cells #[.int .u64 (g : Int)] 45)
  have b2 := qbox (w.alloc (.cells #[.int .u64 (g : Int)] 45)) (.cells #[.int .u64 0] 45)
  have R2 := Lib.hid (R1.out.below b2)
  have R3 := Lib.hid (show RRow (w.alloc (.cells #[.int .u64 (g : Int)] 45)).heap.size 0 ((w.alloc (.cells #[.int .u64 (g : Int)] 45)).alloc (.cells #[.int .u64 0] 45)) from qnew _ _ _)
  have es : (w.alloc (.cells #[.int .u64 (g : Int)] 45)).heap.size = w.heap.size + 1 := by simp
  rw [es] at R3
  have B2 := Lib.hid (qtr b1 b2)
  obtain ⟨W2, hW2⟩ : ∃ W2, (w.alloc (.cells #[.int .u64 (g : Int)] 45)).alloc (.cells #[.int .u64 0] 45) = W2 := ⟨_, rfl⟩
  have HQ : Hid (∀ e w', e = .returned (.tuple #[.agg #[.int .u64 ((takeS g s : Nat) : Int)], .bool (decide (nextS g s))]) → Below w.heap.size w w' → WTakeE w g s e w') := Lib.hid (fun e w' h hb => ⟨h, Lib.hid hb⟩)
  have E1 : takeS g s = if nextS g s then s else g := rfl
  generalize WTakeE w g s = Q0 at *
  clear R1 b1 b2 es
  have fin : ∀ y : Nat, Below w.heap.size w (W2.setCell ⟨w.heap.size + 1, 0, none⟩ (.int .u64 (y : Int))) := fun y => by
    rw [hW2] at B2
    exact B2.out.setCell (p := ⟨w.heap.size + 1, 0, none⟩) (by simp only; omega) _
  have HF := Lib.hid fin
  rw [hW2] at R2 R3
  have HS := Lib.hid (fun y : Int => R3.out.set y)
  have z0 := R3.out.cell
  have f0 := frozen_plain R3.out 0
  have k0 := R2.out.cell
  clear fin B2 R2 R3
  go_enter Try.func22, Try.ntmps22
  by_cases h0 : 0 < s
  · have g0 : (0 : Int) < (s : Int) := by omega
    by_cases h1 : s < 34359738368
    · have HC := Lib.hid (decide_eq_true h1)
      by_cases h2 : s = g + 1
      · have e1 : IntKind.u64.wrap ((s : Int) - 1) = (g : Int) := by rw [wrapU (by omega) (by omega)]; omega
        have hn : nextS g s := ⟨h2, by omega⟩
        rw [if_pos hn] at E1
        have HN := Lib.hid (decide_eq_true hn)
        have HE := Lib.hid E1
        clear h0 h1 h2 hn E1 hg hs
        go_wp2_with fail
        refine (rcnt_any s _).mono ?_
        rintro e W3 ⟨rfl, rfl⟩
        rw [HC.out]
        go_wp2
        (try simp only [Exit.inBlock, Exit.then])
        refine bodyPost_ret (qres_tmp rfl _ _ (w.heap.size + 1) 45 #[.int .u64 (s : Int)] (0, 0) _ rfl (HS.out _) Try.underlying45 rfl (by kernel_rfl)) rfl ?_
        exact HQ.out _ _ (by rw [HE.out, HN.out]; rfl) (HF.out _)
      · obtain ⟨x, hx⟩ : ∃ x : Int, (s : Int) - 1 = x := ⟨_, rfl⟩
        have e1 : IntKind.u64.wrap ((s : Int) - 1) = x := by rw [← hx]; exact wrapU (by omega) (by omega)
        have g2 : ((g : Int) == x) = false := by rw [beq_eq_false_iff_ne]; omega
        have hn : ¬ nextS g s := fun h => h2 h.1
        rw [if_neg hn] at E1
        have HN := Lib.hid (decide_eq_false hn)
        have HE := Lib.hid E1
        clear h0 h1 h2 hn E1 hg hs hx
        go_wp2_with fail
        refine (rcnt_any s _).mono ?_
        rintro e W3 ⟨rfl, rfl⟩
        rw [HC.out]
        go_wp2
        (try simp only [Exit.inBlock, Exit.then])
        refine bodyPost_ret (qres_tmp rfl _ _ (w.heap.size + 1) 45 #[.int .u64 (g : Int)] (0, 0) _ rfl (HS.out _) Try.underlying45 rfl (by kernel_rfl)) rfl ?_
        exact HQ.out _ _ (by rw [HE.out, HN.out]; rfl) (HF.out _)
    · have HC := Lib.hid (decide_eq_false h1)
      have hn : ¬ nextS g s := fun h => by have := h.2; omega
      rw [if_neg hn] at E1
      have HN := Lib.hid (decide_eq_false hn)
      have HE := Lib.hid E1
      clear h0 h1 hn E1 hg hs
      go_wp2_with fail
      refine (rcnt_any s _).mono ?_
      rintro e W3 ⟨rfl, rfl⟩
      rw [HC.out]
      go_wp2
      (try simp only [Exit.inBlock, Exit.then])
      refine bodyPost_ret (qres_tmp rfl _ _ (w.heap.size + 1) 45 #[.int .u64 (g : Int)] (0, 0) _ rfl (HS.out _) Try.underlying45 rfl (by kernel_rfl)) rfl ?_
      exact HQ.out _ _ (by rw [HE.out, HN.out]; rfl) (HF.out _)
  · obtain rfl : s = 0 := by omega
    have hn : ¬ nextS g 0 := fun h => by have := h.1; omega
    rw [if_neg hn] at E1
    have HN := Lib.hid (decide_eq_false hn)
    have HE := Lib.hid E1
    clear h0 hn E1 hg hs
    go_wp2
    (try simp only [Exit.inBlock, Exit.then])
    refine bodyPost_ret (qres_tmp rfl _ _ (w.heap.size + 1) 45 #[.int .u64 (g : Int)] (0, 0) _ rfl (HS.out _) Try.underlying45 rfl (by kernel_rfl)) rfl ?_
    exact HQ.out _ _ (by rw [HE.out, HN.out]; rfl) (HF.out _)
end Go.Proofs.Ytmkkhknbokfciaa
