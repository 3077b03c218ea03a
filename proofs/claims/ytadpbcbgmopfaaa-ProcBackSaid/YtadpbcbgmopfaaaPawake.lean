/-
  The chapter's own examples, as the statements of layer 3 ask them: they answer true. No condition.
-/
import Derived.Test.YtadpbcbgmopfaaaPset
import Derived.Test.YtadpbcbgmopfaaaPsort
namespace Go.Proofs.Ytadpbcbgmopfaaa
set_option maxRecDepth 20000
open Go.RowKit

def exL : List Life := [(2, 1), (1, 7), (2, 1), (1, 3)]
def exS : List Life := [(1, 3), (1, 7), (2, 1)]
theorem ex_set : setL exL = exS := by decide +kernel
theorem ex_isSet : setUpTo exS 3 := by decide +kernel
theorem ex_cmp : cmpL (1, 3) (1, 7) = -1 := by decide +kernel
theorem ex_pos : ∀ p ∈ exS, 0 ≤ p.2 := by decide +kernel
/-- Three lives side by side. -/
def Three (b off : Nat) (w : World) : Prop := w.cell? ⟨b, off, none⟩ = some (.int .i64 1) ∧ w.cell? ⟨b, off + 1, none⟩ = some (.int .u64 3) ∧ w.cell? ⟨b, off + 2, none⟩ = some (.int .i64 1) ∧ w.cell? ⟨b, off + 3, none⟩ = some (.int .u64 7) ∧ w.cell? ⟨b, off + 4, none⟩ = some (.int .i64 2) ∧ w.cell? ⟨b, off + 5, none⟩ = some (.int .u64 1)
theorem Three.below {b off : Nat} {w w' : World} (h : Three b off w) (hb : Below w.heap.size w w') : Three b off w' := ⟨cell_below h.1 hb, cell_below h.2.1 hb, cell_below h.2.2.1 hb, cell_below h.2.2.2.1 hb, cell_below h.2.2.2.2.1 hb, cell_below h.2.2.2.2.2 hb⟩
theorem three_of {w : World} {b off : Nat} (h : Lives w w.heap.size (some ⟨b, off, none⟩) exS) : Three b off w := by
  obtain ⟨b', off', e, _, hc⟩ := h (by decide)
  cases e
  have h0 := hc 0 (by decide)
  have h1 := hc 1 (by decide)
  have h2 := hc 2 (by decide)
  exact ⟨h0.1, h0.2, h1.1, h1.2, h2.1, h2.2⟩
set_option maxHeartbeats 2000000 in
theorem awake3_any (w : World) : Calls Try.prog 41 #[] w fun e w' => e = .returned (.bool true) ∧ Hid (Below w.heap.size w w') := by
  have HL := Lib.hid (lives_new w exL)
  have B1 := Lib.hid ((Below.refl w.heap.size w).alloc (Nat.le_refl _) (.cells (flatP exL).toArray 70))
  have HS := sorted_any (some ⟨w.heap.size, 0, none⟩) exL 4 4 (w.alloc (.cells (flatP exL).toArray 70)) (by have := HL.out; simpa using this) rfl (by omega) (fun e => by cases e)
  rw [ex_set] at HS
  have HS := Lib.hid HS
  go_enter Try.func41, Try.ntmps41
  go_wp2_with fail
  refine HS.out.mono ?_
  rintro e W1 ⟨A, c, rfl, hl, hA, hlen, hb⟩
  have B2 := Lib.hid (btr B1.out hb.out)
  clear HS HL B1 hb hA hlen
  obtain ⟨b, off, rfl, hbb, -⟩ := hl.out (by decide)
  have hT := Lib.hid (three_of hl.out)
  have HSet := Lib.hid (fun W (hb : Below W1.heap.size W1 W) => set_any (some ⟨b, off, none⟩) exS 3 c W (hl.out.on hb) rfl (by omega) ex_pos)
  rw [decide_eq_true ex_isSet] at HSet
  have HCmp := Lib.hid (fun W => compare_any (1, 3) (1, 7) W)
  rw [ex_cmp] at HCmp
  obtain ⟨k1, k2, k3, k4, k5, k6⟩ := hT.out
  have he1 := fun w => eq_run 1 3 1 3 w
  have he2 := fun w => eq_run 2 1 2 1 w
  have hg1 := fun op a b w => guard_run op a b 1 3 1 3 w
  have hg2 := fun op a b w => guard_run op a b 2 1 2 1 w
  rw [decide_eq_true rfl] at he1 he2
  have e3 : exS.length = 3 := rfl
  rw [e3]
  clear e3
  go_wp2_with fail
  go_region_held (fun w' => w'.cell? ⟨b, off, none⟩ = some (.int .i64 1) ∧ w'.cell? ⟨b, off + 1, none⟩ = some (.int .u64 3) ∧ w'.cell? ⟨b, off + 2, none⟩ = some (.int .i64 1) ∧ w'.cell? ⟨b, off + 3, none⟩ = some (.int .u64 7) ∧ w'.cell? ⟨b, off + 4, none⟩ = some (.int .i64 2) ∧ w'.cell? ⟨b, off + 5, none⟩ = some (.int .u64 1)) (first | go_keep | exact kk.out | exact kk2.out)
    (first | (go_at_call 46; refine (HSet.out _ (bdl (Below.refl _ _))).mono ?_; rintro e V1 ⟨rfl, hb1⟩; have kk := Lib.hid (hT.out.below (bdl hb1.out)); have B3 := Lib.hid (btd B2.out hb1.out)) | (go_at_call 39; refine (HCmp.out _).mono ?_; rintro e V2 ⟨rfl, hb2⟩; have kk2 := Lib.hid (kk.out.below hb2.out); have B4 := Lib.hid (btr B3.out hb2.out)))
  all_goals
    go_wp2
    go_ret
    exact ⟨rfl, B4⟩
end Go.Proofs.Ytadpbcbgmopfaaa
