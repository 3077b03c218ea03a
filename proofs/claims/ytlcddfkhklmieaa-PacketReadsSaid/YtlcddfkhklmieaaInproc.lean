/-
  The document's own reading (caucusref03.In): a life. No condition.
-/
import Derived.Test.YtlcddfkhklmieaaIn
import Derived.Test.YtlcddfkhklmieaaGc
import Derived.Laws.ResultCell
namespace Go.Proofs.Ytlcddfkhklmieaa
set_option maxRecDepth 20000
open Go.RowKit

theorem row2_set {w : World} {z : Nat} {v0 v1 : Value} {t : TypeId} (h : w.heap[z]? = some (.cells #[v0, v1] t (0, 0))) (a b : Value) : ((w.setCell ⟨z, 0, none⟩ a).setCell ⟨z, 1, none⟩ b).heap[z]? = some (.cells #[a, b] t (0, 0)) :=
  block_set2' (block_set2 h)
theorem only_pair (w : World) (z : Nat) (a b : Value) : Only (fun k => k = z) w ((w.setCell ⟨z, 0, none⟩ a).setCell ⟨z, 1, none⟩ b) := only_two (only_q w z 0 a) (only_q _ z 1 b)
theorem uint_zero {s : RS} (h : (rUint s).2.bad = true) : (rUint s).1 = 0 := by
  unfold rUint at *
  split
  · rfl
  · rename_i hc
    rw [if_neg hc] at h
    cases h
theorem gotL_bad {s : RS} (h : (rUint (rWide s 1).2).2.bad = true) : gotL s = ((0, 0), ⟨(rUint (rWide s 1).2).2.l, true⟩) := by
  unfold gotL
  rw [if_neg]
  intro hm
  have := hm.2.2
  rw [uint_zero h] at this
  simp at this
def IPr (q : Nat) (d : Option Nat) (s : RS) (w : World) (e : Ending) (w' : World) : Prop :=
  e = .returned (lifeV (gotL s).1) ∧ Hid (InR w' q d (gotL s).2) ∧ Hid (Only (fun k => k = q) w w')
set_option maxHeartbeats 4000000 in
theorem iproc_any (q : Nat) (d : Option Nat) (s : RS) (w : World) (h : InR w q d s) :
    Calls Try.prog 41 #[.pointer (some ⟨q, 0, none⟩)] w (IPr q d s w) := by
  have Z := Lib.hid (heap_alloc_new w (.cells #[.int .i64 0, .int .u64 0] 24))
  have o1 := (Only.refl (fun _ => False) w).alloc (.cells #[.int .i64 0, .int .u64 0] 24)
  have H1 := Lib.hid (h.keep o1 (fun h => h) (fun _ _ h => h))
  have O1 := Lib.hid ((Only.refl (fun k => k = q) w).alloc (.cells #[.int .i64 0, .int .u64 0] 24))
  have hq := h.lt
  have HDL := Lib.hid h.dlt
  clear h o1
  go_enter Try.func41, Try.ntmps41
  go_wp2_with fail
  generalize w.alloc (.cells #[.int .i64 0, .int .u64 0] 24) = W1 at *
  refine (iu8_any q d s W1 H1.out).mono ?_
  rintro e W2 ⟨rfl, h2, o2⟩
  have Z2 := Lib.hid ((o2.out.block _ (lt_of_heap Z.out) (by omega)).trans Z.out)
  have O2 := Lib.hid (only_two O1.out o2.out)
  have hn256 := rWide_lt s 1
  have HGB := Lib.hid (fun h => gotL_bad (s := s) h)
  have HGM := Lib.hid (show gotL s = if mayL (((rWide s 1).1 : Int), ((rUint (rWide s 1).2).1 : Int)) then ((((rWide s 1).1 : Int), ((rUint (rWide s 1).2).1 : Int)), (rUint (rWide s 1).2).2) else ((0, 0), ⟨(rUint (rWide s 1).2).2.l, true⟩) from rfl)
  clear Z O1 H1 o2
  generalize (rWide s 1).1 = n at *
  generalize (rWide s 1).2 = s1 at *
  go_wp2_with fail
  refine (iuint_any q d s1 W2 h2.out).mono ?_
  rintro e W3 ⟨rfl, h3, o3⟩
  have Z3 := Lib.hid ((o3.out.block _ (lt_of_heap Z2.out) (by omega)).trans Z2.out)
  have O3 := Lib.hid (only_two O2.out o3.out)
  have hx64 : (rUint s1).1 < 18446744073709551616 := by unfold rUint; split; simp; exact parse_lt _
  clear Z2 O2 h2 o3
  generalize (rUint s1).1 = x at *
  generalize (rUint s1).2 = s2 at *
  have P4 := Lib.hid (heap_alloc_new W3 (.cells #[.int .i64 (n : Int), .int .u64 (x : Int)] 24))
  have o4 := (Only.refl (fun _ => False) W3).alloc (.cells #[.int .i64 (n : Int), .int .u64 (x : Int)] 24)
  have H4 := Lib.hid (h3.out.keep o4 (fun h => h) (fun _ _ h => h))
  have Z4 := Lib.hid ((o4.block _ (lt_of_heap Z3.out) (fun h => h)).trans Z3.out)
  have O4 := Lib.hid (O3.out.trans o4 fun _ _ h => h.elim)
  have hz4 := lt_of_heap Z3.out
  have c1 := H4.out.bad_cell
  have f1 := H4.out.thaw 1
  have p0 := cell_plain P4.out 0
  have p1 := cell_plain P4.out 1
  have y0 := cell_plain Z4.out 0
  have y1 := cell_plain Z4.out 1
  have g0 := frozen_plain Z4.out 0
  have g1 := frozen_plain Z4.out 1
  clear Z3 O3 h3 o4
  simp only [List.getElem?_toArray, List.getElem?_cons_zero, List.getElem?_cons_succ] at p0 p1 y0 y1
  cases hb : s2.bad with
  | true =>
    have HG := Lib.hid (HGB.out hb)
    rw [hb] at c1
    have R1 := Lib.hid (row2_set ((only_q (W3.alloc (.cells #[.int .i64 (n : Int), .int .u64 (x : Int)] 24)) q 1 (.bool true)).block _ (lt_of_heap Z4.out) (show ¬ w.heap.size = q by omega) |>.trans Z4.out) (.int .i64 0) (.int .u64 0))
    have R2 := Lib.hid ((H4.out.fail s2.l).keep (only_pair _ w.heap.size (.int .i64 0) (.int .u64 0)) (by omega) (fun k hk e => by have := HDL.out k hk; omega))
    have R3 := Lib.hid ((only_two O4.out (only_q _ q 1 (.bool true))).trans (only_pair _ w.heap.size (.int .i64 0) (.int .u64 0)) fun j hj e => by omega)
    clear HGB HGM P4 H4 Z4 O4 hb
    go_wp2
    refine bodyPost_ret (results_cell_row rfl _ _ w.heap.size 24 #[.int .i64 0, .int .u64 0] (0, 0) _ rfl R1.out Try.underlying24 rfl (by kernel_rfl)) rfl ?_
    exact ⟨by rw [HG.out], by rw [HG.out]; exact R2, R3⟩
  | false =>
    rw [hb] at c1
    go_wp2_with fail
    generalize W3.alloc (.cells #[.int .i64 (n : Int), .int .u64 (x : Int)] 24) = W4 at *
    refine (rmay_any ((n : Int), (x : Int)) (by simp) W4).mono ?_
    rintro e W5 ⟨rfl, hb5⟩
    have o5 : Only (fun _ => False) W4 W5 := ⟨hb5.out.os, hb5.out.tape, hb5.out.output, hb5.out.size, fun j hj _ => hb5.out.block j hj⟩
    have H5 := Lib.hid (H4.out.keep o5 (fun h => h) (fun _ _ h => h))
    have Z5 := Lib.hid ((o5.block _ (lt_of_heap Z4.out) (fun h => h)).trans Z4.out)
    have P5 := Lib.hid ((o5.block _ (lt_of_heap P4.out) (fun h => h)).trans P4.out)
    have O5 := Lib.hid (O4.out.trans o5 fun _ _ h => h.elim)
    clear c1 f1 p0 p1 y0 y1 g0 g1 P4 H4 Z4 O4 o5 hb5
    have f1 := H5.out.thaw 1
    have c1 := H5.out.bad_cell
    have p0 := cell_plain P5.out 0
    have p1 := cell_plain P5.out 1
    have y0 := cell_plain Z5.out 0
    have y1 := cell_plain Z5.out 1
    have g0 := frozen_plain Z5.out 0
    have g1 := frozen_plain Z5.out 1
    simp only [List.getElem?_toArray, List.getElem?_cons_zero, List.getElem?_cons_succ] at p0 p1 y0 y1
    by_cases hm : mayL ((n : Int), (x : Int))
    · rw [decide_eq_true hm]
      have HG := Lib.hid (show gotL s = (((n : Int), (x : Int)), s2) from by rw [HGM.out, if_pos hm])
      have R1 := Lib.hid (row2_set Z5.out (.int .i64 (n : Int)) (.int .u64 (x : Int)))
      have R2 := Lib.hid (H5.out.keep (only_pair _ w.heap.size (.int .i64 (n : Int)) (.int .u64 (x : Int))) (by omega) (fun k hk e => by have := HDL.out k hk; omega))
      have R3 := Lib.hid (O5.out.trans (only_pair _ w.heap.size (.int .i64 (n : Int)) (.int .u64 (x : Int))) fun j hj e => by omega)
      clear HGB HGM P5 H5 Z5 O5 hb hm
      go_wp2
      refine bodyPost_ret (results_cell_row rfl _ _ w.heap.size 24 #[.int .i64 (n : Int), .int .u64 (x : Int)] (0, 0) _ rfl R1.out Try.underlying24 rfl (by kernel_rfl)) rfl ?_
      exact ⟨by rw [HG.out], by rw [HG.out]; exact R2, R3⟩
    · rw [decide_eq_false hm]
      have HG := Lib.hid (show gotL s = ((0, 0), ⟨s2.l, true⟩) from by rw [HGM.out, if_neg hm])
      have R1 := Lib.hid (row2_set ((only_q W5 q 1 (.bool true)).block _ (lt_of_heap Z5.out) (show ¬ w.heap.size = q by omega) |>.trans Z5.out) (.int .i64 0) (.int .u64 0))
      have R2 := Lib.hid ((H5.out.fail s2.l).keep (only_pair _ w.heap.size (.int .i64 0) (.int .u64 0)) (by omega) (fun k hk e => by have := HDL.out k hk; omega))
      have R3 := Lib.hid ((only_two O5.out (only_q _ q 1 (.bool true))).trans (only_pair _ w.heap.size (.int .i64 0) (.int .u64 0)) fun j hj e => by omega)
      clear HGB HGM P5 H5 Z5 O5 hb hm
      go_wp2
      refine bodyPost_ret (results_cell_row rfl _ _ w.heap.size 24 #[.int .i64 0, .int .u64 0] (0, 0) _ rfl R1.out Try.underlying24 rfl (by kernel_rfl)) rfl ?_
      exact ⟨by rw [HG.out], by rw [HG.out]; exact R2, R3⟩
end Go.Proofs.Ytlcddfkhklmieaa
