/-
  What package packet reads: a head, an ack's head, lists of heads and of lives. For Readers of at most 2^46 bytes.
-/
import Derived.Test.YtlcddfkhklmieaaKown
import Derived.Test.YtlcddfkhklmieaaKget
import Derived.Test.YtlcddfkhklmieaaKtab
import Derived.Test.YtlcddfkhklmieaaKrow
import Derived.Test.YtlcddfkhklmieaaGp
namespace Go.Proofs.Ytlcddfkhklmieaa
set_option maxRecDepth 20000
open Go.RowKit

theorem wrap_b {x : Nat} (h : x < 256) : IntKind.i64.wrap (x : Int) = (x : Int) := by simp [IntKind.wrap, IntKind.bits, IntKind.signed]; omega
theorem wrap_b64 {x : Nat} (h : x < 256) : wrap64 (x : Int) = (x : Int) := by unfold wrap64; omega
theorem set_fourth {W : World} {B : Nat} {a0 a1 a2 a3 : Value} {t : TypeId} (h : W.heap[B]? = some (.cells #[a0, a1, a2, a3] t (0, 0))) (v3 : Value) : (W.setCell ⟨B, 3, none⟩ v3).heap[B]? = some (.cells #[a0, a1, a2, v3] t (0, 0)) := by
  simp [World.setCell, Array.getElem?_modify, h]
theorem Rd.on2 {T : TypeId} {w w' : World} {q : Nat} {d : Option Nat} {l : List UInt8} {bad : Bool} (h : Rd T w q d l bad) (hb : Below w.heap.size w w') : Rd T w' q d l bad :=
  h.keep (S := fun _ => False) ⟨hb.os, hb.tape, hb.output, hb.size, fun j hj _ => hb.block j hj⟩ (fun h => h) (fun _ _ h => h)
/-- What a reader of a head answers. -/
def GotH (k3 : Bool) (q : Nat) (d : Option Nat) (s : RS) (w : World) (e : Ending) (w' : World) : Prop :=
  e = .returned (hdV (getH k3 s).1) ∧ Hid (Rd RdT w' q d (getH k3 s).2.l (getH k3 s).2.bad) ∧ Hid (Only (fun k => k = q) w w')
set_option maxHeartbeats 2000000 in
theorem gethd_any (q : Nat) (d : Option Nat) (s : RS) (w : World) (h : Rd RdT w q d s.l s.bad) (hr : s.l.length ≤ 70368744177664) :
    Calls Try.prog 87 #[.pointer (some ⟨q, 0, none⟩)] w (GotH false q d s w) := by
  have B0 := Lib.hid ((Only.refl (fun k => k = q) w).alloc (.cells #[.int .i64 0, .int .u64 0, .int .u64 0, .int .u64 0] 51))
  have hq := h.lt
  have h1 := Lib.hid (h.keep (S := fun _ => False) ((Only.refl (fun _ => False) w).alloc (.cells #[.int .i64 0, .int .u64 0, .int .u64 0, .int .u64 0] 51)) (fun h => h) (fun _ _ h => h))
  have R0 := Lib.hid (heap_alloc_new w (.cells #[.int .i64 0, .int .u64 0, .int .u64 0, .int .u64 0] 51))
  have HDL := Lib.hid h.dlt
  have HQ := Lib.hid hq
  have HS1 := Lib.hid (Nat.le_trans (rWide_le s 1) hr)
  have HS2 := Lib.hid (Nat.le_trans (rUint_le (rWide s 1).2) (Nat.le_trans (rWide_le s 1) hr))
  have HG := Lib.hid (show getH false s = (⟨((rWide s 1).1 : Int), (rUint (rWide s 1).2).1, (rUint (rUint (rWide s 1).2).2).1, 0⟩, (rUint (rUint (rWide s 1).2).2).2) from rfl)
  unfold GotH
  generalize getH false s = gs at *
  clear h hq hr
  go_enter Try.func87, Try.ntmps87
  go_wp2_with fail
  generalize w.alloc (.cells #[.int .i64 0, .int .u64 0, .int .u64 0, .int .u64 0] 51) = W0 at *
  refine (ru8_any q d s W0 h1.out).mono ?_
  rintro e W1 ⟨rfl, r1, o1⟩
  have hlt1 := rWide_lt s 1
  generalize (rWide s 1).1 = x at *
  generalize (rWide s 1).2 = s1 at *
  have e1 := wrap_b (x := x) (by simpa using hlt1)
  have e2 := wrap_b64 (x := x) (by simpa using hlt1)
  clear h1 hlt1
  go_wp2_with fail
  refine (uint_any q d s1 W1 r1.out HS1.out).mono ?_
  rintro e W2 ⟨rfl, r2, o2⟩
  generalize (rUint s1).1 = y at *
  generalize (rUint s1).2 = s2 at *
  go_wp2_with fail
  refine (uint_any q d s2 W2 r2.out HS2.out).mono ?_
  rintro e W3 ⟨rfl, r3, o3⟩
  generalize (rUint s2).1 = z at *
  generalize (rUint s2).2 = s3 at *
  have hqB : w.heap.size ≠ q := by have := HQ.out; omega
  have oo := Lib.hid (only_trans (only_trans o1.out o2.out) o3.out)
  have R3 := Lib.hid ((oo.out.block _ (lt_of_heap R0.out) hqB).trans R0.out)
  have HQB := Lib.hid hqB
  clear R0 o1 o2 o3 r1 r2 hqB
  obtain rfl := HG.out
  have y0 := cell_plain R3.out 0
  have y1 := cell_plain R3.out 1
  have y2 := cell_plain R3.out 2
  have y3 := cell_plain R3.out 3
  simp only [List.getElem?_toArray, List.getElem?_cons_zero, List.getElem?_cons_succ] at y0 y1 y2 y3
  have f0 := frozen_plain R3.out 0
  have f1 := frozen_plain R3.out 1
  have f2 := frozen_plain R3.out 2
  have f3 := frozen_plain R3.out 3
  have R4 := Lib.hid (set_quad R3.out (.int .i64 (x : Int)) (.int .u64 (y : Int)) (.int .u64 (z : Int)) (.int .u64 0))
  have hoq := only_quad W3 w.heap.size (.int .i64 (x : Int)) (.int .u64 (y : Int)) (.int .u64 (z : Int)) (.int .u64 0)
  have P1 := Lib.hid (r3.out.keep hoq (fun e => HQB.out e.symm) (fun k e e2 => by have := HDL.out k e; omega))
  have P2 := Lib.hid ((only_trans B0.out oo.out).trans (hoq.weak (S := fun k => k = q ∨ w.heap.size ≤ k) (fun k _ e => .inr (Nat.le_of_eq e.symm))) (T := fun k => k = q ∨ w.heap.size ≤ k) (S := fun k => k = q) (fun k hk e => by rcases e with e | e; exact e; omega))
  clear R3 r3 oo B0 hoq HG
  go_wp2
  refine bodyPost_ret (results_cell_row rfl _ _ w.heap.size 51 #[.int .i64 (x : Int), .int .u64 (y : Int), .int .u64 (z : Int), .int .u64 0] (0, 0) _ rfl R4.out Try.underlying51 rfl (by kernel_rfl)) rfl ?_
  exact ⟨rfl, P1, P2⟩
set_option maxHeartbeats 2000000 in
theorem getack_any (q : Nat) (d : Option Nat) (s : RS) (w : World) (h : Rd RdT w q d s.l s.bad) (hr : s.l.length ≤ 70368744177664) :
    Calls Try.prog 89 #[.pointer (some ⟨q, 0, none⟩)] w (GotH true q d s w) := by
  have B0 := Lib.hid ((Only.refl (fun k => k = q) w).alloc (.cells #[.int .i64 0, .int .u64 0, .int .u64 0, .int .u64 0] 51))
  have hq := h.lt
  have h1 := Lib.hid (h.keep (S := fun _ => False) ((Only.refl (fun _ => False) w).alloc (.cells #[.int .i64 0, .int .u64 0, .int .u64 0, .int .u64 0] 51)) (fun h => h) (fun _ _ h => h))
  have R0 := Lib.hid (heap_alloc_new w (.cells #[.int .i64 0, .int .u64 0, .int .u64 0, .int .u64 0] 51))
  have HDL := Lib.hid h.dlt
  have HQ := Lib.hid hq
  have HR := Lib.hid hr
  have HS1 := Lib.hid (Nat.le_trans (getH_le false s) hr)
  have HG := Lib.hid (show getH true s = (⟨(getH false s).1.dst, (getH false s).1.conn, (getH false s).1.seq, (rUint (getH false s).2).1⟩, (rUint (getH false s).2).2) from rfl)
  have HG0 := Lib.hid (show (getH false s).1.inc = 0 from rfl)
  unfold GotH
  generalize getH true s = gs at *
  clear h hq hr
  go_enter Try.func89, Try.ntmps89
  go_wp2_with fail
  generalize w.alloc (.cells #[.int .i64 0, .int .u64 0, .int .u64 0, .int .u64 0] 51) = W0 at *
  refine (gethd_any q d s W0 h1.out HR.out).mono ?_
  rintro e W1 ⟨rfl, r1, o1⟩
  generalize getH false s = hs at *
  obtain ⟨⟨dd, c, sq, ii⟩, s1⟩ := hs
  simp only at HG HG0 HS1 r1
  obtain rfl := HG0.out
  have oo1 := only_trans B0.out o1.out
  have hqB : w.heap.size ≠ q := by have := HQ.out; omega
  have R1 := Lib.hid ((o1.out.block _ (lt_of_heap R0.out) hqB).trans R0.out)
  have HQB := Lib.hid hqB
  have HQ1 := r1.out.lt
  have HW1 := Lib.hid (lt_of_heap R1.out)
  -- the head, in a block of its own
  have N2 := Lib.hid (heap_alloc_new W1 (.cells #[.int .i64 dd, .int .u64 (c : Int), .int .u64 (sq : Int), .int .u64 ((0 : Nat) : Int)] 51))
  have hB2 := wbelow_box W1 (.cells #[.int .i64 dd, .int .u64 (c : Int), .int .u64 (sq : Int), .int .u64 ((0 : Nat) : Int)] 51)
  have R2 := Lib.hid ((hB2.block _ HW1.out).trans R1.out)
  have r2 := Lib.hid (r1.out.on2 hB2)
  have O2 := Lib.hid (only_trans oo1 (Only.ofBelow (S := fun k => k = q) hB2))
  have HD1 := Lib.hid r1.out.dlt
  clear R0 o1 oo1 B0 h1 R1 r1 hB2 hqB
  simp only [hdV]
  go_wp2_with fail
  simp only [Int.natCast_zero] at *
  generalize W1.alloc (.cells #[.int .i64 dd, .int .u64 (c : Int), .int .u64 (sq : Int), .int .u64 0] 51) = W2 at *
  refine (uint_any q d s1 W2 r2.out HS1.out).mono ?_
  rintro e W3 ⟨rfl, r3, o3⟩
  generalize (rUint s1).1 = y at *
  generalize (rUint s1).2 = s2 at *
  have N3 := Lib.hid ((o3.out.block _ (lt_of_heap N2.out) (by omega)).trans N2.out)
  have R3 := Lib.hid ((o3.out.block _ (lt_of_heap R2.out) HQB.out).trans R2.out)
  have O3 := Lib.hid (only_trans O2.out o3.out)
  obtain rfl := HG.out
  clear r2 o3 N2 R2 O2
  generalize hb1 : W1.heap.size = b1 at *
  have hb01 : w.heap.size ≠ b1 := by have := HW1.out; omega
  have hqb1 : q ≠ b1 := by omega
  have x0 := cell_plain N3.out 0
  have x1 := cell_plain N3.out 1
  have x2 := cell_plain N3.out 2
  have x3 := cell_plain N3.out 3
  have y0 := cell_plain R3.out 0
  have y1 := cell_plain R3.out 1
  have y2 := cell_plain R3.out 2
  have y3 := cell_plain R3.out 3
  simp only [List.getElem?_toArray, List.getElem?_cons_zero, List.getElem?_cons_succ] at x0 x1 x2 x3 y0 y1 y2 y3
  have g3 := frozen_plain N3.out 3
  have f0 := frozen_plain R3.out 0
  have f1 := frozen_plain R3.out 1
  have f2 := frozen_plain R3.out 2
  have f3 := frozen_plain R3.out 3
  have N4 := set_fourth N3.out (.int .u64 (y : Int))
  have z0 := cell_plain N4 0
  have z1 := cell_plain N4 1
  have z2 := cell_plain N4 2
  have z3 := cell_plain N4 3
  simp only [List.getElem?_toArray, List.getElem?_cons_zero, List.getElem?_cons_succ] at z0 z1 z2 z3
  have ho4 : Only (fun k => k = b1) W3 (W3.setCell ⟨b1, 3, none⟩ (.int .u64 (y : Int))) := (Only.refl (fun k => k = b1) W3).setCell (p := ⟨b1, 3, none⟩) (.inl rfl) _
  have R4 := (ho4.block _ (lt_of_heap R3.out) hb01).trans R3.out
  have hoq := only_quad (W3.setCell ⟨b1, 3, none⟩ (.int .u64 (y : Int))) w.heap.size (.int .i64 dd) (.int .u64 (c : Int)) (.int .u64 (sq : Int)) (.int .u64 (y : Int))
  have R5 := Lib.hid (set_quad R4 (.int .i64 dd) (.int .u64 (c : Int)) (.int .u64 (sq : Int)) (.int .u64 (y : Int)))
  have P1 := Lib.hid ((r3.out.keep ho4 hqb1 (fun k e e2 => by have := HD1.out k e; omega)).keep hoq (fun e => HQB.out e.symm) (fun k e e2 => by have := HDL.out k e; omega))
  have hw1 := HW1.out
  have P2 := Lib.hid (((O3.out.trans (ho4.weak (S := fun k => k = q ∨ w.heap.size ≤ k) (fun k _ e => .inr (by omega))) (T := fun k => k = q ∨ w.heap.size ≤ k) (S := fun k => k = q) (fun k hk e => by rcases e with e | e; exact e; omega)).trans (hoq.weak (S := fun k => k = q ∨ w.heap.size ≤ k) (fun k _ e => .inr (Nat.le_of_eq e.symm))) (T := fun k => k = q ∨ w.heap.size ≤ k) (S := fun k => k = q) (fun k hk e => by rcases e with e | e; exact e; omega)))
  clear N3 N4 R3 R4 r3 O3 hoq ho4 HG hb1 HW1 hw1 HQ1
  go_wp2
  refine bodyPost_ret (results_cell_row rfl _ _ w.heap.size 51 #[.int .i64 dd, .int .u64 (c : Int), .int .u64 (sq : Int), .int .u64 (y : Int)] (0, 0) _ rfl R5.out Try.underlying51 rfl (by kernel_rfl)) rfl ?_
  exact ⟨rfl, P1, P2⟩
end Go.Proofs.Ytlcddfkhklmieaa
