/-
  What package packet reads of each kind: getWay, getAdvert, getData, getAck, of a packet that has its kind alone. For Readers of at most 2^46 bytes.
-/
import Derived.Test.YtlcddfkhklmieaaKgetb
import Derived.Test.YtlcddfkhklmieaaFrows
namespace Go.Proofs.Ytlcddfkhklmieaa
set_option maxRecDepth 20000
open Go.RowKit

set_option maxHeartbeats 4000000 in
theorem getway_any (q : Nat) (d : Option Nat) (s : RS) (k : Int) (w : World) (h : Rd RdT w q d s.l s.bad) (hr : s.l.length ≤ 70368744177664) :
    Calls Try.prog 85 #[.agg #[.int .i64 k, .int .i64 0, .int .u64 0, .int .i64 0, .slice none 0 0, .slice none 0 0, .int .i64 0, .int .u64 0, .int .u64 0, .slice none 0 0], .pointer (some ⟨q, 0, none⟩)] w fun e w' => e = .returned (.agg #[.int .i64 k, .int .i64 (gotL s).1.1, .int .u64 (gotL s).1.2, .int .i64 ((hopsS s).1 : Int), .slice none 0 0, .slice none 0 0, .int .i64 0, .int .u64 0, .int .u64 0, .slice none 0 0]) ∧ Hid (Rd RdT w' q d (hopsS s).2.l (hopsS s).2.bad) ∧ Hid (Only (fun k => k = q) w w') := by
  have A0 := row10_new w (.int .i64 k) (.int .i64 0) (.int .u64 0) (.int .i64 0) (.slice none 0 0) (.slice none 0 0) (.int .i64 0) (.int .u64 0) (.int .u64 0) (.slice none 0 0) 58
  have hB0 := wbelow_box w (.cells #[.int .i64 k, .int .i64 0, .int .u64 0, .int .i64 0, .slice none 0 0, .slice none 0 0, .int .i64 0, .int .u64 0, .int .u64 0, .slice none 0 0] 58)
  have hz : (w.alloc (.cells #[.int .i64 k, .int .i64 0, .int .u64 0, .int .i64 0, .slice none 0 0, .slice none 0 0, .int .i64 0, .int .u64 0, .int .u64 0, .slice none 0 0] 58)).heap.size = w.heap.size + 1 := by simp
  have N0 := row10_new (w.alloc (.cells #[.int .i64 k, .int .i64 0, .int .u64 0, .int .i64 0, .slice none 0 0, .slice none 0 0, .int .i64 0, .int .u64 0, .int .u64 0, .slice none 0 0] 58)) (.int .i64 0) (.int .i64 0) (.int .u64 0) (.int .i64 0) (.slice none 0 0) (.slice none 0 0) (.int .i64 0) (.int .u64 0) (.int .u64 0) (.slice none 0 0) 58
  have hB1 := wbelow_box (w.alloc (.cells #[.int .i64 k, .int .i64 0, .int .u64 0, .int .i64 0, .slice none 0 0, .slice none 0 0, .int .i64 0, .int .u64 0, .int .u64 0, .slice none 0 0] 58)) (.cells #[.int .i64 0, .int .i64 0, .int .u64 0, .int .i64 0, .slice none 0 0, .slice none 0 0, .int .i64 0, .int .u64 0, .int .u64 0, .slice none 0 0] 58)
  rw [hz] at N0
  have BX := Lib.hid (A0.below hB1)
  have RS := Lib.hid N0
  have BB := Lib.hid (ktr hB0 hB1)
  have HQ := Lib.hid h.lt
  have HDL := Lib.hid h.dlt
  have HRD := Lib.hid (h.on2 BB.out)
  have HR := Lib.hid hr
  have HZ2 := Lib.hid BX.out.lt
  clear A0 hB0 hz N0 hB1 h hr
  obtain ⟨⟨⟨n1, n2⟩, s1⟩, hg⟩ : ∃ y, gotL s = y := ⟨_, rfl⟩
  obtain ⟨⟨x, s2⟩, hw⟩ : ∃ y, rWide s1 1 = y := ⟨_, rfl⟩
  have hhop : hopsS s = (x, s2) := by unfold hopsS; rw [hg]; exact hw
  have hlt : x < 256 := by have := rWide_lt s1 1; rw [hw] at this; simpa using this
  simp only [hg, hhop]
  have HG := Lib.hid hg
  have HW := Lib.hid hw
  clear hg hw hhop
  go_enter Try.func85, Try.ntmps85
  go_wp2_with fail
  generalize (w.alloc (.cells #[.int .i64 k, .int .i64 0, .int .u64 0, .int .i64 0, .slice none 0 0, .slice none 0 0, .int .i64 0, .int .u64 0, .int .u64 0, .slice none 0 0] 58)).alloc (.cells #[.int .i64 0, .int .i64 0, .int .u64 0, .int .i64 0, .slice none 0 0, .slice none 0 0, .int .i64 0, .int .u64 0, .int .u64 0, .slice none 0 0] 58) = W0 at *
  refine (get_any q d s W0 HRD.out HR.out).mono ?_
  rintro e W1 ⟨rfl, r1, o1⟩
  rw [HG.out] at r1 ⊢
  simp only [lifeV] at r1 ⊢
  go_wp2_with fail
  refine (ru8_any q d s1 W1 r1.out).mono ?_
  rintro e W2 ⟨rfl, r2, o2⟩
  rw [HW.out] at r2 ⊢
  simp only at r2 ⊢
  have e1 := wrap_b hlt
  have e2 := wrap_b64 hlt
  have OO := Lib.hid (only_trans o1.out o2.out)
  have hq0 := HQ.out
  have BX2 := Lib.hid (BX.out.only OO.out (by omega))
  have RS2 := Lib.hid (RS.out.only OO.out (by omega))
  clear BX RS r1 o1 o2 hlt HRD
  have BX := BX2
  have RS := RS2
  clear BX2 RS2
  obtain ⟨u0, u1, u2, u3, u4, u5, u6, u7, u8, u9⟩ := BX.out.cells
  obtain ⟨p0, p1, p2, p3, p4, p5, p6, p7, p8, p9⟩ := BX.out.thaw
  obtain ⟨y0, y1, y2, y3, y4, y5, y6, y7, y8, y9⟩ := RS.out.cells
  obtain ⟨g0, g1, g2, g3, g4, g5, g6, g7, g8, g9⟩ := RS.out.thaw
  have X0 := BX.out.s12 (.int .i64 n1) (.int .u64 n2)
  have ho0 := only_s12 W2 w.heap.size (.int .i64 n1) (.int .u64 n2)
  have X1 := X0.s3 (.int .i64 (x : Int))
  have ho1 := only_s3 (((W2.setCell ⟨w.heap.size, 1, none⟩ (.int .i64 n1)).setCell ⟨w.heap.size, 2, none⟩ (.int .u64 n2))) w.heap.size (.int .i64 (x : Int))
  have hoo1 := only_trans ho0 ho1
  obtain ⟨x0, x1, x2, x3, x4, x5, x6, x7, x8, x9⟩ := X1.cells
  have hq := HQ.out
  have R2 := RS.out.only hoo1 (by omega)
  have R3 := Lib.hid (R2.all (.int .i64 k) (.int .i64 n1) (.int .u64 n2) (.int .i64 (x : Int)) (.slice none 0 0) (.slice none 0 0) (.int .i64 0) (.int .u64 0) (.int .u64 0) (.slice none 0 0))
  have hT := only_all (((W2.setCell ⟨w.heap.size, 1, none⟩ (.int .i64 n1)).setCell ⟨w.heap.size, 2, none⟩ (.int .u64 n2)).setCell ⟨w.heap.size, 3, none⟩ (.int .i64 (x : Int))) (w.heap.size + 1) (.int .i64 k) (.int .i64 n1) (.int .u64 n2) (.int .i64 (x : Int)) (.slice none 0 0) (.slice none 0 0) (.int .i64 0) (.int .u64 0) (.int .u64 0) (.slice none 0 0)
  have HOO := Lib.hid ((hoo1.weak (S := fun k => k = w.heap.size ∨ k = w.heap.size + 1) (fun _ _ e => .inl e)).trans (hT.weak (S := fun k => k = w.heap.size ∨ k = w.heap.size + 1) (fun _ _ e => .inr e)) (S := fun k => k = w.heap.size ∨ k = w.heap.size + 1) (fun _ _ e => e))
  clear R2 hT X0 ho0 X1 ho1 hoo1
  have P1 := Lib.hid (r2.out.keep HOO.out (fun e => by omega) (fun k e e2 => by have := HDL.out k e; omega))
  have P2 := Lib.hid (((Only.ofBelow (S := fun k => k = q) BB.out).trans OO.out (fun _ _ e => e)).trans (HOO.out.weak (S := fun k => k = q ∨ w.heap.size ≤ k) (fun k _ e => .inr (by omega))) (T := fun k => k = q ∨ w.heap.size ≤ k) (S := fun k => k = q) (fun k hk e => by rcases e with e | e; exact e; omega))
  clear HOO OO BB r2 BX RS hq
  go_wp2
  refine bodyPost_ret (results_cell_row rfl _ _ (w.heap.size + 1) 58 #[.int .i64 k, .int .i64 n1, .int .u64 n2, .int .i64 (x : Int), .slice none 0 0, .slice none 0 0, .int .i64 0, .int .u64 0, .int .u64 0, .slice none 0 0] (0, 0) _ rfl R3.out Try.underlying58 rfl (by kernel_rfl)) rfl ?_
  exact ⟨rfl, P1, P2⟩
set_option maxHeartbeats 4000000 in
theorem getadv_any (q : Nat) (d : Option Nat) (s : RS) (k : Int) (w : World) (h : Rd RdT w q d s.l s.bad) (hr : s.l.length ≤ 70368744177664) :
    Calls Try.prog 64 #[.agg #[.int .i64 k, .int .i64 0, .int .u64 0, .int .i64 0, .slice none 0 0, .slice none 0 0, .int .i64 0, .int .u64 0, .int .u64 0, .slice none 0 0], .pointer (some ⟨q, 0, none⟩)] w fun e w' => ∃ P cp, e = .returned (.agg #[.int .i64 k, .int .i64 0, .int .u64 0, .int .i64 0, .slice none 0 0, .slice none 0 0, .int .i64 (gotL s).1.1, .int .u64 (gotL s).1.2, .int .u64 ((rUint (gotL s).2).1 : Int), .slice P (peersN s).1 cp]) ∧ Hid (OwnP w' w.heap.size P (peersN s).1 cp (gets (peersN s).1 (peersN s).2).1) ∧ Hid (Rd RdT w' q d (gets (peersN s).1 (peersN s).2).2.l (gets (peersN s).1 (peersN s).2).2.bad) ∧ Hid (Only (fun k => k = q) w w') := by
  have A0 := row10_new w (.int .i64 k) (.int .i64 0) (.int .u64 0) (.int .i64 0) (.slice none 0 0) (.slice none 0 0) (.int .i64 0) (.int .u64 0) (.int .u64 0) (.slice none 0 0) 58
  have hB0 := wbelow_box w (.cells #[.int .i64 k, .int .i64 0, .int .u64 0, .int .i64 0, .slice none 0 0, .slice none 0 0, .int .i64 0, .int .u64 0, .int .u64 0, .slice none 0 0] 58)
  have hz : (w.alloc (.cells #[.int .i64 k, .int .i64 0, .int .u64 0, .int .i64 0, .slice none 0 0, .slice none 0 0, .int .i64 0, .int .u64 0, .int .u64 0, .slice none 0 0] 58)).heap.size = w.heap.size + 1 := by simp
  have N0 := row10_new (w.alloc (.cells #[.int .i64 k, .int .i64 0, .int .u64 0, .int .i64 0, .slice none 0 0, .slice none 0 0, .int .i64 0, .int .u64 0, .int .u64 0, .slice none 0 0] 58)) (.int .i64 0) (.int .i64 0) (.int .u64 0) (.int .i64 0) (.slice none 0 0) (.slice none 0 0) (.int .i64 0) (.int .u64 0) (.int .u64 0) (.slice none 0 0) 58
  have hB1 := wbelow_box (w.alloc (.cells #[.int .i64 k, .int .i64 0, .int .u64 0, .int .i64 0, .slice none 0 0, .slice none 0 0, .int .i64 0, .int .u64 0, .int .u64 0, .slice none 0 0] 58)) (.cells #[.int .i64 0, .int .i64 0, .int .u64 0, .int .i64 0, .slice none 0 0, .slice none 0 0, .int .i64 0, .int .u64 0, .int .u64 0, .slice none 0 0] 58)
  rw [hz] at N0
  have BX := Lib.hid (A0.below hB1)
  have RS := Lib.hid N0
  have BB := Lib.hid (ktr hB0 hB1)
  have HQ := Lib.hid h.lt
  have HDL := Lib.hid h.dlt
  have HRD := Lib.hid (h.on2 BB.out)
  have HR := Lib.hid hr
  have HZ2 := Lib.hid BX.out.lt
  clear A0 hB0 hz N0 hB1 h hr
  obtain ⟨⟨⟨n1, n2⟩, s1⟩, hg⟩ : ∃ y, gotL s = y := ⟨_, rfl⟩
  obtain ⟨⟨z, s2⟩, hu⟩ : ∃ y, rUint s1 = y := ⟨_, rfl⟩
  obtain ⟨⟨np, s3⟩, hw⟩ : ∃ y, rWide s2 1 = y := ⟨_, rfl⟩
  obtain ⟨⟨ps, s4⟩, hgs⟩ : ∃ y, gets np s3 = y := ⟨_, rfl⟩
  have hpn : peersN s = (np, s3) := by unfold peersN; rw [hg]; simp only [hu]; exact hw
  have HS1 := Lib.hid (Nat.le_trans (gotL_le s) HR.out)
  have HS2 := Lib.hid (Nat.le_trans (rUint_le (gotL s).2) (Nat.le_trans (gotL_le s) HR.out))
  simp only [hg, hu] at HS1 HS2
  simp only [hg, hpn, hgs, hu]
  have HG := Lib.hid hg
  have HU := Lib.hid hu
  have HW := Lib.hid hw
  have HGS := Lib.hid hgs
  clear hg hw hu hgs hpn
  go_enter Try.func64, Try.ntmps64
  go_wp2_with fail
  generalize (w.alloc (.cells #[.int .i64 k, .int .i64 0, .int .u64 0, .int .i64 0, .slice none 0 0, .slice none 0 0, .int .i64 0, .int .u64 0, .int .u64 0, .slice none 0 0] 58)).alloc (.cells #[.int .i64 0, .int .i64 0, .int .u64 0, .int .i64 0, .slice none 0 0, .slice none 0 0, .int .i64 0, .int .u64 0, .int .u64 0, .slice none 0 0] 58) = W0 at *
  refine (get_any q d s W0 HRD.out HR.out).mono ?_
  rintro e W1 ⟨rfl, r1, o1⟩
  rw [HG.out] at r1 ⊢
  simp only [lifeV] at r1 ⊢
  go_wp2_with fail
  refine (uint_any q d s1 W1 r1.out HS1.out).mono ?_
  rintro e W2 ⟨rfl, r2, o2⟩
  rw [HU.out] at r2 ⊢
  simp only at r2 ⊢
  go_wp2_with fail
  refine (getlp_any q d s2 W2 r2.out HS2.out).mono ?_
  rintro e W3 ⟨P, cp, rfl, hp, r3, o3⟩
  rw [HW.out] at hp r3 ⊢
  simp only at hp r3 ⊢
  rw [HGS.out] at hp r3
  simp only at hp r3
  have OO := Lib.hid (only_trans (only_trans o1.out o2.out) o3.out)
  have hq0 := HQ.out
  have hw2 : w.heap.size + 2 ≤ W2.heap.size := by have h1 := HZ2.out; have h2 := RS.out.lt; have h3 := o1.out.size; have h4 := o2.out.size; omega
  have HW2 := Lib.hid hw2
  have BX2 := Lib.hid (BX.out.only OO.out (by omega))
  have RS2 := Lib.hid (RS.out.only OO.out (by omega))
  clear BX RS r1 r2 o1 o2 o3 HRD hw2
  have BX := BX2
  have RS := RS2
  clear BX2 RS2
  obtain ⟨u0, u1, u2, u3, u4, u5, u6, u7, u8, u9⟩ := BX.out.cells
  obtain ⟨p0, p1, p2, p3, p4, p5, p6, p7, p8, p9⟩ := BX.out.thaw
  obtain ⟨y0, y1, y2, y3, y4, y5, y6, y7, y8, y9⟩ := RS.out.cells
  obtain ⟨g0, g1, g2, g3, g4, g5, g6, g7, g8, g9⟩ := RS.out.thaw
  have X0 := BX.out.s69 (.int .i64 n1) (.int .u64 n2) (.int .u64 (z : Int)) (.slice P np cp)
  have ho0 := only_s69 W3 w.heap.size (.int .i64 n1) (.int .u64 n2) (.int .u64 (z : Int)) (.slice P np cp)
  obtain ⟨x0, x1, x2, x3, x4, x5, x6, x7, x8, x9⟩ := X0.cells
  have hq := HQ.out
  have R2 := RS.out.only ho0 (by omega)
  have R3 := Lib.hid (R2.all (.int .i64 k) (.int .i64 0) (.int .u64 0) (.int .i64 0) (.slice none 0 0) (.slice none 0 0) (.int .i64 n1) (.int .u64 n2) (.int .u64 (z : Int)) (.slice P np cp))
  have hT := only_all ((((W3.setCell ⟨w.heap.size, 6, none⟩ (.int .i64 n1)).setCell ⟨w.heap.size, 7, none⟩ (.int .u64 n2)).setCell ⟨w.heap.size, 8, none⟩ (.int .u64 (z : Int))).setCell ⟨w.heap.size, 9, none⟩ (.slice P np cp)) (w.heap.size + 1) (.int .i64 k) (.int .i64 0) (.int .u64 0) (.int .i64 0) (.slice none 0 0) (.slice none 0 0) (.int .i64 n1) (.int .u64 n2) (.int .u64 (z : Int)) (.slice P np cp)
  have HOO := Lib.hid ((ho0.weak (S := fun k => k = w.heap.size ∨ k = w.heap.size + 1) (fun _ _ e => .inl e)).trans (hT.weak (S := fun k => k = w.heap.size ∨ k = w.heap.size + 1) (fun _ _ e => .inr e)) (S := fun k => k = w.heap.size ∨ k = w.heap.size + 1) (fun _ _ e => e))
  clear R2 hT X0 ho0 
  have P0 := Lib.hid ((hp.out.keep HOO.out (fun j e => by have := ownP_base hp.out j e; have := HW2.out; omega)).lower (base' := w.heap.size) (by have := HW2.out; omega))
  have P1 := Lib.hid (r3.out.keep HOO.out (fun e => by omega) (fun k e e2 => by have := HDL.out k e; omega))
  have P2 := Lib.hid (((Only.ofBelow (S := fun k => k = q) BB.out).trans OO.out (fun _ _ e => e)).trans (HOO.out.weak (S := fun k => k = q ∨ w.heap.size ≤ k) (fun k _ e => .inr (by omega))) (T := fun k => k = q ∨ w.heap.size ≤ k) (S := fun k => k = q) (fun k hk e => by rcases e with e | e; exact e; omega))
  clear HOO OO BB r3 BX RS hq hp
  go_wp2
  refine bodyPost_ret (results_cell_row rfl _ _ (w.heap.size + 1) 58 #[.int .i64 k, .int .i64 0, .int .u64 0, .int .i64 0, .slice none 0 0, .slice none 0 0, .int .i64 n1, .int .u64 n2, .int .u64 (z : Int), .slice P np cp] (0, 0) _ rfl R3.out Try.underlying58 rfl (by kernel_rfl)) rfl ?_
  exact ⟨P, cp, rfl, P0, P1, P2⟩
set_option maxHeartbeats 8000000 in
theorem getdata_any (q : Nat) (d : Option Nat) (s : RS) (k : Int) (w : World) (h : Rd RdT w q d s.l s.bad) (hr : s.l.length ≤ 70368744177664) :
    Calls Try.prog 65 #[.agg #[.int .i64 k, .int .i64 0, .int .u64 0, .int .i64 0, .slice none 0 0, .slice none 0 0, .int .i64 0, .int .u64 0, .int .u64 0, .slice none 0 0], .pointer (some ⟨q, 0, none⟩)] w fun e w' => ∃ H ch A cb, e = .returned (.agg #[.int .i64 k, .int .i64 (gotL s).1.1, .int .u64 (gotL s).1.2, .int .i64 ((hopsS s).1 : Int), .slice H (lenS s).1 ch, .slice A (rText (headS false s).2 320).1.length cb, .int .i64 0, .int .u64 0, .int .u64 0, .slice none 0 0]) ∧ Hid (OwnH w' w.heap.size H (lenS s).1 ch (headS false s).1) ∧ Hid (Wbl w' w.heap.size A cb (rText (headS false s).2 320).1) ∧ Hid (Rd RdT w' q d (rText (headS false s).2 320).2.l (rText (headS false s).2 320).2.bad) ∧ Hid (Only (fun k => k = q) w w') := by
  have A0 := row10_new w (.int .i64 k) (.int .i64 0) (.int .u64 0) (.int .i64 0) (.slice none 0 0) (.slice none 0 0) (.int .i64 0) (.int .u64 0) (.int .u64 0) (.slice none 0 0) 58
  have hB0 := wbelow_box w (.cells #[.int .i64 k, .int .i64 0, .int .u64 0, .int .i64 0, .slice none 0 0, .slice none 0 0, .int .i64 0, .int .u64 0, .int .u64 0, .slice none 0 0] 58)
  have hz : (w.alloc (.cells #[.int .i64 k, .int .i64 0, .int .u64 0, .int .i64 0, .slice none 0 0, .slice none 0 0, .int .i64 0, .int .u64 0, .int .u64 0, .slice none 0 0] 58)).heap.size = w.heap.size + 1 := by simp
  have N0 := row10_new (w.alloc (.cells #[.int .i64 k, .int .i64 0, .int .u64 0, .int .i64 0, .slice none 0 0, .slice none 0 0, .int .i64 0, .int .u64 0, .int .u64 0, .slice none 0 0] 58)) (.int .i64 0) (.int .i64 0) (.int .u64 0) (.int .i64 0) (.slice none 0 0) (.slice none 0 0) (.int .i64 0) (.int .u64 0) (.int .u64 0) (.slice none 0 0) 58
  have hB1 := wbelow_box (w.alloc (.cells #[.int .i64 k, .int .i64 0, .int .u64 0, .int .i64 0, .slice none 0 0, .slice none 0 0, .int .i64 0, .int .u64 0, .int .u64 0, .slice none 0 0] 58)) (.cells #[.int .i64 0, .int .i64 0, .int .u64 0, .int .i64 0, .slice none 0 0, .slice none 0 0, .int .i64 0, .int .u64 0, .int .u64 0, .slice none 0 0] 58)
  rw [hz] at N0
  have BX := Lib.hid (A0.below hB1)
  have RS := Lib.hid N0
  have BB := Lib.hid (ktr hB0 hB1)
  have HQ := Lib.hid h.lt
  have HDL := Lib.hid h.dlt
  have HRD := Lib.hid (h.on2 BB.out)
  have HR := Lib.hid hr
  have HZ2 := Lib.hid BX.out.lt
  clear A0 hB0 hz N0 hB1 h hr
  obtain ⟨⟨⟨n1, n2⟩, sg⟩, hg⟩ : ∃ y, gotL s = y := ⟨_, rfl⟩
  obtain ⟨⟨hops, s1⟩, hhop⟩ : ∃ y, hopsS s = y := ⟨_, rfl⟩
  obtain ⟨⟨nh, s2⟩, hw⟩ : ∃ y, rWide s1 1 = y := ⟨_, rfl⟩
  have hln : lenS s = (nh, s2) := by unfold lenS; rw [hhop]; exact hw
  obtain ⟨⟨hl, s3⟩, hgh⟩ : ∃ y, getHs false nh s2 = y := ⟨_, rfl⟩
  have hhs : (headS false s) = (hl, s3) := by unfold headS; rw [hln]; exact hgh
  obtain ⟨⟨bd, s4⟩, htx⟩ : ∃ y, rText s3 320 = y := ⟨_, rfl⟩
  have HS1 := Lib.hid (show (hopsS s).2.l.length ≤ 70368744177664 from Nat.le_trans (rWide_le _ _) (Nat.le_trans (gotL_le s) HR.out))
  have HS2 := Lib.hid (show (headS false s).2.l.length ≤ 70368744177664 from Nat.le_trans (getHs_le _ _ _) (Nat.le_trans (rWide_le _ _) HS1.out))
  simp only [hhop] at HS1
  simp only [hhs] at HS2
  simp only [hg, hhop, hln, hhs, htx]
  have HG := Lib.hid hg
  have HHOP := Lib.hid hhop
  have HW := Lib.hid hw
  have HGH := Lib.hid hgh
  have HTX := Lib.hid htx
  clear hg hhop hw hln hgh hhs htx
  go_enter Try.func65, Try.ntmps65
  go_wp2_with fail
  generalize (w.alloc (.cells #[.int .i64 k, .int .i64 0, .int .u64 0, .int .i64 0, .slice none 0 0, .slice none 0 0, .int .i64 0, .int .u64 0, .int .u64 0, .slice none 0 0] 58)).alloc (.cells #[.int .i64 0, .int .i64 0, .int .u64 0, .int .i64 0, .slice none 0 0, .slice none 0 0, .int .i64 0, .int .u64 0, .int .u64 0, .slice none 0 0] 58) = W0 at *
  refine (getway_any q d s k W0 HRD.out HR.out).mono ?_
  rintro e W1 ⟨rfl, r1, o1⟩
  rw [HHOP.out] at r1
  rw [HG.out, HHOP.out]
  simp only at r1 ⊢
  have hq0 := HQ.out
  have BX1 := Lib.hid (BX.out.only o1.out (by omega))
  have RS1 := Lib.hid (RS.out.only o1.out (by omega))
  have hz1 := o1.out.size
  have hzz := RS.out.lt
  have HSZ := Lib.hid (show w.heap.size + 2 ≤ W1.heap.size by omega)
  clear BX RS HRD hz1 hzz
  obtain ⟨u0, u1, u2, u3, u4, u5, u6, u7, u8, u9⟩ := BX1.out.cells
  obtain ⟨p0, p1, p2, p3, p4, p5, p6, p7, p8, p9⟩ := BX1.out.thaw
  have BX2 := Lib.hid (BX1.out.all (.int .i64 k) (.int .i64 n1) (.int .u64 n2) (.int .i64 (hops : Int)) (.slice none 0 0) (.slice none 0 0) (.int .i64 0) (.int .u64 0) (.int .u64 0) (.slice none 0 0))
  have hoA := only_all W1 w.heap.size (.int .i64 k) (.int .i64 n1) (.int .u64 n2) (.int .i64 (hops : Int)) (.slice none 0 0) (.slice none 0 0) (.int .i64 0) (.int .u64 0) (.int .u64 0) (.slice none 0 0)
  have RS2 := Lib.hid (RS1.out.only hoA (by omega))
  have r2 := Lib.hid (r1.out.keep hoA (fun e => by omega) (fun k e e2 => by have := HDL.out k e; omega))
  have OA := Lib.hid ((o1.out.weak (S := fun k => k = q ∨ w.heap.size = k) (fun _ _ e => .inl e)).trans (hoA.weak (S := fun k => k = q ∨ w.heap.size = k) (fun _ _ e => .inr e.symm)) (S := fun k => k = q ∨ w.heap.size = k) (fun _ _ e => e))
  have hsz := hoA.size
  have HSZ2 := Lib.hid (Nat.le_trans HSZ.out hsz)
  clear BX1 RS1 r1 o1 hoA hsz HSZ
  go_wp2_with fail
  generalize ((((((((((W1.setCell ⟨w.heap.size, 0, none⟩ (.int .i64 k)).setCell ⟨w.heap.size, 1, none⟩ (.int .i64 n1)).setCell ⟨w.heap.size, 2, none⟩ (.int .u64 n2)).setCell ⟨w.heap.size, 3, none⟩ (.int .i64 (hops : Int))).setCell ⟨w.heap.size, 4, none⟩ (.slice none 0 0)).setCell ⟨w.heap.size, 5, none⟩ (.slice none 0 0)).setCell ⟨w.heap.size, 6, none⟩ (.int .i64 0)).setCell ⟨w.heap.size, 7, none⟩ (.int .u64 0)).setCell ⟨w.heap.size, 8, none⟩ (.int .u64 0)).setCell ⟨w.heap.size, 9, none⟩ (.slice none 0 0)) = W2 at *
  clear u0 p0 u1 p1 u2 p2 u3 p3 u4 p4 u5 p5 u6 p6 u7 p7 u8 p8 u9 p9
  refine (getlh_any q d s1 W2 r2.out HS1.out).mono ?_
  rintro e W3 ⟨H, ch, rfl, hh3, r3, o3⟩
  rw [HW.out] at hh3 r3 ⊢
  simp only at hh3 r3 ⊢
  rw [HGH.out] at hh3 r3
  simp only at hh3 r3
  have BX3 := Lib.hid (BX2.out.only o3.out (by omega))
  have RS3 := Lib.hid (RS2.out.only o3.out (by omega))
  have OB := Lib.hid (OA.out.trans o3.out (fun _ _ e => .inl e))
  have HSZ3 := Lib.hid (Nat.le_trans HSZ2.out o3.out.size)
  clear BX2 RS2 r2 o3 OA
  obtain ⟨u0, u1, u2, u3, u4, u5, u6, u7, u8, u9⟩ := BX3.out.cells
  obtain ⟨p0, p1, p2, p3, p4, p5, p6, p7, p8, p9⟩ := BX3.out.thaw
  have BX4 := Lib.hid (BX3.out.s4 (.slice H nh ch))
  have ho4 := only_s4 W3 w.heap.size (.slice H nh ch)
  have RS4 := Lib.hid (RS3.out.only ho4 (by omega))
  have r4 := Lib.hid (r3.out.keep ho4 (fun e => by omega) (fun k e e2 => by have := HDL.out k e; omega))
  have hh4 := Lib.hid (hh3.out.keep ho4 (fun j e => by have := ownH_base hh3.out j e; have := HSZ2.out; omega))
  have OC := Lib.hid (OB.out.trans (ho4.weak (S := fun k => k = q ∨ w.heap.size = k) (fun _ _ e => .inr e.symm)) (S := fun k => k = q ∨ w.heap.size = k) (fun _ _ e => e))
  have hsz4 := ho4.size
  clear BX3 RS3 r3 hh3 OB ho4
  go_wp2_with fail
  generalize W3.setCell ⟨w.heap.size, 4, none⟩ (.slice H nh ch) = W4 at *
  clear u0 p0 u1 p1 u2 p2 u3 p3 u4 p4 u5 p5 u6 p6 u7 p7 u8 p8 u9 p9
  refine (text_any q d s3 320 W4 (by decide) (by decide) r4.out HS2.out).mono ?_
  rintro e W5 ⟨rfl, r5, o5⟩
  rw [HTX.out] at r5 ⊢
  simp only at r5 ⊢
  obtain ⟨W6, cb, C, hw6, o6⟩ := conv_wbl ⟨bd.toArray⟩ W5
  have hst : strL ⟨bd.toArray⟩ = bd := by simp [strL]
  have hsb : (⟨bd.toArray⟩ : ByteArray).size = bd.length := by simp [ByteArray.size]
  rw [hst] at hw6
  rw [hsb] at C
  have hz45 := o5.out.size
  have HW6 := Lib.hid hw6.out
  have hw6b := hw6.out
  have O46 := only_trans (S := fun k => k = q) o5.out (o6.out.weak (fun _ _ e => e.elim))
  have BX5 := Lib.hid (BX4.out.only O46 (by omega))
  have RS5 := Lib.hid (RS4.out.only O46 (by omega))
  have hh6 := Lib.hid (hh4.out.keep O46 (fun j e => by have := ownH_base hh4.out j e; have := HSZ2.out; omega))
  have r6 := Lib.hid (r5.out.keep o6.out (fun h => h) (fun _ _ h => h))
  have OD := Lib.hid (OC.out.trans O46 (fun _ _ e => .inl e))
  have HSZ5 := Lib.hid (show w.heap.size + 2 ≤ W5.heap.size by have := HSZ3.out; omega)
  generalize hbl : bd.length = nb at *
  have HBL := Lib.hid hbl
  generalize (⟨bd.toArray⟩ : ByteArray) = sb at *
  clear BX4 RS4 r4 r5 hh4 O46 o5 o6 OC hw6 hw6b hst hsb hz45 hbl hsz4
  have BX := BX5
  have RS := RS5
  clear BX5 RS5
  obtain ⟨u0, u1, u2, u3, u4, u5, u6, u7, u8, u9⟩ := BX.out.cells
  obtain ⟨p0, p1, p2, p3, p4, p5, p6, p7, p8, p9⟩ := BX.out.thaw
  obtain ⟨y0, y1, y2, y3, y4, y5, y6, y7, y8, y9⟩ := RS.out.cells
  obtain ⟨g0, g1, g2, g3, g4, g5, g6, g7, g8, g9⟩ := RS.out.thaw
  have X0 := BX.out.s5 (.slice (some ⟨W5.heap.size, 0, none⟩) nb cb)
  have ho0 := only_s5 W6 w.heap.size (.slice (some ⟨W5.heap.size, 0, none⟩) nb cb)
  obtain ⟨x0, x1, x2, x3, x4, x5, x6, x7, x8, x9⟩ := X0.cells
  have hq := HQ.out
  have R2 := RS.out.only ho0 (by omega)
  have R3 := Lib.hid (R2.all (.int .i64 k) (.int .i64 n1) (.int .u64 n2) (.int .i64 (hops : Int)) (.slice H nh ch) (.slice (some ⟨W5.heap.size, 0, none⟩) nb cb) (.int .i64 0) (.int .u64 0) (.int .u64 0) (.slice none 0 0))
  have hT := only_all (W6.setCell ⟨w.heap.size, 5, none⟩ (.slice (some ⟨W5.heap.size, 0, none⟩) nb cb)) (w.heap.size + 1) (.int .i64 k) (.int .i64 n1) (.int .u64 n2) (.int .i64 (hops : Int)) (.slice H nh ch) (.slice (some ⟨W5.heap.size, 0, none⟩) nb cb) (.int .i64 0) (.int .u64 0) (.int .u64 0) (.slice none 0 0)
  have HOO := Lib.hid ((ho0.weak (S := fun k => k = w.heap.size ∨ k = w.heap.size + 1) (fun _ _ e => .inl e)).trans (hT.weak (S := fun k => k = w.heap.size ∨ k = w.heap.size + 1) (fun _ _ e => .inr e)) (S := fun k => k = w.heap.size ∨ k = w.heap.size + 1) (fun _ _ e => e))
  clear R2 hT X0 ho0 
  have P0 := Lib.hid ((hh6.out.keep HOO.out (fun j e => by have := ownH_base hh6.out j e; have := HSZ2.out; omega)).lower (base' := w.heap.size) (by have := HSZ2.out; omega))
  have PB := Lib.hid ((HW6.out.keep HOO.out (fun j e => by have := (HW6.out.lt e).1; have := HSZ5.out; omega)).lower (B' := w.heap.size) (by have := HSZ5.out; omega))
  have P1 := Lib.hid (r6.out.keep HOO.out (fun e => by omega) (fun k e e2 => by have := HDL.out k e; omega))
  have P2 := Lib.hid ((((Only.ofBelow (S := fun k => k = q) BB.out).trans (OD.out.weak (S := fun k => k = q ∨ w.heap.size ≤ k) (fun k _ e => by rcases e with e | e; exact .inl e; exact .inr (by omega))) (T := fun k => k = q ∨ w.heap.size ≤ k) (S := fun k => k = q) (fun k hk e => by rcases e with e | e; exact e; omega))).trans (HOO.out.weak (S := fun k => k = q ∨ w.heap.size ≤ k) (fun k _ e => .inr (by omega))) (T := fun k => k = q ∨ w.heap.size ≤ k) (S := fun k => k = q) (fun k hk e => by rcases e with e | e; exact e; omega))
  clear HOO OD BB r6 BX RS hq hh6
  go_wp2
  refine bodyPost_ret (results_cell_row rfl _ _ (w.heap.size + 1) 58 #[.int .i64 k, .int .i64 n1, .int .u64 n2, .int .i64 (hops : Int), .slice H nh ch, .slice (some ⟨W5.heap.size, 0, none⟩) nb cb, .int .i64 0, .int .u64 0, .int .u64 0, .slice none 0 0] (0, 0) _ rfl R3.out Try.underlying58 rfl (by kernel_rfl)) rfl ?_
  exact ⟨H, ch, _, cb, by rw [HBL.out], P0, PB, P1, P2⟩
set_option maxHeartbeats 8000000 in
theorem getackp_any (q : Nat) (d : Option Nat) (s : RS) (k : Int) (w : World) (h : Rd RdT w q d s.l s.bad) (hr : s.l.length ≤ 70368744177664) :
    Calls Try.prog 66 #[.agg #[.int .i64 k, .int .i64 0, .int .u64 0, .int .i64 0, .slice none 0 0, .slice none 0 0, .int .i64 0, .int .u64 0, .int .u64 0, .slice none 0 0], .pointer (some ⟨q, 0, none⟩)] w fun e w' => ∃ H ch, e = .returned (.agg #[.int .i64 k, .int .i64 (gotL s).1.1, .int .u64 (gotL s).1.2, .int .i64 ((hopsS s).1 : Int), .slice H (lenS s).1 ch, .slice none 0 0, .int .i64 0, .int .u64 0, .int .u64 0, .slice none 0 0]) ∧ Hid (OwnH w' w.heap.size H (lenS s).1 ch (headS true s).1) ∧ Hid (Rd RdT w' q d (headS true s).2.l (headS true s).2.bad) ∧ Hid (Only (fun k => k = q) w w') := by
  have A0 := row10_new w (.int .i64 k) (.int .i64 0) (.int .u64 0) (.int .i64 0) (.slice none 0 0) (.slice none 0 0) (.int .i64 0) (.int .u64 0) (.int .u64 0) (.slice none 0 0) 58
  have hB0 := wbelow_box w (.cells #[.int .i64 k, .int .i64 0, .int .u64 0, .int .i64 0, .slice none 0 0, .slice none 0 0, .int .i64 0, .int .u64 0, .int .u64 0, .slice none 0 0] 58)
  have hz : (w.alloc (.cells #[.int .i64 k, .int .i64 0, .int .u64 0, .int .i64 0, .slice none 0 0, .slice none 0 0, .int .i64 0, .int .u64 0, .int .u64 0, .slice none 0 0] 58)).heap.size = w.heap.size + 1 := by simp
  have N0 := row10_new (w.alloc (.cells #[.int .i64 k, .int .i64 0, .int .u64 0, .int .i64 0, .slice none 0 0, .slice none 0 0, .int .i64 0, .int .u64 0, .int .u64 0, .slice none 0 0] 58)) (.int .i64 0) (.int .i64 0) (.int .u64 0) (.int .i64 0) (.slice none 0 0) (.slice none 0 0) (.int .i64 0) (.int .u64 0) (.int .u64 0) (.slice none 0 0) 58
  have hB1 := wbelow_box (w.alloc (.cells #[.int .i64 k, .int .i64 0, .int .u64 0, .int .i64 0, .slice none 0 0, .slice none 0 0, .int .i64 0, .int .u64 0, .int .u64 0, .slice none 0 0] 58)) (.cells #[.int .i64 0, .int .i64 0, .int .u64 0, .int .i64 0, .slice none 0 0, .slice none 0 0, .int .i64 0, .int .u64 0, .int .u64 0, .slice none 0 0] 58)
  rw [hz] at N0
  have BX := Lib.hid (A0.below hB1)
  have RS := Lib.hid N0
  have BB := Lib.hid (ktr hB0 hB1)
  have HQ := Lib.hid h.lt
  have HDL := Lib.hid h.dlt
  have HRD := Lib.hid (h.on2 BB.out)
  have HR := Lib.hid hr
  have HZ2 := Lib.hid BX.out.lt
  clear A0 hB0 hz N0 hB1 h hr
  obtain ⟨⟨⟨n1, n2⟩, sg⟩, hg⟩ : ∃ y, gotL s = y := ⟨_, rfl⟩
  obtain ⟨⟨hops, s1⟩, hhop⟩ : ∃ y, hopsS s = y := ⟨_, rfl⟩
  obtain ⟨⟨nh, s2⟩, hw⟩ : ∃ y, rWide s1 1 = y := ⟨_, rfl⟩
  have hln : lenS s = (nh, s2) := by unfold lenS; rw [hhop]; exact hw
  obtain ⟨⟨hl, s3⟩, hgh⟩ : ∃ y, getHs true nh s2 = y := ⟨_, rfl⟩
  have hhs : (headS true s) = (hl, s3) := by unfold headS; rw [hln]; exact hgh
  have HS1 := Lib.hid (show (hopsS s).2.l.length ≤ 70368744177664 from Nat.le_trans (rWide_le _ _) (Nat.le_trans (gotL_le s) HR.out))
  have HS2 := Lib.hid (show (headS true s).2.l.length ≤ 70368744177664 from Nat.le_trans (getHs_le _ _ _) (Nat.le_trans (rWide_le _ _) HS1.out))
  simp only [hhop] at HS1
  simp only [hhs] at HS2
  simp only [hg, hhop, hln, hhs]
  have HG := Lib.hid hg
  have HHOP := Lib.hid hhop
  have HW := Lib.hid hw
  have HGH := Lib.hid hgh
  clear hg hhop hw hln hgh hhs
  go_enter Try.func66, Try.ntmps66
  go_wp2_with fail
  generalize (w.alloc (.cells #[.int .i64 k, .int .i64 0, .int .u64 0, .int .i64 0, .slice none 0 0, .slice none 0 0, .int .i64 0, .int .u64 0, .int .u64 0, .slice none 0 0] 58)).alloc (.cells #[.int .i64 0, .int .i64 0, .int .u64 0, .int .i64 0, .slice none 0 0, .slice none 0 0, .int .i64 0, .int .u64 0, .int .u64 0, .slice none 0 0] 58) = W0 at *
  refine (getway_any q d s k W0 HRD.out HR.out).mono ?_
  rintro e W1 ⟨rfl, r1, o1⟩
  rw [HHOP.out] at r1
  rw [HG.out, HHOP.out]
  simp only at r1 ⊢
  have hq0 := HQ.out
  have BX1 := Lib.hid (BX.out.only o1.out (by omega))
  have RS1 := Lib.hid (RS.out.only o1.out (by omega))
  have hz1 := o1.out.size
  have hzz := RS.out.lt
  have HSZ := Lib.hid (show w.heap.size + 2 ≤ W1.heap.size by omega)
  clear BX RS HRD hz1 hzz
  obtain ⟨u0, u1, u2, u3, u4, u5, u6, u7, u8, u9⟩ := BX1.out.cells
  obtain ⟨p0, p1, p2, p3, p4, p5, p6, p7, p8, p9⟩ := BX1.out.thaw
  have BX2 := Lib.hid (BX1.out.all (.int .i64 k) (.int .i64 n1) (.int .u64 n2) (.int .i64 (hops : Int)) (.slice none 0 0) (.slice none 0 0) (.int .i64 0) (.int .u64 0) (.int .u64 0) (.slice none 0 0))
  have hoA := only_all W1 w.heap.size (.int .i64 k) (.int .i64 n1) (.int .u64 n2) (.int .i64 (hops : Int)) (.slice none 0 0) (.slice none 0 0) (.int .i64 0) (.int .u64 0) (.int .u64 0) (.slice none 0 0)
  have RS2 := Lib.hid (RS1.out.only hoA (by omega))
  have r2 := Lib.hid (r1.out.keep hoA (fun e => by omega) (fun k e e2 => by have := HDL.out k e; omega))
  have OA := Lib.hid ((o1.out.weak (S := fun k => k = q ∨ w.heap.size = k) (fun _ _ e => .inl e)).trans (hoA.weak (S := fun k => k = q ∨ w.heap.size = k) (fun _ _ e => .inr e.symm)) (S := fun k => k = q ∨ w.heap.size = k) (fun _ _ e => e))
  have hsz := hoA.size
  have HSZ2 := Lib.hid (Nat.le_trans HSZ.out hsz)
  clear BX1 RS1 r1 o1 hoA hsz HSZ
  go_wp2_with fail
  generalize ((((((((((W1.setCell ⟨w.heap.size, 0, none⟩ (.int .i64 k)).setCell ⟨w.heap.size, 1, none⟩ (.int .i64 n1)).setCell ⟨w.heap.size, 2, none⟩ (.int .u64 n2)).setCell ⟨w.heap.size, 3, none⟩ (.int .i64 (hops : Int))).setCell ⟨w.heap.size, 4, none⟩ (.slice none 0 0)).setCell ⟨w.heap.size, 5, none⟩ (.slice none 0 0)).setCell ⟨w.heap.size, 6, none⟩ (.int .i64 0)).setCell ⟨w.heap.size, 7, none⟩ (.int .u64 0)).setCell ⟨w.heap.size, 8, none⟩ (.int .u64 0)).setCell ⟨w.heap.size, 9, none⟩ (.slice none 0 0)) = W2 at *
  clear u0 p0 u1 p1 u2 p2 u3 p3 u4 p4 u5 p5 u6 p6 u7 p7 u8 p8 u9 p9
  refine (getla_any q d s1 W2 r2.out HS1.out).mono ?_
  rintro e W3 ⟨H, ch, rfl, hh3, r3, o3⟩
  rw [HW.out] at hh3 r3 ⊢
  simp only at hh3 r3 ⊢
  rw [HGH.out] at hh3 r3
  simp only at hh3 r3
  have BX3 := Lib.hid (BX2.out.only o3.out (by omega))
  have RS3 := Lib.hid (RS2.out.only o3.out (by omega))
  have OB := Lib.hid (OA.out.trans o3.out (fun _ _ e => .inl e))
  have BX := BX3
  have RS := RS3
  clear BX2 RS2 r2 o3 OA BX3 RS3
  obtain ⟨u0, u1, u2, u3, u4, u5, u6, u7, u8, u9⟩ := BX.out.cells
  obtain ⟨p0, p1, p2, p3, p4, p5, p6, p7, p8, p9⟩ := BX.out.thaw
  obtain ⟨y0, y1, y2, y3, y4, y5, y6, y7, y8, y9⟩ := RS.out.cells
  obtain ⟨g0, g1, g2, g3, g4, g5, g6, g7, g8, g9⟩ := RS.out.thaw
  have X0 := BX.out.s4 (.slice H nh ch)
  have ho0 := only_s4 W3 w.heap.size (.slice H nh ch)
  obtain ⟨x0, x1, x2, x3, x4, x5, x6, x7, x8, x9⟩ := X0.cells
  have hq := HQ.out
  have R2 := RS.out.only ho0 (by omega)
  have R3 := Lib.hid (R2.all (.int .i64 k) (.int .i64 n1) (.int .u64 n2) (.int .i64 (hops : Int)) (.slice H nh ch) (.slice none 0 0) (.int .i64 0) (.int .u64 0) (.int .u64 0) (.slice none 0 0))
  have hT := only_all (W3.setCell ⟨w.heap.size, 4, none⟩ (.slice H nh ch)) (w.heap.size + 1) (.int .i64 k) (.int .i64 n1) (.int .u64 n2) (.int .i64 (hops : Int)) (.slice H nh ch) (.slice none 0 0) (.int .i64 0) (.int .u64 0) (.int .u64 0) (.slice none 0 0)
  have HOO := Lib.hid ((ho0.weak (S := fun k => k = w.heap.size ∨ k = w.heap.size + 1) (fun _ _ e => .inl e)).trans (hT.weak (S := fun k => k = w.heap.size ∨ k = w.heap.size + 1) (fun _ _ e => .inr e)) (S := fun k => k = w.heap.size ∨ k = w.heap.size + 1) (fun _ _ e => e))
  clear R2 hT X0 ho0 
  have P0 := Lib.hid ((hh3.out.keep HOO.out (fun j e => by have := ownH_base hh3.out j e; have := HSZ2.out; omega)).lower (base' := w.heap.size) (by have := HSZ2.out; omega))
  have P1 := Lib.hid (r3.out.keep HOO.out (fun e => by omega) (fun k e e2 => by have := HDL.out k e; omega))
  have P2 := Lib.hid ((((Only.ofBelow (S := fun k => k = q) BB.out).trans (OB.out.weak (S := fun k => k = q ∨ w.heap.size ≤ k) (fun k _ e => by rcases e with e | e; exact .inl e; exact .inr (by omega))) (T := fun k => k = q ∨ w.heap.size ≤ k) (S := fun k => k = q) (fun k hk e => by rcases e with e | e; exact e; omega))).trans (HOO.out.weak (S := fun k => k = q ∨ w.heap.size ≤ k) (fun k _ e => .inr (by omega))) (T := fun k => k = q ∨ w.heap.size ≤ k) (S := fun k => k = q) (fun k hk e => by rcases e with e | e; exact e; omega))
  clear HOO OB BB r3 BX RS hq hh3
  go_wp2
  refine bodyPost_ret (results_cell_row rfl _ _ (w.heap.size + 1) 58 #[.int .i64 k, .int .i64 n1, .int .u64 n2, .int .i64 (hops : Int), .slice H nh ch, .slice none 0 0, .int .i64 0, .int .u64 0, .int .u64 0, .slice none 0 0] (0, 0) _ rfl R3.out Try.underlying58 rfl (by kernel_rfl)) rfl ?_
  exact ⟨H, ch, rfl, P0, P1, P2⟩
end Go.Proofs.Ytlcddfkhklmieaa
