/-
  A packet with lists in memory of its own, by the document's Own. For packets that are not long.
-/
import Derived.Test.YtlcddfkhklmieaaKlaws
namespace Go.Proofs.Ytlcddfkhklmieaa
set_option maxRecDepth 20000
open Go.RowKit

section
variable {b : Nat} {a0 a1 a2 a3 a4 a5 a6 a7 a8 a9 : Value} {ty : TypeId} {w : World}
theorem Row10.s9 (h : Row10 b a0 a1 a2 a3 a4 a5 a6 a7 a8 a9 ty w) (v9 : Value) : Row10 b a0 a1 a2 a3 a4 a5 a6 a7 a8 v9 ty (w.setCell ⟨b, 9, none⟩ v9) := by
  unfold Row10 at *
  simp [World.setCell, Array.getElem?_modify, h]
theorem only_s9 (w : World) (b : Nat) (v9 : Value) : Only (fun k => k = b) w (w.setCell ⟨b, 9, none⟩ v9) := ((Only.refl (fun k => k = b) w).setCell (p := ⟨b, 9, none⟩) (.inl rfl) _)
end
set_option maxHeartbeats 4000000 in
theorem rkown_any (k s t h x y : Int) (z : Nat) (H A P : Option Addr) (nh ch n cap np cp B : Nat) (hs : List Hd) (bd : List UInt8) (ps : List Life) (w : World) (hH : Hds w B H hs) (hA : Bytes w B A bd) (hP : Lives w B P ps) (hB : B ≤ w.heap.size) (hnh : hs.length = nh) (hnn : bd.length = n) (hnp : ps.length = np) (hch : H = none → ch = 0) (hca : A = none → cap = 0) (hcp : P = none → cp = 0) (h1 : nh ≤ 1000) (h2 : n ≤ 65536) (h3 : np ≤ 300) :
    Calls Try.prog 14 #[.agg #[.int .i64 k, .int .i64 s, .int .u64 t, .int .i64 h, .slice H nh ch, .slice A n cap, .int .i64 x, .int .u64 y, .int .u64 (z : Int), .slice P np cp]] w fun e w' => ∃ H1 ch1 A1 ca1 P1 cp1, e = .returned (.agg #[.int .i64 k, .int .i64 s, .int .u64 t, .int .i64 h, .slice H1 nh ch1, .slice A1 n ca1, .int .i64 x, .int .u64 y, .int .u64 (z : Int), .slice P1 np cp1]) ∧ Hid (OwnH w' w.heap.size H1 nh ch1 hs) ∧ Hid (Own8 w' w.heap.size A1 n ca1 bd) ∧ Hid (OwnP w' w.heap.size P1 np cp1 ps) ∧ Hid (Below w.heap.size w w') := by
  have a0 := row10_new w (.int .i64 k) (.int .i64 s) (.int .u64 t) (.int .i64 h) (.slice H nh ch) (.slice A n cap) (.int .i64 x) (.int .u64 y) (.int .u64 (z : Int)) (.slice P np cp) 31
  have hb0 := kbelow_box w (.cells #[.int .i64 k, .int .i64 s, .int .u64 t, .int .i64 h, .slice H nh ch, .slice A n cap, .int .i64 x, .int .u64 y, .int .u64 (z : Int), .slice P np cp] 31)
  have hz : (w.alloc (.cells #[.int .i64 k, .int .i64 s, .int .u64 t, .int .i64 h, .slice H nh ch, .slice A n cap, .int .i64 x, .int .u64 y, .int .u64 (z : Int), .slice P np cp] 31)).heap.size = w.heap.size + 1 := by simp
  have n0 := row10_new (w.alloc (.cells #[.int .i64 k, .int .i64 s, .int .u64 t, .int .i64 h, .slice H nh ch, .slice A n cap, .int .i64 x, .int .u64 y, .int .u64 (z : Int), .slice P np cp] 31)) (.int .i64 0) (.int .i64 0) (.int .u64 0) (.int .i64 0) (.slice none 0 0) (.slice none 0 0) (.int .i64 0) (.int .u64 0) (.int .u64 0) (.slice none 0 0) 31
  have hb1 := kbelow_box (w.alloc (.cells #[.int .i64 k, .int .i64 s, .int .u64 t, .int .i64 h, .slice H nh ch, .slice A n cap, .int .i64 x, .int .u64 y, .int .u64 (z : Int), .slice P np cp] 31)) (.cells #[.int .i64 0, .int .i64 0, .int .u64 0, .int .i64 0, .slice none 0 0, .slice none 0 0, .int .i64 0, .int .u64 0, .int .u64 0, .slice none 0 0] 31)
  rw [hz] at n0
  have hz2 : ((w.alloc (.cells #[.int .i64 k, .int .i64 s, .int .u64 t, .int .i64 h, .slice H nh ch, .slice A n cap, .int .i64 x, .int .u64 y, .int .u64 (z : Int), .slice P np cp] 31)).alloc (.cells #[.int .i64 0, .int .i64 0, .int .u64 0, .int .i64 0, .slice none 0 0, .slice none 0 0, .int .i64 0, .int .u64 0, .int .u64 0, .slice none 0 0] 31)).heap.size = w.heap.size + 1 + 1 := by simp
  have hb2 := kbelow_box ((w.alloc (.cells #[.int .i64 k, .int .i64 s, .int .u64 t, .int .i64 h, .slice H nh ch, .slice A n cap, .int .i64 x, .int .u64 y, .int .u64 (z : Int), .slice P np cp] 31)).alloc (.cells #[.int .i64 0, .int .i64 0, .int .u64 0, .int .i64 0, .slice none 0 0, .slice none 0 0, .int .i64 0, .int .u64 0, .int .u64 0, .slice none 0 0] 31)) (.cells #[] 51)
  have own : OwnH (((w.alloc (.cells #[.int .i64 k, .int .i64 s, .int .u64 t, .int .i64 h, .slice H nh ch, .slice A n cap, .int .i64 x, .int .u64 y, .int .u64 (z : Int), .slice P np cp] 31)).alloc (.cells #[.int .i64 0, .int .i64 0, .int .u64 0, .int .i64 0, .slice none 0 0, .slice none 0 0, .int .i64 0, .int .u64 0, .int .u64 0, .slice none 0 0] 31)).alloc (.cells #[] 51)) (w.heap.size + 1 + 1) (some ⟨w.heap.size + 1 + 1, 0, none⟩) 0 0 [] := by rw [← hz2]; exact World.ownsRow_made (base := ((w.alloc (.cells #[.int .i64 k, .int .i64 s, .int .u64 t, .int .i64 h, .slice H nh ch, .slice A n cap, .int .i64 x, .int .u64 y, .int .u64 (z : Int), .slice P np cp] 31)).alloc (.cells #[.int .i64 0, .int .i64 0, .int .u64 0, .int .i64 0, .slice none 0 0, .slice none 0 0, .int .i64 0, .int .u64 0, .int .u64 0, .slice none 0 0] 31)).heap.size) (e := 51) (size := 4) ((w.alloc (.cells #[.int .i64 k, .int .i64 s, .int .u64 t, .int .i64 h, .slice H nh ch, .slice A n cap, .int .i64 x, .int .u64 y, .int .u64 (z : Int), .slice P np cp] 31)).alloc (.cells #[.int .i64 0, .int .i64 0, .int .u64 0, .int .i64 0, .slice none 0 0, .slice none 0 0, .int .i64 0, .int .u64 0, .int .u64 0, .slice none 0 0] 31)) #[] 0 (Nat.le_refl _) (by unfold maxLen; omega) rfl
  have BX0 := Lib.hid ((a0.below hb1).below hb2)
  have RS0 := Lib.hid (n0.below hb2)
  have B0 := Lib.hid (ktr (ktr hb0 hb1) hb2)
  have HO0 := Lib.hid own
  have HZ0 := Lib.hid (show w.heap.size + 1 + 1 ≤ (((w.alloc (.cells #[.int .i64 k, .int .i64 s, .int .u64 t, .int .i64 h, .slice H nh ch, .slice A n cap, .int .i64 x, .int .u64 y, .int .u64 (z : Int), .slice P np cp] 31)).alloc (.cells #[.int .i64 0, .int .i64 0, .int .u64 0, .int .i64 0, .slice none 0 0, .slice none 0 0, .int .i64 0, .int .u64 0, .int .u64 0, .slice none 0 0] 31)).alloc (.cells #[] 51)).heap.size by simp)
  have HL := Lib.hid hH
  have HB := Lib.hid hA
  have HP := Lib.hid hP
  have HNH := Lib.hid hnh
  have HNN := Lib.hid hnn
  have HNP := Lib.hid hnp
  have HCH := Lib.hid hch
  have HCA := Lib.hid hca
  have HCP := Lib.hid hcp
  have HL0 := Lib.hid (HL.out.below (B0.out.mono hB))
  clear a0 hb0 hz n0 hb1 hz2 hb2 own hH hA hP hnh hnn hnp hch hca hcp
  go_enter Try.func14, Try.ntmps14
  obtain ⟨u0, u1, u2, u3, u4, u5, u6, u7, u8, u9⟩ := BX0.out.cells
  go_wp2_with (at_builtin; refine wpList_appendH rfl (.tmp 3) (.tmp 5) rfl (w.heap.size + 1 + 1) (some ⟨w.heap.size + 1 + 1, 0, none⟩) 0 0 [] rfl HZ0.out HO0.out H nh ch _ hs rfl HNH.out HCH.out HL0.out (by omega) ?_)
  intro H1 ch1 V1 hO0 ho hn
  have hO := Lib.hid (show OwnH V1 (w.heap.size + 1 + 1) H1 nh ch1 hs by have h := hO0.out; simpa using h)
  clear hO0
  generalize ((w.alloc (.cells #[.int .i64 k, .int .i64 s, .int .u64 t, .int .i64 h, .slice H nh ch, .slice A n cap, .int .i64 x, .int .u64 y, .int .u64 (z : Int), .slice P np cp] 31)).alloc (.cells #[.int .i64 0, .int .i64 0, .int .u64 0, .int .i64 0, .slice none 0 0, .slice none 0 0, .int .i64 0, .int .u64 0, .int .u64 0, .slice none 0 0] 31)).alloc (.cells #[] 51) = V0 at *
  have BX1 := Lib.hid (BX0.out.only ho.out (by simp [blockOf]; try omega))
  have RS1 := Lib.hid (RS0.out.only ho.out (by simp [blockOf]; try omega))
  have B1 := Lib.hid (ho.out.below B0.out (fun j hj => by simp [blockOf] at hj; omega) B0.out.size)
  have HO1 := Lib.hid hO.out
  have HH1lt := Lib.hid (fun j (e : blockOf H1 = some j) => (by rcases hO.out.form with ⟨h1, _⟩ | ⟨g, h1, _, h2⟩; (rw [h1] at e; cases e); (rw [h1] at e; cases e; exact h2) : j < V1.heap.size))
  have HZ1 := Lib.hid (Nat.le_trans HZ0.out ho.out.size)
  clear u0 u1 u2 u3 u4 u5 u6 u7 u8 u9
  clear ho hn hO BX0 RS0 B0 HO0 HZ0 HL0
  obtain ⟨u0, u1, u2, u3, u4, u5, u6, u7, u8, u9⟩ := BX1.out.cells
  obtain ⟨p0, p1, p2, p3, p4, p5, p6, p7, p8, p9⟩ := BX1.out.thaw
  have X1 := BX1.out.s4 (.slice H1 nh ch1)
  have ho1 := only_s4 V1 w.heap.size (.slice H1 nh ch1)
  have R1 := RS1.out.only ho1 (by omega)
  have hz1 := HZ1.out
  have C1 := HO1.out.keep ho1 (fun j e => by have := ownH_base HO1.out j e; omega)
  have b1 := ho1.below B1.out (fun j hj => by omega) B1.out.size
  have hz1' : w.heap.size + 1 + 1 ≤ (V1.setCell ⟨w.heap.size, 4, none⟩ (.slice H1 nh ch1)).heap.size := Nat.le_trans hz1 ho1.size
  have hb2 := kbelow_box (V1.setCell ⟨w.heap.size, 4, none⟩ (.slice H1 nh ch1)) (.cells #[] 5)
  have BX2 := Lib.hid (X1.below hb2)
  have RS2 := Lib.hid (R1.below hb2)
  have HO2 := Lib.hid (C1.on hb2)
  have B2 := Lib.hid (ktr b1 hb2)
  have O2 := Lib.hid (World.ownsRow_made (base := 0) (e := 5) (size := 1) (V1.setCell ⟨w.heap.size, 4, none⟩ (.slice H1 nh ch1)) #[] 0 (Nat.zero_le _) (by unfold maxLen; omega) rfl)
  have hzs : (V1.setCell ⟨w.heap.size, 4, none⟩ (.slice H1 nh ch1)).heap.size = V1.heap.size := by simp
  rw [hzs] at O2 hz1'
  have HS1 := Lib.hid hz1'
  have HB2 := Lib.hid (HB.out.below (B2.out.mono hB))
  have HZ2 := Lib.hid (Nat.le_trans hz1 (Nat.le_trans ho1.size hb2.size))
  have HV1 := Lib.hid (Nat.le_trans ho1.size hb2.size)
  clear X1 ho1 R1 hz1 C1 b1 hz1' hb2 hzs BX1 RS1 B1 HO1 HZ1
  obtain ⟨x0, x1, x2, x3, x4, x5, x6, x7, x8, x9⟩ := BX2.out.cells
  go_wp2_with (at_builtin; refine wpList_append8 rfl (.tmp 8) (.tmp 10) rfl (some ⟨V1.heap.size, 0, none⟩) 0 0 [] rfl O2.out A n cap _ bd rfl HNN.out HCA.out HB2.out (by omega) ?_)
  intro A1 ca1 V2 hO0 ho hn
  have hO := Lib.hid (show Own8 V2 0 A1 n ca1 bd by have h := hO0.out; simpa using h)
  clear hO0
  generalize (V1.setCell ⟨w.heap.size, 4, none⟩ (.slice H1 nh ch1)).alloc (.cells #[] 5) = V1' at *
  have hs1 := HS1.out
  have BX3 := Lib.hid (BX2.out.only ho.out (by simp [blockOf]; try omega))
  have RS3 := Lib.hid (RS2.out.only ho.out (by simp [blockOf]; try omega))
  have B3 := Lib.hid (ho.out.below B2.out (fun j hj => by simp [blockOf] at hj; omega) B2.out.size)
  have HO3 := Lib.hid (HO2.out.keep ho.out (fun j e => by have := HH1lt.out j e; simp [blockOf]; omega))
  have hge := hn.out.ge (B := w.heap.size + 1 + 1) HZ2.out (fun j hj => by simp [blockOf] at hj; omega)
  have HO8 := Lib.hid (hO.out.raise hge)
  have HZ3 := Lib.hid (Nat.le_trans HZ2.out ho.out.size)
  clear u0 u1 u2 u3 u4 u5 u6 u7 u8 u9 p0 p1 p2 p3 p4 p5 p6 p7 p8 p9 x0 x1 x2 x3 x4 x5 x6 x7 x8 x9
  clear ho hn hO hge hs1 BX2 RS2 B2 HO2 HZ2 HB2 O2 HS1 HV1 HH1lt
  obtain ⟨u0, u1, u2, u3, u4, u5, u6, u7, u8, u9⟩ := BX3.out.cells
  obtain ⟨p0, p1, p2, p3, p4, p5, p6, p7, p8, p9⟩ := BX3.out.thaw
  have X1 := BX3.out.s5 (.slice A1 n ca1)
  have ho1 := only_s5 V2 w.heap.size (.slice A1 n ca1)
  have R1 := RS3.out.only ho1 (by omega)
  have hz1 := HZ3.out
  have C1 := HO3.out.keep ho1 (fun j e => by have := ownH_base HO3.out j e; omega)
  have D1 := HO8.out.keep ho1 (fun j e => by have := (HO8.out.lt e).1; omega)
  have b1 := ho1.below B3.out (fun j hj => by omega) B3.out.size
  have LT := Lib.hid (fun j (e : blockOf H1 = some j) => (by rcases HO3.out.form with ⟨h1, _⟩ | ⟨g, h1, _, h2⟩; (rw [h1] at e; cases e); (rw [h1] at e; cases e; exact h2) : j < V2.heap.size))
  have LT8 := Lib.hid (fun j (e : blockOf A1 = some j) => (HO8.out.lt e).2)
  have hb2 := kbelow_box (V2.setCell ⟨w.heap.size, 5, none⟩ (.slice A1 n ca1)) (.cells #[] 24)
  have BX4 := Lib.hid (X1.below hb2)
  have RS4 := Lib.hid (R1.below hb2)
  have HO4 := Lib.hid (C1.on hb2)
  have HO84 := Lib.hid (own8_on D1 hb2)
  have B4 := Lib.hid (ktr b1 hb2)
  have hzs : (V2.setCell ⟨w.heap.size, 5, none⟩ (.slice A1 n ca1)).heap.size = V2.heap.size := by simp
  have O4 : Hid (OwnP ((V2.setCell ⟨w.heap.size, 5, none⟩ (.slice A1 n ca1)).alloc (.cells #[] 24)) (w.heap.size + 1 + 1) (some ⟨V2.heap.size, 0, none⟩) 0 0 []) := Lib.hid (by rw [← hzs]; exact World.ownsRow_made (base := w.heap.size + 1 + 1) (e := 24) (size := 2) (V2.setCell ⟨w.heap.size, 5, none⟩ (.slice A1 n ca1)) #[] 0 (by rw [hzs]; exact hz1) (by unfold maxLen; omega) rfl)
  have HP4 := Lib.hid (HP.out.below (B4.out.mono hB))
  have HZ4 := Lib.hid (Nat.le_trans hz1 (Nat.le_trans ho1.size hb2.size))
  clear X1 ho1 R1 hz1 C1 D1 b1 hb2 hzs BX3 RS3 B3 HO3 HO8
  obtain ⟨x0, x1, x2, x3, x4, x5, x6, x7, x8, x9⟩ := BX4.out.cells
  go_wp2_with (at_builtin; refine wpList_appendP rfl (.tmp 13) (.tmp 16) rfl (w.heap.size + 1 + 1) (some ⟨V2.heap.size, 0, none⟩) 0 0 [] rfl HZ4.out O4.out P np cp _ ps rfl HNP.out HCP.out HP4.out (by omega) ?_)
  intro P1 cp1 V3 hO0 ho hn
  have hO := Lib.hid (show OwnP V3 (w.heap.size + 1 + 1) P1 np cp1 ps by have h := hO0.out; simpa using h)
  clear hO0
  generalize (V2.setCell ⟨w.heap.size, 5, none⟩ (.slice A1 n ca1)).alloc (.cells #[] 24) = V2' at *
  have hz3 := HZ3.out
  have BX5 := Lib.hid (BX4.out.only ho.out (by simp [blockOf]; try omega))
  have RS := Lib.hid (RS4.out.only ho.out (by simp [blockOf]; try omega))
  have B5 := Lib.hid (ho.out.below B4.out (fun j hj => by simp [blockOf] at hj; omega) B4.out.size)
  have HO5 := Lib.hid (HO4.out.keep ho.out (fun j e => by have := LT.out j e; simp [blockOf]; omega))
  have HO85 := Lib.hid (HO84.out.keep ho.out (fun j e => by have := LT8.out j e; simp [blockOf]; omega))
  have HOP := Lib.hid hO.out
  clear u0 u1 u2 u3 u4 u5 u6 u7 u8 u9 p0 p1 p2 p3 p4 p5 p6 p7 p8 p9 x0 x1 x2 x3 x4 x5 x6 x7 x8 x9
  clear ho hn hO hz3 BX4 RS4 B4 HO4 HO84 HZ4 HP4 O4 LT LT8 HZ3
  obtain ⟨u0, u1, u2, u3, u4, u5, u6, u7, u8, u9⟩ := BX5.out.cells
  obtain ⟨p0, p1, p2, p3, p4, p5, p6, p7, p8, p9⟩ := BX5.out.thaw
  obtain ⟨y0, y1, y2, y3, y4, y5, y6, y7, y8, y9⟩ := RS.out.cells
  obtain ⟨g0, g1, g2, g3, g4, g5, g6, g7, g8, g9⟩ := RS.out.thaw
  have X1 := BX5.out.s9 (.slice P1 np cp1)
  have ho1 := only_s9 V3 w.heap.size (.slice P1 np cp1)
  obtain ⟨x0, x1, x2, x3, x4, x5, x6, x7, x8, x9⟩ := X1.cells
  have R2 := RS.out.only ho1 (by omega)
  have R3 := Lib.hid (R2.all (.int .i64 k) (.int .i64 s) (.int .u64 t) (.int .i64 h) (.slice H1 nh ch1) (.slice A1 n ca1) (.int .i64 x) (.int .u64 y) (.int .u64 (z : Int)) (.slice P1 np cp1))
  have hT := only_all (V3.setCell ⟨w.heap.size, 9, none⟩ (.slice P1 np cp1)) (w.heap.size + 1) (.int .i64 k) (.int .i64 s) (.int .u64 t) (.int .i64 h) (.slice H1 nh ch1) (.slice A1 n ca1) (.int .i64 x) (.int .u64 y) (.int .u64 (z : Int)) (.slice P1 np cp1)
  have HOO := Lib.hid ((ho1.weak (S := fun k => k = w.heap.size ∨ k = w.heap.size + 1) (fun _ _ e => .inl e)).trans (hT.weak (S := fun k => k = w.heap.size ∨ k = w.heap.size + 1) (fun _ _ e => .inr e)) (S := fun k => k = w.heap.size ∨ k = w.heap.size + 1) (fun _ _ e => e))
  have P0 := Lib.hid ((HO5.out.keep HOO.out (fun j e => by have := ownH_base HO5.out j e; omega)).lower (base' := w.heap.size) (by omega))
  have P8 := Lib.hid ((HO85.out.keep HOO.out (fun j e => by have := (HO85.out.lt e).1; omega)).lower (base' := w.heap.size) (by omega))
  have PP := Lib.hid ((HOP.out.keep HOO.out (fun j e => by have := ownP_base HOP.out j e; omega)).lower (base' := w.heap.size) (by omega))
  have BB := Lib.hid (HOO.out.below B5.out (fun j hj => by omega) B5.out.size)
  clear X1 ho1 R2 hT HOO BX5 RS B5 HO5 HO85 HOP
  go_wp2
  refine bodyPost_ret (results_cell_row rfl _ _ (w.heap.size + 1) 31 #[.int .i64 k, .int .i64 s, .int .u64 t, .int .i64 h, .slice H1 nh ch1, .slice A1 n ca1, .int .i64 x, .int .u64 y, .int .u64 (z : Int), .slice P1 np cp1] (0, 0) _ rfl R3.out Try.underlying31 rfl (by kernel_rfl)) rfl ?_
  exact ⟨H1, ch1, A1, ca1, P1, cp1, rfl, P0, P8, PP, BB⟩
end Go.Proofs.Ytlcddfkhklmieaa
