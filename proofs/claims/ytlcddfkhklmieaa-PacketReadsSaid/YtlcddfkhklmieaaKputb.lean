/-
  What package packet writes of each kind, behind what a Writer has: putList, putWay, putAdvert, putData, putAck; the table of these. For Writers of at most 2^20 bytes, packets whose numbers and lists can be written.
-/
import Derived.Test.YtlcddfkhklmieaaKputa
namespace Go.Proofs.Ytlcddfkhklmieaa
set_option maxRecDepth 20000
open Go.RowKit

theorem Hds.offs {w : World} {p : Nat} {g g' : Option Nat} {A : Option Addr} {l : List Hd} (h : Hds w w.heap.size A l) (hf : 0 < l.length → ∀ b, blockOf A = some b → Off b p g) (hn : NewOr w g g') : 0 < l.length → ∀ b, blockOf A = some b → Off b p g' := fun hl b e => by
  obtain ⟨b', off, e', hlt, _⟩ := h hl
  rw [e'] at e
  cases e
  exact (hf hl b' (by rw [e']; rfl)).new hlt hn
theorem Bytes.wrote {w w' : World} {p : Nat} {g : Option Nat} {A : Option Addr} {l : List UInt8} (h : Bytes w w.heap.size A l) (hf : 0 < l.length → ∀ b, blockOf A = some b → Off b p g) (ho : Only (fun k => k = p ∨ g = some k) w w') : Bytes w' w'.heap.size A l := fun hl => by
  obtain ⟨b, off, e, hlt, hc⟩ := h hl
  have hb := hf hl b (by rw [e]; rfl)
  exact ⟨b, off, e, Nat.lt_of_lt_of_le hlt ho.size, fun k hk => (hb.cell hlt ho _).trans (hc k hk)⟩
theorem Bytes.offs {w : World} {p : Nat} {g g' : Option Nat} {A : Option Addr} {l : List UInt8} (h : Bytes w w.heap.size A l) (hf : 0 < l.length → ∀ b, blockOf A = some b → Off b p g) (hn : NewOr w g g') : 0 < l.length → ∀ b, blockOf A = some b → Off b p g' := fun hl b e => by
  obtain ⟨b', off, e', hlt, _⟩ := h hl
  rw [e'] at e
  cases e
  exact (hf hl b' (by rw [e']; rfl)).new hlt hn
theorem Bytes.on {w w' : World} {A : Option Addr} {l : List UInt8} (h : Bytes w w.heap.size A l) (hb : Below w.heap.size w w') : Bytes w' w'.heap.size A l := (h.below hb).more hb.size
theorem Lives.on2 {w w' : World} {A : Option Addr} {l : List Life} (h : Lives w w.heap.size A l) (hb : Below w.heap.size w w') : Lives w' w'.heap.size A l := (h.below hb).more hb.size
theorem KBox.wrote {b : Nat} {k s t h x y z : Int} {H A P : Option Addr} {nh ch n cap np cp : Nat} {w w' : World} {p : Nat} {g : Option Nat} (hk : KBox b k s t h x y z H A P nh ch n cap np cp w) (hf : Off b p g) (ho : Only (fun k => k = p ∨ g = some k) w w') : KBox b k s t h x y z H A P nh ch n cap np cp w' := by
  have hb : b < w.heap.size := World.block_lt_of_cell? _ _ hk.1
  obtain ⟨k0, k1, k2, k3, k4, k5, k6, k7, k8, k9⟩ := hk
  exact ⟨(hf.cell hb ho _).trans k0, (hf.cell hb ho _).trans k1, (hf.cell hb ho _).trans k2, (hf.cell hb ho _).trans k3, (hf.cell hb ho _).trans k4, (hf.cell hb ho _).trans k5, (hf.cell hb ho _).trans k6, (hf.cell hb ho _).trans k7, (hf.cell hb ho _).trans k8, (hf.cell hb ho _).trans k9⟩
theorem KBox.lt {b : Nat} {k s t h x y z : Int} {H A P : Option Addr} {nh ch n cap np cp : Nat} {w : World} (hk : KBox b k s t h x y z H A P nh ch n cap np cp w) : b < w.heap.size := World.block_lt_of_cell? _ _ hk.1
theorem lives_one (w : World) (x y : Int) : Lives (w.alloc (.cells #[.int .i64 x, .int .u64 y] 24)) (w.alloc (.cells #[.int .i64 x, .int .u64 y] 24)).heap.size (some ⟨w.heap.size, 0, none⟩) [(x, y)] := fun _ => by
  obtain ⟨j0, j1⟩ := one_new w x y
  refine ⟨_, 0, rfl, by simp, fun k hk => ?_⟩
  obtain rfl : k = 0 := by simp at hk; omega
  exact ⟨j0, j1⟩
theorem wide_one8 (x : UInt8) : wideL x.toNat 1 = [x] := by simp [wideL]
theorem putsL_one (q : Life) : putsL [q] = putL q := by simp [putsL]
set_option maxHeartbeats 1000000 in
theorem putlp_any (p : Nat) (g : Option Nat) (L : List UInt8) (A : Option Addr) (s : List Life) (n c : Nat) (W : World) (h : Wr W p g L) (hl : Lives W W.heap.size A s) (hf : 0 < s.length → ∀ b, blockOf A = some b → Off b p g) (hn : s.length = n) (hu : Unsigned s) (hb : n < 256) (hr : L.length ≤ 2000000) :
    Calls Try.prog 75 #[.pointer (some ⟨p, 0, none⟩), .slice A n c, .func (.func 73) #[] #[]] W (WroteE W p g L (byteI (n : Nat) :: (putsL s))) := by
  have HL := Lib.hid hl
  have HN := Lib.hid hn
  have HU := Lib.hid hu
  have HW := Lib.hid h
  have HF := Lib.hid hf
  have ew := byte_wrap (n : Nat) (by omega) (by omega)
  have HX := Lib.hid (UInt8.toNat_lt (byteI (n : Nat)))
  generalize byteI (n : Nat) = xb at *
  have HB := Lib.hid hb
  clear hl hn hu h hf hb
  go_enter Try.func75, Try.ntmps75
  go_wp2_with fail
  refine (wu8_any p g L xb.toNat W HX.out HW.out (by omega)).mono ?_
  rintro e W1 ⟨rfl, g1, h1, h2, h3⟩
  rw [wide_one8] at h1
  have HL1 := Lib.hid (HL.out.wrote HF.out h3)
  have HF1 := Lib.hid (HL.out.offs HF.out h2)
  have H1 := Lib.hid h1
  have H23 := Lib.hid (And.intro h2 h3)
  clear h1 h2 h3
  go_wp2_with fail
  refine (pputw_any p g1 (L ++ [xb]) A s n c W1 H1.out HL1.out HF1.out HN.out HU.out (by have := HB.out; omega) (by rw [List.length_append, List.length_singleton]; omega)).mono ?_
  rintro e W2 ⟨rfl, h4⟩
  have H4 := Lib.hid (Wrote.trans H23.out.1 H23.out.2 h4)
  clear h4
  go_wp2
  go_end0
  exact ⟨rfl, H4.out⟩
set_option maxHeartbeats 1000000 in
theorem putlh_any (p : Nat) (g : Option Nat) (L : List UInt8) (A : Option Addr) (s : List Hd) (n c : Nat) (W : World) (h : Wr W p g L) (hl : Hds W W.heap.size A s) (hf : 0 < s.length → ∀ b, blockOf A = some b → Off b p g) (hn : s.length = n) (hu : ∀ h ∈ s, okH h) (hb : n < 256) (hr : L.length ≤ 2000000) :
    Calls Try.prog 77 #[.pointer (some ⟨p, 0, none⟩), .slice A n c, .func (.func 78) #[] #[]] W (WroteE W p g L (byteI (n : Nat) :: (headsL false s))) := by
  have HL := Lib.hid hl
  have HN := Lib.hid hn
  have HU := Lib.hid hu
  have HW := Lib.hid h
  have HF := Lib.hid hf
  have ew := byte_wrap (n : Nat) (by omega) (by omega)
  have HX := Lib.hid (UInt8.toNat_lt (byteI (n : Nat)))
  generalize byteI (n : Nat) = xb at *
  have HB := Lib.hid hb
  clear hl hn hu h hf hb
  go_enter Try.func77, Try.ntmps77
  go_wp2_with fail
  refine (wu8_any p g L xb.toNat W HX.out HW.out (by omega)).mono ?_
  rintro e W1 ⟨rfl, g1, h1, h2, h3⟩
  rw [wide_one8] at h1
  have HL1 := Lib.hid (HL.out.wrote HF.out h3)
  have HF1 := Lib.hid (HL.out.offs HF.out h2)
  have H1 := Lib.hid h1
  have H23 := Lib.hid (And.intro h2 h3)
  clear h1 h2 h3
  go_wp2_with fail
  refine (puthd_any p g1 (L ++ [xb]) A s n c W1 H1.out HL1.out HF1.out HN.out HU.out (by have := HB.out; omega) (by rw [List.length_append, List.length_singleton]; omega)).mono ?_
  rintro e W2 ⟨rfl, h4⟩
  have H4 := Lib.hid (Wrote.trans H23.out.1 H23.out.2 h4)
  clear h4
  go_wp2
  go_end0
  exact ⟨rfl, H4.out⟩
set_option maxHeartbeats 1000000 in
theorem putla_any (p : Nat) (g : Option Nat) (L : List UInt8) (A : Option Addr) (s : List Hd) (n c : Nat) (W : World) (h : Wr W p g L) (hl : Hds W W.heap.size A s) (hf : 0 < s.length → ∀ b, blockOf A = some b → Off b p g) (hn : s.length = n) (hu : ∀ h ∈ s, okH h) (hb : n < 256) (hr : L.length ≤ 1000000) :
    Calls Try.prog 77 #[.pointer (some ⟨p, 0, none⟩), .slice A n c, .func (.func 80) #[] #[]] W (WroteE W p g L (byteI (n : Nat) :: (headsL true s))) := by
  have HL := Lib.hid hl
  have HN := Lib.hid hn
  have HU := Lib.hid hu
  have HW := Lib.hid h
  have HF := Lib.hid hf
  have ew := byte_wrap (n : Nat) (by omega) (by omega)
  have HX := Lib.hid (UInt8.toNat_lt (byteI (n : Nat)))
  generalize byteI (n : Nat) = xb at *
  have HB := Lib.hid hb
  clear hl hn hu h hf hb
  go_enter Try.func77, Try.ntmps77
  go_wp2_with fail
  refine (wu8_any p g L xb.toNat W HX.out HW.out (by omega)).mono ?_
  rintro e W1 ⟨rfl, g1, h1, h2, h3⟩
  rw [wide_one8] at h1
  have HL1 := Lib.hid (HL.out.wrote HF.out h3)
  have HF1 := Lib.hid (HL.out.offs HF.out h2)
  have H1 := Lib.hid h1
  have H23 := Lib.hid (And.intro h2 h3)
  clear h1 h2 h3
  go_wp2_with fail
  refine (putack_any p g1 (L ++ [xb]) A s n c W1 H1.out HL1.out HF1.out HN.out HU.out (by have := HB.out; omega) (by rw [List.length_append, List.length_singleton]; omega)).mono ?_
  rintro e W2 ⟨rfl, h4⟩
  have H4 := Lib.hid (Wrote.trans H23.out.1 H23.out.2 h4)
  clear h4
  go_wp2
  go_end0
  exact ⟨rfl, H4.out⟩
set_option maxHeartbeats 2000000 in
theorem putway_any (p : Nat) (g : Option Nat) (L : List UInt8) (k s t h x y : Int) (z : Nat) (H A P : Option Addr) (nh ch n cap np cp : Nat) (w : World) (hw : Wr w p g L) (hu : 0 ≤ t ∧ t < 18446744073709551616) (hh0 : 0 ≤ h) (hh8 : h < 256) (hr : L.length ≤ 2000000) :
    Calls Try.prog 76 #[.agg #[.int .i64 k, .int .i64 s, .int .u64 t, .int .i64 h, .slice H nh ch, .slice A n cap, .int .i64 x, .int .u64 y, .int .u64 (z : Int), .slice P np cp], .pointer (some ⟨p, 0, none⟩)] w (WroteE w p g L (putL (s, t) ++ [byteI h])) := by
  have ew := byte_wrap h hh0 hh8
  have HX := Lib.hid (UInt8.toNat_lt (byteI h))
  generalize byteI h = xb at *
  have HUn := Lib.hid (show Unsigned [((s, t) : Life)] from fun q hq => by rw [List.mem_singleton.1 hq]; exact hu)
  have HS := Lib.hid (putL_le (s, t) hu.2)
  clear hh0 hh8
  have K1 := Lib.hid (kbox_new (k := k) (s := s) (t := t) (h := h) (x := x) (y := y) (z := (z : Int)) (H := H) (A := A) (P := P) (nh := nh) (ch := ch) (n := n) (cap := cap) (np := np) (cp := cp) (w := w) 58)
  have B1 := Lib.hid (wbelow_box w (.cells #[.int .i64 k, .int .i64 s, .int .u64 t, .int .i64 h, .slice H nh ch, .slice A n cap, .int .i64 x, .int .u64 y, .int .u64 (z : Int), .slice P np cp] 58))
  have HW1 := Lib.hid (hw.on B1.out)
  have HO1 := Lib.hid (hw.off (Nat.le_refl w.heap.size))
  have HZ := Lib.hid (show (w.alloc (.cells #[.int .i64 k, .int .i64 s, .int .u64 t, .int .i64 h, .slice H nh ch, .slice A n cap, .int .i64 x, .int .u64 y, .int .u64 (z : Int), .slice P np cp] 58)).heap.size = w.heap.size + 1 by simp)
  clear hw
  go_enter Try.func76, Try.ntmps76
  obtain ⟨k0, k1, k2, k3, k4, k5, k6, k7, k8, k9⟩ := K1.out
  go_wp2_with fail
  generalize w.alloc (.cells #[.int .i64 k, .int .i64 s, .int .u64 t, .int .i64 h, .slice H nh ch, .slice A n cap, .int .i64 x, .int .u64 y, .int .u64 (z : Int), .slice P np cp] 58) = W1 at *
  clear k0 k1 k2 k3 k4 k5 k6 k7 k8 k9
  have HLv := lives_one W1 s t
  have B2 := Lib.hid (wbelow_box W1 (.cells #[.int .i64 s, .int .u64 t] 24))
  have HW2 := Lib.hid (HW1.out.on B2.out)
  have HO2 := HW1.out.off (Nat.le_refl W1.heap.size)
  have K2 := Lib.hid (K1.out.below B2.out)
  rw [HZ.out] at HLv HO2
  have HLV := Lib.hid HLv
  have HOV := Lib.hid HO2
  clear HLv HO2
  generalize W1.alloc (.cells #[.int .i64 s, .int .u64 t] 24) = W2 at *
  refine (pputw_any p g L (some ⟨w.heap.size + 1, 0, none⟩) [(s, t)] 1 1 W2 HW2.out HLV.out ?_ rfl HUn.out (by omega) (by omega)).mono ?_
  · intro _ b e
    obtain rfl : w.heap.size + 1 = b := by simpa [blockOf] using e
    exact HOV.out
  rintro e W3 ⟨rfl, g3, h1, h2, h3⟩
  rw [putsL_one] at h1
  have K3 := Lib.hid (K2.out.wrote HO1.out h3)
  have HO3 := Lib.hid (HO1.out.new K2.out.lt h2)
  have H1 := Lib.hid h1
  have B12 := Lib.hid (B1.out.trans (B2.out.mono B1.out.size))
  have H23 := Lib.hid (And.intro (h2.older B12.out.size) ((Only.ofBelow (S := fun k => k = p ∨ g = some k) B12.out).trans h3 fun k _ e => e))
  clear h1 h2 h3 K1 K2 B1 B2 HW1 HW2 HO1
  obtain ⟨k0, k1, k2, k3, k4, k5, k6, k7, k8, k9⟩ := K3.out
  go_wp2_with fail
  refine (wu8_any p g3 _ xb.toNat W3 HX.out H1.out (by rw [List.length_append]; have := HS.out; omega)).mono ?_
  rintro e W4 ⟨rfl, h4⟩
  rw [wide_one8] at h4
  have H4 := Lib.hid (Wrote.trans H23.out.1 H23.out.2 h4)
  clear h4
  go_wp2
  go_end0
  exact ⟨rfl, H4.out⟩
set_option maxHeartbeats 2000000 in
theorem putadv_any (p : Nat) (g : Option Nat) (L : List UInt8) (k s t h x y : Int) (z : Nat) (H A P : Option Addr) (nh ch n cap np cp : Nat) (ps : List Life) (w : World) (hw : Wr w p g L) (hu : 0 ≤ y ∧ y < 18446744073709551616) (hz : z < 18446744073709551616) (hl : Lives w w.heap.size P ps) (hf : 0 < ps.length → ∀ b, blockOf P = some b → Off b p g) (hn : ps.length = np) (hps : Unsigned ps) (hb : np < 256) (hr : L.length ≤ 1000000) :
    Calls Try.prog 56 #[.agg #[.int .i64 k, .int .i64 s, .int .u64 t, .int .i64 h, .slice H nh ch, .slice A n cap, .int .i64 x, .int .u64 y, .int .u64 (z : Int), .slice P np cp], .pointer (some ⟨p, 0, none⟩)] w (WroteE w p g L (putL (x, y) ++ (shortL z ++ (byteI (np : Nat) :: putsL ps)))) := by
  have HUn := Lib.hid (show Unsigned [((x, y) : Life)] from fun q hq => by rw [List.mem_singleton.1 hq]; exact hu)
  have HS := Lib.hid (putL_le (x, y) hu.2)
  have HS2 := Lib.hid (shortL_ten hz)
  have HL := Lib.hid hl
  have HF := Lib.hid hf
  have HN := Lib.hid hn
  have HPS := Lib.hid hps
  clear hl hf hn hps
  have K1 := Lib.hid (kbox_new (k := k) (s := s) (t := t) (h := h) (x := x) (y := y) (z := (z : Int)) (H := H) (A := A) (P := P) (nh := nh) (ch := ch) (n := n) (cap := cap) (np := np) (cp := cp) (w := w) 58)
  have B1 := Lib.hid (wbelow_box w (.cells #[.int .i64 k, .int .i64 s, .int .u64 t, .int .i64 h, .slice H nh ch, .slice A n cap, .int .i64 x, .int .u64 y, .int .u64 (z : Int), .slice P np cp] 58))
  have HW1 := Lib.hid (hw.on B1.out)
  have HO1 := Lib.hid (hw.off (Nat.le_refl w.heap.size))
  have HZ := Lib.hid (show (w.alloc (.cells #[.int .i64 k, .int .i64 s, .int .u64 t, .int .i64 h, .slice H nh ch, .slice A n cap, .int .i64 x, .int .u64 y, .int .u64 (z : Int), .slice P np cp] 58)).heap.size = w.heap.size + 1 by simp)
  clear hw
  go_enter Try.func56, Try.ntmps56
  obtain ⟨k0, k1, k2, k3, k4, k5, k6, k7, k8, k9⟩ := K1.out
  go_wp2_with fail
  generalize w.alloc (.cells #[.int .i64 k, .int .i64 s, .int .u64 t, .int .i64 h, .slice H nh ch, .slice A n cap, .int .i64 x, .int .u64 y, .int .u64 (z : Int), .slice P np cp] 58) = W1 at *
  clear k0 k1 k2 k3 k4 k5 k6 k7 k8 k9
  have HLv := lives_one W1 x y
  have B2 := Lib.hid (wbelow_box W1 (.cells #[.int .i64 x, .int .u64 y] 24))
  have HW2 := Lib.hid (HW1.out.on B2.out)
  have HO2 := HW1.out.off (Nat.le_refl W1.heap.size)
  have K2 := Lib.hid (K1.out.below B2.out)
  rw [HZ.out] at HLv HO2
  have HLV := Lib.hid HLv
  have HOV := Lib.hid HO2
  clear HLv HO2
  generalize W1.alloc (.cells #[.int .i64 x, .int .u64 y] 24) = W2 at *
  refine (pputw_any p g L (some ⟨w.heap.size + 1, 0, none⟩) [(x, y)] 1 1 W2 HW2.out HLV.out ?_ rfl HUn.out (by omega) (by omega)).mono ?_
  · intro _ b e
    obtain rfl : w.heap.size + 1 = b := by simpa [blockOf] using e
    exact HOV.out
  rintro e W3 ⟨rfl, g3, h1, h2, h3⟩
  rw [putsL_one] at h1
  have K3 := Lib.hid (K2.out.wrote HO1.out h3)
  have HO3 := Lib.hid (HO1.out.new K2.out.lt h2)
  have H1 := Lib.hid h1
  have B12 := Lib.hid (B1.out.trans (B2.out.mono B1.out.size))
  have H23 := Lib.hid (And.intro (h2.older B12.out.size) ((Only.ofBelow (S := fun k => k = p ∨ g = some k) B12.out).trans h3 fun k _ e => e))
  have HL2 := Lib.hid (HL.out.on2 B12.out)
  have HL3 := Lib.hid (HL2.out.wrote HF.out h3)
  have HF3 := Lib.hid (HL2.out.offs HF.out h2)
  clear h1 h2 h3 K1 K2 B1 B2 HW1 HW2 HO1 HL HL2
  obtain ⟨k0, k1, k2, k3, k4, k5, k6, k7, k8, k9⟩ := K3.out
  go_wp2_with fail
  refine (wuint_any p g3 _ z W3 H1.out hz (by rw [List.length_append]; have := HS.out; omega)).mono ?_
  rintro e W4 ⟨rfl, g4, h1, h2, h3⟩
  have K4 := Lib.hid (K3.out.wrote HO3.out h3)
  have H1' := Lib.hid h1
  have H23' := Lib.hid (And.intro h2 h3)
  have HL4 := Lib.hid (HL3.out.wrote HF3.out h3)
  have HF4 := Lib.hid (HL3.out.offs HF3.out h2)
  clear h1 h2 h3 k0 k1 k2 k3 k4 k5 k6 k7 k8 k9 K3 HL3
  obtain ⟨k0, k1, k2, k3, k4, k5, k6, k7, k8, k9⟩ := K4.out
  go_wp2_with fail
  refine (putlp_any p g4 _ P ps np cp W4 H1'.out HL4.out HF4.out HN.out HPS.out hb (by rw [List.length_append, List.length_append]; have := HS.out; have := HS2.out; omega)).mono ?_
  rintro e W5 ⟨rfl, h4⟩
  have H5 := Lib.hid (Wrote.trans H23.out.1 H23.out.2 (Wrote.trans H23'.out.1 H23'.out.2 h4))
  clear h4
  go_wp2
  go_end0
  exact ⟨rfl, H5.out⟩
set_option maxHeartbeats 2000000 in
theorem putdata_any (p : Nat) (g : Option Nat) (L : List UInt8) (k s t h x y : Int) (z : Nat) (H A P : Option Addr) (nh ch n cap np cp : Nat) (hs : List Hd) (bd : List UInt8) (w : World) (hw : Wr w p g L) (hu : 0 ≤ t ∧ t < 18446744073709551616) (hh0 : 0 ≤ h) (hh8 : h < 256) (hl : Hds w w.heap.size H hs) (hf : 0 < hs.length → ∀ b, blockOf H = some b → Off b p g) (hn : hs.length = nh) (hok : ∀ h ∈ hs, okH h) (hb : nh < 256) (hbd : Bytes w w.heap.size A bd) (hbf : 0 < bd.length → ∀ b, blockOf A = some b → Off b p g) (hbn : bd.length = n) (hbm : n ≤ 1000) (hr : L.length ≤ 900000) :
    Calls Try.prog 57 #[.agg #[.int .i64 k, .int .i64 s, .int .u64 t, .int .i64 h, .slice H nh ch, .slice A n cap, .int .i64 x, .int .u64 y, .int .u64 (z : Int), .slice P np cp], .pointer (some ⟨p, 0, none⟩)] w (WroteE w p g L ((putL (s, t) ++ [byteI h]) ++ ((byteI (nh : Nat) :: headsL false hs) ++ (shortL n ++ bd)))) := by
  have HS := Lib.hid (show (putL (s, t) ++ [byteI h]).length ≤ 12 by have := putL_le (s, t) hu.2; rw [List.length_append, List.length_singleton]; omega)
  have HL := Lib.hid hl
  have HF := Lib.hid hf
  have HN := Lib.hid hn
  have HOK := Lib.hid hok
  have HS2 := Lib.hid (show (headsL false hs).length ≤ 31 * nh from by
    have := take_ok_le (k3 := false) (k := nh) hn (Nat.le_refl _) hok
    rwa [← hn, List.take_length, hn] at this)
  have HBD := Lib.hid hbd
  have HBF := Lib.hid hbf
  have HBN := Lib.hid hbn
  clear hl hf hn hok hbd hbf hbn
  have K1 := Lib.hid (kbox_new (k := k) (s := s) (t := t) (h := h) (x := x) (y := y) (z := (z : Int)) (H := H) (A := A) (P := P) (nh := nh) (ch := ch) (n := n) (cap := cap) (np := np) (cp := cp) (w := w) 58)
  have B1 := Lib.hid (wbelow_box w (.cells #[.int .i64 k, .int .i64 s, .int .u64 t, .int .i64 h, .slice H nh ch, .slice A n cap, .int .i64 x, .int .u64 y, .int .u64 (z : Int), .slice P np cp] 58))
  have HW1 := Lib.hid (hw.on B1.out)
  have HO1 := Lib.hid (hw.off (Nat.le_refl w.heap.size))
  have HZ := Lib.hid (show (w.alloc (.cells #[.int .i64 k, .int .i64 s, .int .u64 t, .int .i64 h, .slice H nh ch, .slice A n cap, .int .i64 x, .int .u64 y, .int .u64 (z : Int), .slice P np cp] 58)).heap.size = w.heap.size + 1 by simp)
  clear hw
  go_enter Try.func57, Try.ntmps57
  obtain ⟨k0, k1, k2, k3, k4, k5, k6, k7, k8, k9⟩ := K1.out
  go_wp2_with fail
  generalize w.alloc (.cells #[.int .i64 k, .int .i64 s, .int .u64 t, .int .i64 h, .slice H nh ch, .slice A n cap, .int .i64 x, .int .u64 y, .int .u64 (z : Int), .slice P np cp] 58) = W1 at *
  clear k0 k1 k2 k3 k4 k5 k6 k7 k8 k9
  refine (putway_any p g L k s t h x y z H A P nh ch n cap np cp W1 HW1.out hu hh0 hh8 (by omega)).mono ?_
  rintro e W3 ⟨rfl, g3, h1, h2, h3⟩
  have K3 := Lib.hid (K1.out.wrote HO1.out h3)
  have HO3 := Lib.hid (HO1.out.new K1.out.lt h2)
  have H1 := Lib.hid h1
  have H23 := Lib.hid (And.intro (h2.older B1.out.size) ((Only.ofBelow (S := fun k => k = p ∨ g = some k) B1.out).trans h3 fun k _ e => e))
  have HL2 := Lib.hid (HL.out.on B1.out)
  have HL3 := Lib.hid (HL2.out.wrote HF.out h3)
  have HF3 := Lib.hid (HL2.out.offs HF.out h2)
  have HB2 := Lib.hid (HBD.out.on B1.out)
  have HB3 := Lib.hid (HB2.out.wrote HBF.out h3)
  have HBF3 := Lib.hid (HB2.out.offs HBF.out h2)
  clear h1 h2 h3 K1 HW1 HO1 HL HL2
  obtain ⟨k0, k1, k2, k3, k4, k5, k6, k7, k8, k9⟩ := K3.out
  go_wp2_with fail
  refine (putlh_any p g3 _ H hs nh ch W3 H1.out HL3.out HF3.out HN.out HOK.out hb (by rw [List.length_append]; have := HS.out; omega)).mono ?_
  rintro e W4 ⟨rfl, g4, h1, h2, h3⟩
  have K4 := Lib.hid (K3.out.wrote HO3.out h3)
  have H1' := Lib.hid h1
  have H23' := Lib.hid (And.intro h2 h3)
  have HB4 := Lib.hid (HB3.out.wrote HBF3.out h3)
  have cs := conv_str cap HB4.out HBN.out
  have hsz : (⟨bd.toArray⟩ : ByteArray).size = n := by rw [← HBN.out]; simp [ByteArray.size]
  have HST := Lib.hid (show strL ⟨bd.toArray⟩ = bd from by simp [strL])
  generalize (⟨bd.toArray⟩ : ByteArray) = sx at cs hsz HST
  have HSZ := Lib.hid hsz
  clear h1 h2 h3 k0 k1 k2 k3 k4 k5 k6 k7 k8 k9 K3 HL3 hsz
  obtain ⟨k0, k1, k2, k3, k4, k5, k6, k7, k8, k9⟩ := K4.out
  go_wp2_with fail
  refine (wtext_any p g4 _ sx W4 H1'.out (by rw [HSZ.out]; omega) (by rw [HSZ.out, List.length_append, List.length_append, List.length_cons]; have := HS.out; have := HS2.out; omega)).mono ?_
  rintro e W5 ⟨rfl, h4⟩
  rw [HST.out, HSZ.out] at h4
  have H5 := Lib.hid (Wrote.trans H23.out.1 H23.out.2 (Wrote.trans H23'.out.1 H23'.out.2 h4))
  clear h4
  go_wp2
  go_end0
  exact ⟨rfl, H5.out⟩
set_option maxHeartbeats 2000000 in
theorem putackp_any (p : Nat) (g : Option Nat) (L : List UInt8) (k s t h x y : Int) (z : Nat) (H A P : Option Addr) (nh ch n cap np cp : Nat) (hs : List Hd) (w : World) (hw : Wr w p g L) (hu : 0 ≤ t ∧ t < 18446744073709551616) (hh0 : 0 ≤ h) (hh8 : h < 256) (hl : Hds w w.heap.size H hs) (hf : 0 < hs.length → ∀ b, blockOf H = some b → Off b p g) (hn : hs.length = nh) (hok : ∀ h ∈ hs, okH h) (hb : nh < 256) (hr : L.length ≤ 900000) :
    Calls Try.prog 58 #[.agg #[.int .i64 k, .int .i64 s, .int .u64 t, .int .i64 h, .slice H nh ch, .slice A n cap, .int .i64 x, .int .u64 y, .int .u64 (z : Int), .slice P np cp], .pointer (some ⟨p, 0, none⟩)] w (WroteE w p g L ((putL (s, t) ++ [byteI h]) ++ ((byteI (nh : Nat) :: headsL true hs)))) := by
  have HS := Lib.hid (show (putL (s, t) ++ [byteI h]).length ≤ 12 by have := putL_le (s, t) hu.2; rw [List.length_append, List.length_singleton]; omega)
  have HL := Lib.hid hl
  have HF := Lib.hid hf
  have HN := Lib.hid hn
  have HOK := Lib.hid hok
  have HS2 := Lib.hid (show (headsL true hs).length ≤ 31 * nh from by
    have := take_ok_le (k3 := true) (k := nh) hn (Nat.le_refl _) hok
    rwa [← hn, List.take_length, hn] at this)
  clear hl hf hn hok
  have K1 := Lib.hid (kbox_new (k := k) (s := s) (t := t) (h := h) (x := x) (y := y) (z := (z : Int)) (H := H) (A := A) (P := P) (nh := nh) (ch := ch) (n := n) (cap := cap) (np := np) (cp := cp) (w := w) 58)
  have B1 := Lib.hid (wbelow_box w (.cells #[.int .i64 k, .int .i64 s, .int .u64 t, .int .i64 h, .slice H nh ch, .slice A n cap, .int .i64 x, .int .u64 y, .int .u64 (z : Int), .slice P np cp] 58))
  have HW1 := Lib.hid (hw.on B1.out)
  have HO1 := Lib.hid (hw.off (Nat.le_refl w.heap.size))
  have HZ := Lib.hid (show (w.alloc (.cells #[.int .i64 k, .int .i64 s, .int .u64 t, .int .i64 h, .slice H nh ch, .slice A n cap, .int .i64 x, .int .u64 y, .int .u64 (z : Int), .slice P np cp] 58)).heap.size = w.heap.size + 1 by simp)
  clear hw
  go_enter Try.func58, Try.ntmps58
  obtain ⟨k0, k1, k2, k3, k4, k5, k6, k7, k8, k9⟩ := K1.out
  go_wp2_with fail
  generalize w.alloc (.cells #[.int .i64 k, .int .i64 s, .int .u64 t, .int .i64 h, .slice H nh ch, .slice A n cap, .int .i64 x, .int .u64 y, .int .u64 (z : Int), .slice P np cp] 58) = W1 at *
  clear k0 k1 k2 k3 k4 k5 k6 k7 k8 k9
  refine (putway_any p g L k s t h x y z H A P nh ch n cap np cp W1 HW1.out hu hh0 hh8 (by omega)).mono ?_
  rintro e W3 ⟨rfl, g3, h1, h2, h3⟩
  have K3 := Lib.hid (K1.out.wrote HO1.out h3)
  have HO3 := Lib.hid (HO1.out.new K1.out.lt h2)
  have H1 := Lib.hid h1
  have H23 := Lib.hid (And.intro (h2.older B1.out.size) ((Only.ofBelow (S := fun k => k = p ∨ g = some k) B1.out).trans h3 fun k _ e => e))
  have HL2 := Lib.hid (HL.out.on B1.out)
  have HL3 := Lib.hid (HL2.out.wrote HF.out h3)
  have HF3 := Lib.hid (HL2.out.offs HF.out h2)
  clear h1 h2 h3 K1 HW1 HO1 HL HL2
  obtain ⟨k0, k1, k2, k3, k4, k5, k6, k7, k8, k9⟩ := K3.out
  go_wp2_with fail
  refine (putla_any p g3 _ H hs nh ch W3 H1.out HL3.out HF3.out HN.out HOK.out hb (by rw [List.length_append]; have := HS.out; omega)).mono ?_
  rintro e W5 ⟨rfl, h4⟩
  have H5 := Lib.hid (Wrote.trans H23.out.1 H23.out.2 h4)
  clear h4
  go_wp2
  go_end0
  exact ⟨rfl, H5.out⟩
end Go.Proofs.Ytlcddfkhklmieaa
