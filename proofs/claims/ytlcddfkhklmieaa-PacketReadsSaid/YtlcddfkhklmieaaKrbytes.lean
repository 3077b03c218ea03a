/-
  A packet's bytes, by the document's answer. For packets that may be.
-/
import Derived.Test.YtlcddfkhklmieaaKputb
import Derived.Test.YtlcddfkhklmieaaInbytes
import Derived.Test.YtlcddfkhklmieaaReft
namespace Go.Proofs.Ytlcddfkhklmieaa
set_option maxRecDepth 20000
open Go.RowKit

theorem ne_new {w2 : World} {g g' : Option Nat} {hb : Nat} (hn : NewOr w2 g g') (h : g ≠ some hb) (hlt : hb < w2.heap.size) : g' ≠ some hb := by
  rcases hn with h1 | ⟨k, h1, h2⟩
  · rw [h1]; exact h
  · rw [h1]; intro e; cases e; omega
theorem HBox.only {b : Nat} {d c q i : Int} {w w' : World} {S : Nat → Prop} (h : HBox b d c q i w) (ho : Only S w w') (hn : ¬ S b) : HBox b d c q i w' := by
  have hb : b < w.heap.size := World.block_lt_of_cell? _ _ h.1
  exact ⟨(ho.cell (p := ⟨b, 0, none⟩) hb hn).trans h.1, (ho.cell (p := ⟨b, 1, none⟩) hb hn).trans h.2.1, (ho.cell (p := ⟨b, 2, none⟩) hb hn).trans h.2.2.1, (ho.cell (p := ⟨b, 3, none⟩) hb hn).trans h.2.2.2⟩
set_option maxHeartbeats 4000000 in
theorem rkb_adv (s t h x y : Int) (z : Nat) (H A P : Option Addr) (nh ch n cap np cp : Nat) (ps : List Life) (res : List UInt8) (w : World) (hu1 : Unsigned [((x, y) : Life)]) (hs1 : ∀ q ∈ [((x, y) : Life)], 0 ≤ q.1 ∧ q.1 < 256) (hz : z < 18446744073709551616) (hl : Lives w w.heap.size P ps) (hn : ps.length = np) (hnb : np < 256) (hup : Unsigned ps) (hsp : ∀ q ∈ ps, 0 ≤ q.1 ∧ q.1 < 256)
    (hres : res = [1] ++ putsL [(x, y)] ++ shortL z ++ [byteI (np : Nat)] ++ putsL ps) :
    Calls Try.prog 16 #[.agg #[.int .i64 1, .int .i64 s, .int .u64 t, .int .i64 h, .slice H nh ch, .slice A n cap, .int .i64 x, .int .u64 y, .int .u64 (z : Int), .slice P np cp]] w (BytesE w res) := by
  have K1 := Lib.hid (kbox_new (k := 1) (s := s) (t := t) (h := h) (x := x) (y := y) (z := (z : Int)) (H := H) (A := A) (P := P) (nh := nh) (ch := ch) (n := n) (cap := cap) (np := np) (cp := cp) (w := w) 31)
  have B1 := Lib.hid (wbelow_box w (.cells #[.int .i64 1, .int .i64 s, .int .u64 t, .int .i64 h, .slice H nh ch, .slice A n cap, .int .i64 x, .int .u64 y, .int .u64 (z : Int), .slice P np cp] 31))
  have HC1 := Lib.hid (fun Ax W (hl : Lives W W.heap.size Ax [(x, y)]) => rsbytes_any Ax [(x, y)] 1 1 W.heap.size W hl (Nat.le_refl _) rfl (by omega) hu1 hs1)
  have HC2 := Lib.hid (fun W => refShort_any z W hz)
  have HC3 := Lib.hid (fun W (hb : Below w.heap.size w W) => rsbytes_any P ps np cp w.heap.size W (hl.below hb) hb.size hn (by omega) hup hsp)
  have hb1 : (putsL [(x, y)]).length ≤ 11 := by have := putsL_le [(x, y)] hu1; simpa using this
  have hb2 := shortL_ten hz
  have hb3 : (putsL ps).length ≤ 2805 := by have := putsL_le ps hup; omega
  have HE := Lib.hid (show res = [1] ++ putsL [(x, y)] ++ shortL z ++ [byteI (np : Nat)] ++ putsL ps from hres)
  have ew := byte_wrap (np : Nat) (by omega) (by omega)
  have HNB := Lib.hid hnb
  generalize byteI (np : Nat) = xb at *
  generalize putsL [(x, y)] = x1 at *
  generalize shortL z = x2 at *
  generalize putsL ps = x3 at *
  clear hl hn hup hsp hu1 hs1 hz hres hnb
  go_enter Try.func16, Try.ntmps16
  obtain ⟨k0, k1, k2, k3, k4, k5, k6, k7, k8, k9⟩ := K1.out
  generalize hW : w.alloc (.cells #[.int .i64 1, .int .i64 s, .int .u64 t, .int .i64 h, .slice H nh ch, .slice A n cap, .int .i64 x, .int .u64 y, .int .u64 (z : Int), .slice P np cp] 31) = W1 at *
  have hz0 : Own8 (W1.alloc (.cells #[.int .u8 1] 5)) W1.heap.size (some ⟨W1.heap.size, 0, none⟩) 1 1 [1] := ⟨by simp, .inr ⟨W1.heap.size, 1, _, rfl, Nat.le_refl _, heap_alloc_new W1 _, by omega, by unfold maxLen; omega, rfl, rfl⟩⟩
  have HU0 : Hid (UpW W1 (some ⟨W1.heap.size, 0, none⟩) 1 1 [1] (W1.alloc (.cells #[.int .u8 1] 5))) := Lib.hid ⟨hz0, wbelow_box _ _⟩
  clear hz0
  have HZ := Lib.hid (show (W1.alloc (.cells #[.int .u8 1] 5)).heap.size = W1.heap.size + 1 by simp)
  obtain ⟨j0, j1, j2, j3, j4, j5, j6, j7, j8, j9⟩ := K1.out.below (wbelow_box W1 (.cells #[.int .u8 1] 5))
  go_wp2_with fail
  generalize W1.alloc (.cells #[.int .u8 1] 5) = w0 at *
  generalize hA0 : some (⟨W1.heap.size, 0, none⟩ : Addr) = A0 at *
  clear hA0 k0 k1 k2 k3 k4 k5 k6 k7 k8 k9 j0 j1 j2 j3 j4 j5 j6 j7 j8 j9
  have HLv := Lib.hid (lives_one w0 x y)
  have HB6 := Lib.hid (wbelow_box w0 (.cells #[.int .i64 x, .int .u64 y] 24))
  generalize w0.alloc (.cells #[.int .i64 x, .int .u64 y] 24) = w7 at *
  have hl7 := HLv.out
  rw [HZ.out] at hl7
  refine (HC1.out (some ⟨W1.heap.size + 1, 0, none⟩) w7 hl7).mono ?_
  rintro en w5 ⟨A5, c5, rfl, ho5, hb5⟩
  have HUp := Lib.hid ((HU0.out.on HB6.out).on hb5.out)
  have C1 := Lib.hid (HUp.out.1.lower (Nat.zero_le _))
  have C2 := Lib.hid ho5.out.bytes
  have C3 := Lib.hid ho5.out.none_cap
  clear ho5 hb5 HU0 hl7 HLv HB6
  go_wp2_with (at_builtin; refine wpList_append8 rfl (.tmp 13) (.tmp 18) rfl A0 1 1 _ rfl C1.out A5 x1.length c5 _ x1 rfl rfl C3.out C2.out (by omega) ?_)
  intro AA1 cc1 w1 hO ho hn
  have HU1 : Hid (UpW W1 AA1 (1 + x1.length) cc1 ([1] ++ x1) w1) := Lib.hid (HUp.out.grown HUp.out.2 (by have h := hO.out; simpa using h) ho.out hn.out)
  clear hO ho hn HUp C1 C2 C3
  obtain ⟨k0, k1, k2, k3, k4, k5, k6, k7, k8, k9⟩ := K1.out.below HU1.out.2
  go_wp2_with fail
  refine (HC2.out w1).mono ?_
  rintro en w5 ⟨A5, c5, rfl, ho5, hb5⟩
  have HUp := Lib.hid (HU1.out.on hb5.out)
  have C1 := Lib.hid (HUp.out.1.lower (Nat.zero_le _))
  have C2 := Lib.hid ho5.out.bytes
  have C3 := Lib.hid ho5.out.none_cap
  clear ho5 hb5 HU1
  go_wp2_with (at_builtin; refine wpList_append8 rfl (.tmp 20) (.tmp 24) rfl AA1 (1 + x1.length) cc1 _ rfl C1.out A5 x2.length c5 _ x2 rfl rfl C3.out C2.out (by omega) ?_)
  intro AA2 cc2 w2 hO ho hn
  have HU2 : Hid (UpW W1 AA2 ((1 + x1.length) + x2.length) cc2 (([1] ++ x1) ++ x2) w2) := Lib.hid (HUp.out.grown HUp.out.2 (by have h := hO.out; simpa using h) ho.out hn.out)
  clear hO ho hn HUp C1 C2 C3
  clear k0 k1 k2 k3 k4 k5 k6 k7 k8 k9
  obtain ⟨k0, k1, k2, k3, k4, k5, k6, k7, k8, k9⟩ := K1.out.below HU2.out.2
  have HB5 := Lib.hid (wbelow_box w2 (.cells #[.int .u8 ((xb.toNat : Nat) : Int)] 5))
  have HUp := Lib.hid (HU2.out.on HB5.out)
  have C1 := Lib.hid (HUp.out.1.lower (Nat.zero_le _))
  have C2 : Hid (Bytes (w2.alloc (.cells #[.int .u8 ((xb.toNat : Nat) : Int)] 5)) (w2.heap.size + 1) (some ⟨w2.heap.size, 0, none⟩) [xb]) := Lib.hid (bytes_new w2 [xb])
  have C3 := Lib.hid (show some (⟨w2.heap.size, 0, none⟩ : Addr) = none → 1 = 0 from fun e => by cases e)
  clear HU2 HB5
  go_wp2_with (at_builtin; refine wpList_append8 rfl (.tmp 26) (.tmp 32) rfl AA2 ((1 + x1.length) + x2.length) cc2 _ rfl C1.out (some ⟨w2.heap.size, 0, none⟩) 1 1 _ [xb] rfl rfl C3.out C2.out (by omega) ?_)
  intro AA3 cc3 w3 hO ho hn
  have HU3 : Hid (UpW W1 AA3 (((1 + x1.length) + x2.length) + 1) cc3 ((([1] ++ x1) ++ x2) ++ [xb]) w3) := Lib.hid (HUp.out.grown HUp.out.2 (by have h := hO.out; simpa using h) ho.out hn.out)
  clear hO ho hn HUp C1 C2 C3
  clear k0 k1 k2 k3 k4 k5 k6 k7 k8 k9
  obtain ⟨k0, k1, k2, k3, k4, k5, k6, k7, k8, k9⟩ := K1.out.below HU3.out.2
  go_wp2_with fail
  refine (HC3.out w3 (B1.out.trans (HU3.out.2.mono B1.out.size))).mono ?_
  rintro en w5 ⟨A5, c5, rfl, ho5, hb5⟩
  have HUp := Lib.hid (HU3.out.on hb5.out)
  have C1 := Lib.hid (HUp.out.1.lower (Nat.zero_le _))
  have C2 := Lib.hid ho5.out.bytes
  have C3 := Lib.hid ho5.out.none_cap
  clear ho5 hb5 HU3
  go_wp2_with (at_builtin; refine wpList_append8 rfl (.tmp 34) (.tmp 38) rfl AA3 (((1 + x1.length) + x2.length) + 1) cc3 _ rfl C1.out A5 x3.length c5 _ x3 rfl rfl C3.out C2.out (by omega) ?_)
  intro AA4 cc4 w4 hO ho hn
  have HU4 : Hid (UpW W1 AA4 ((((1 + x1.length) + x2.length) + 1) + x3.length) cc4 (((([1] ++ x1) ++ x2) ++ [xb]) ++ x3) w4) := Lib.hid (HUp.out.grown HUp.out.2 (by have h := hO.out; simpa using h) ho.out hn.out)
  clear hO ho hn HUp C1 C2 C3
  clear k0 k1 k2 k3 k4 k5 k6 k7 k8 k9
  go_wp2
  go_ret
  have hlen := HU4.out.1.len
  refine ⟨AA4, cc4, ?_, ?_, Lib.hid (B1.out.trans (HU4.out.2.mono B1.out.size))⟩
  · rw [HE.out, hlen]; rfl
  · rw [HE.out, hlen]; exact Lib.hid (HU4.out.1.lower B1.out.size)
set_option maxHeartbeats 8000000 in
theorem rkb_2 (s t h x y : Int) (z : Nat) (H A P : Option Addr) (nh ch n cap np cp : Nat) (hs : List Hd) (bd : List UInt8) (res : List UInt8) (w : World) (hu1 : Unsigned [((s, t) : Life)]) (hs1 : ∀ q ∈ [((s, t) : Life)], 0 ≤ q.1 ∧ q.1 < 256) (hh0 : 0 ≤ h) (hh8 : h < 256) (hl : Hds w w.heap.size H hs) (hn : hs.length = nh) (hnb : nh ≤ 10) (hok : ∀ h ∈ hs, okH h) (hbd : Bytes w w.heap.size A bd) (hbn : bd.length = n) (hbm : n ≤ 1000) 
    (hres : res = [2] ++ putsL [(s, t)] ++ [byteI h, byteI (nh : Nat)] ++ headsL false hs ++ (shortL n ++ bd)) :
    Calls Try.prog 16 #[.agg #[.int .i64 2, .int .i64 s, .int .u64 t, .int .i64 h, .slice H nh ch, .slice A n cap, .int .i64 x, .int .u64 y, .int .u64 (z : Int), .slice P np cp]] w (BytesE w res) := by
  have K1 := Lib.hid (kbox_new (k := 2) (s := s) (t := t) (h := h) (x := x) (y := y) (z := (z : Int)) (H := H) (A := A) (P := P) (nh := nh) (ch := ch) (n := n) (cap := cap) (np := np) (cp := cp) (w := w) 31)
  have B1 := Lib.hid (wbelow_box w (.cells #[.int .i64 2, .int .i64 s, .int .u64 t, .int .i64 h, .slice H nh ch, .slice A n cap, .int .i64 x, .int .u64 y, .int .u64 (z : Int), .slice P np cp] 31))
  have HC1 := Lib.hid (fun Ax W (hl : Lives W W.heap.size Ax [(s, t)]) => rsbytes_any Ax [(s, t)] 1 1 W.heap.size W hl (Nat.le_refl _) rfl (by omega) hu1 hs1)
  have hb1 : (putsL [(s, t)]).length ≤ 11 := by have := putsL_le [(s, t)] hu1; simpa using this
  have HL := Lib.hid hl
  have HN := Lib.hid hn
  have HOK := Lib.hid hok
  have HNB := Lib.hid hnb
  have HX0 := Lib.hid (show ∀ j, j ≤ nh → (headsL false (hs.take j)).length ≤ 310 from fun j hj => by have := take_ok_le (k3 := false) hn hj hok; omega)
  have HBD := Lib.hid hbd
  have HBN := Lib.hid hbn
  have HE := Lib.hid hres
  have ew := byte_wrap h hh0 hh8
  have ew2 := byte_wrap (nh : Nat) (by omega) (by omega)
  generalize byteI h = xb at *
  generalize byteI (nh : Nat) = yb at *
  generalize putsL [(s, t)] = x1 at *
  clear hl hn hok hu1 hs1 hres hh0 hh8 hnb hbd hbn
  go_enter Try.func16, Try.ntmps16
  obtain ⟨k0, k1, k2, k3, k4, k5, k6, k7, k8, k9⟩ := K1.out
  generalize hW : w.alloc (.cells #[.int .i64 2, .int .i64 s, .int .u64 t, .int .i64 h, .slice H nh ch, .slice A n cap, .int .i64 x, .int .u64 y, .int .u64 (z : Int), .slice P np cp] 31) = W1 at *
  have hz0 : Own8 (W1.alloc (.cells #[.int .u8 2] 5)) W1.heap.size (some ⟨W1.heap.size, 0, none⟩) 1 1 [2] := ⟨by simp, .inr ⟨W1.heap.size, 1, _, rfl, Nat.le_refl _, heap_alloc_new W1 _, by omega, by unfold maxLen; omega, rfl, rfl⟩⟩
  have HU0 : Hid (UpW W1 (some ⟨W1.heap.size, 0, none⟩) 1 1 [2] (W1.alloc (.cells #[.int .u8 2] 5))) := Lib.hid ⟨hz0, wbelow_box _ _⟩
  clear hz0
  have HZ := Lib.hid (show (W1.alloc (.cells #[.int .u8 2] 5)).heap.size = W1.heap.size + 1 by simp)
  obtain ⟨j0, j1, j2, j3, j4, j5, j6, j7, j8, j9⟩ := K1.out.below (wbelow_box W1 (.cells #[.int .u8 2] 5))
  go_wp2_with fail
  generalize W1.alloc (.cells #[.int .u8 2] 5) = w0 at *
  generalize hA0 : some (⟨W1.heap.size, 0, none⟩ : Addr) = A0 at *
  clear hA0 k0 k1 k2 k3 k4 k5 k6 k7 k8 k9 j0 j1 j2 j3 j4 j5 j6 j7 j8 j9
  have HLv := Lib.hid (lives_one w0 s t)
  have HB6 := Lib.hid (wbelow_box w0 (.cells #[.int .i64 s, .int .u64 t] 24))
  generalize w0.alloc (.cells #[.int .i64 s, .int .u64 t] 24) = w7 at *
  have hl7 := HLv.out
  rw [HZ.out] at hl7
  refine (HC1.out (some ⟨W1.heap.size + 1, 0, none⟩) w7 hl7).mono ?_
  rintro en w5 ⟨A5, c5, rfl, ho5, hb5⟩
  have HUp := Lib.hid ((HU0.out.on HB6.out).on hb5.out)
  have C1 := Lib.hid (HUp.out.1.lower (Nat.zero_le _))
  have C2 := Lib.hid ho5.out.bytes
  have C3 := Lib.hid ho5.out.none_cap
  clear ho5 hb5 HU0 hl7 HLv HB6
  go_wp2_with (at_builtin; refine wpList_append8 rfl (.tmp 40) (.tmp 44) rfl A0 1 1 _ rfl C1.out A5 x1.length c5 _ x1 rfl rfl C3.out C2.out (by omega) ?_)
  intro AA1 cc1 w1 hO ho hn
  have HU1 : Hid (UpW W1 AA1 (1 + x1.length) cc1 ([2] ++ x1) w1) := Lib.hid (HUp.out.grown HUp.out.2 (by have h := hO.out; simpa using h) ho.out hn.out)
  clear hO ho hn HUp C1 C2 C3
  obtain ⟨k0, k1, k2, k3, k4, k5, k6, k7, k8, k9⟩ := K1.out.below HU1.out.2
  have HB5 := Lib.hid (wbelow_box w1 (.cells #[.int .u8 ((xb.toNat : Nat) : Int), .int .u8 ((yb.toNat : Nat) : Int)] 5))
  have HUp := Lib.hid (HU1.out.on HB5.out)
  have C1 := Lib.hid (HUp.out.1.lower (Nat.zero_le _))
  have C2 : Hid (Bytes (w1.alloc (.cells #[.int .u8 ((xb.toNat : Nat) : Int), .int .u8 ((yb.toNat : Nat) : Int)] 5)) (w1.heap.size + 1) (some ⟨w1.heap.size, 0, none⟩) [xb, yb]) := Lib.hid (bytes_new w1 [xb, yb])
  have C3 := Lib.hid (show some (⟨w1.heap.size, 0, none⟩ : Addr) = none → 2 = 0 from fun e => by cases e)
  clear HU1 HB5
  go_wp2_with (at_builtin; refine wpList_append8 rfl (.tmp 46) (.tmp 54) rfl AA1 (1 + x1.length) cc1 _ rfl C1.out (some ⟨w1.heap.size, 0, none⟩) 2 2 _ [xb, yb] rfl rfl C3.out C2.out (by omega) ?_)
  intro AA2 cc2 w2 hO ho hn
  have HU2 : Hid (UpW W1 AA2 ((1 + x1.length) + 2) cc2 (([2] ++ x1) ++ [xb, yb]) w2) := Lib.hid (HUp.out.grown HUp.out.2 (by have h := hO.out; simpa using h) ho.out hn.out)
  clear hO ho hn HUp C1 C2 C3
  clear k0 k1 k2 k3 k4 k5 k6 k7 k8 k9
  obtain ⟨k0, k1, k2, k3, k4, k5, k6, k7, k8, k9⟩ := K1.out.below HU2.out.2
  go_wp2
  clear k0 k1 k2 k3 k4 k5 k6 k7 k8 k9
  have hlm := HU2.out.1.len
  generalize hL0 : (([2] ++ x1) ++ [xb, yb]) = L0 at *
  have HL0 := Lib.hid hL0
  have hlb : L0.length ≤ 14 := by rw [hlm]; omega
  generalize ((1 + x1.length) + 2) = m0 at *
  generalize AA2 = A0' at *
  generalize cc2 = c0' at *
  have HV := HU2
  clear HU2
  generalize w2 = V at *
  clear hL0
  go_loopw [3, 4] (fun ov iv wr => ∃ (j m c : Nat) (A : Option Addr), j ≤ nh ∧ iv = .int .i64 (j : Nat) ∧ ov = .slice A m c ∧ Hid (UpW W1 A m c (L0 ++ headsL false (hs.take j)) wr)) (fun _ iv _ => nh - (intOf iv).toNat)
  case atStart => exact ⟨0, m0, c0', A0', by omega, rfl, rfl, by simpa [headsL] using HV⟩
  case round =>
    obtain ⟨j, m, c, AA0, hj, rfl, rfl, HU0⟩ := hrel
    have hjm := HU0.out.1.len
    have hjb : m ≤ 324 := by have h1 := HX0.out j hj; rw [List.length_append] at hjm; omega
    have HB1 := Lib.hid (B1.out.trans (HU0.out.2.mono B1.out.size))
    obtain ⟨k0, k1, k2, k3, k4, k5, k6, k7, k8, k9⟩ := K1.out.below HU0.out.2
    by_cases hlt : j < nh
    · have g0 : (0 : Int) ≤ (j : Int) := by omega
      have g1 : (j : Int) < (nh : Int) := by omega
      obtain ⟨b, off, rfl, hbb, h1, h2, h3, h4⟩ := (HL.out.below HB1.out).at_ (k := j) (by rw [HN.out]; exact hlt)
      have HT := Lib.hid (headsL_take_succ false hs j (by rw [HN.out]; exact hlt))
      have hux := HOK.out _ (atH_in (l := hs) (k := j) (by rw [HN.out]; exact hlt))
      generalize atH hs j = hd at *
      obtain ⟨d, cc, q, i⟩ := hd
      obtain ⟨d0, d1, u1, u2, u3⟩ := hux
      simp only at h1 h2 h3 h4 d0 d1 u1 u2 u3
      have ed := byte_wrap d d0 d1
      have hb5 := shortL_ten u1
      have hb6 := shortL_ten u2
      have hb7 := shortL_ten u3
      have HC5 := Lib.hid (fun W => refShort_any cc W u1)
      have HC6 := Lib.hid (fun W => refShort_any q W u2)
      have HC7 := Lib.hid (fun W => refShort_any i W u3)
      have HTT := Lib.hid (show headL false ⟨d, cc, q, i⟩ = [byteI d] ++ shortL cc ++ shortL q ++ [] from by simp [headL])
      generalize byteI d = db at *
      generalize shortL cc = y1 at *
      generalize shortL q = y2 at *
      generalize shortL i = y3 at *
      have J0 := hbox_new wr d cc q i 51
      have HB3 := Lib.hid (wbelow_box wr (.cells #[.int .i64 d, .int .u64 (cc : Int), .int .u64 (q : Int), .int .u64 (i : Int)] 51))
      obtain ⟨j0, j1, j2, j3⟩ := J0
      have J1 := Lib.hid (show HBox wr.heap.size d cc q i _ from ⟨j0, j1, j2, j3⟩)
      have HHB := Lib.hid (show wr.heap.size < (wr.alloc (.cells #[.int .i64 d, .int .u64 (cc : Int), .int .u64 (q : Int), .int .u64 (i : Int)] 51)).heap.size by simp)
      have HZ1 := Lib.hid (show (wr.alloc (.cells #[.int .i64 d, .int .u64 (cc : Int), .int .u64 (q : Int), .int .u64 (i : Int)] 51)).heap.size = wr.heap.size + 1 by simp)
      have NE1 := Lib.hid (show blockOf AA0 ≠ some wr.heap.size from fun e => by have := (HU0.out.1.lt e).2; omega)
      have HU1 := Lib.hid (HU0.out.on HB3.out)
      clear HU0 d0 d1 u1 u2 u3
      have HB5 := Lib.hid (wbelow_box (wr.alloc (.cells #[.int .i64 d, .int .u64 (cc : Int), .int .u64 (q : Int), .int .u64 (i : Int)] 51)) (.cells #[.int .u8 ((db.toNat : Nat) : Int)] 5))
      have HUp := Lib.hid (HU1.out.on HB5.out)
      have C1 := Lib.hid (HUp.out.1.lower (Nat.zero_le _))
      have c2 := bytes_new (wr.alloc (.cells #[.int .i64 d, .int .u64 (cc : Int), .int .u64 (q : Int), .int .u64 (i : Int)] 51)) [db]
      rw [HZ1.out] at c2
      have C2 : Hid (Bytes ((wr.alloc (.cells #[.int .i64 d, .int .u64 (cc : Int), .int .u64 (q : Int), .int .u64 (i : Int)] 51)).alloc (.cells #[.int .u8 ((db.toNat : Nat) : Int)] 5)) (wr.heap.size + 1 + 1) (some ⟨wr.heap.size + 1, 0, none⟩) [db]) := Lib.hid c2
      have C3 := Lib.hid (show some (⟨wr.heap.size + 1, 0, none⟩ : Addr) = none → 1 = 0 from fun e => by cases e)
      have Jp := Lib.hid (J1.out.below HB5.out)
      have HSp := Lib.hid HB5.out.size
      clear c2 J1 HU1 HB5
      have HHB' := HHB
      go_wp2_with (at_builtin; refine wpList_append8 rfl (.tmp 68) (.tmp 72) rfl AA0 m c _ rfl C1.out (some ⟨wr.heap.size + 1, 0, none⟩) 1 1 _ [db] rfl rfl C3.out C2.out (by omega) ?_)
      intro AA2 cc2 w2 hO ho hn
      have HU2 : Hid (UpW W1 AA2 (m + 1) cc2 ((L0 ++ headsL false (hs.take j)) ++ [db]) w2) := Lib.hid (HUp.out.grown HUp.out.2 (by have h := hO.out; simpa using h) ho.out hn.out)
      have J2 := Lib.hid (Jp.out.only ho.out (fun e => NE1.out e))
      have NE2 := Lib.hid (ne_new hn.out NE1.out (Nat.lt_of_lt_of_le HHB.out HSp.out))
      have HS2 := Lib.hid (Nat.le_trans HSp.out ho.out.size)
      clear Jp NE1 HSp
      clear hO ho hn HUp C1 C2 C3
      clear h1 h2 h3 h4 j0 j1 j2 j3 HHB' k0 k1 k2 k3 k4 k5 k6 k7 k8 k9
      obtain ⟨j0, j1, j2, j3⟩ := J2.out
      obtain ⟨k0, k1, k2, k3, k4, k5, k6, k7, k8, k9⟩ := K1.out.below HU2.out.2
      go_wp2_with fail
      refine (HC5.out _).mono ?_
      rintro en w5 ⟨A5, c5, rfl, ho5, hb5⟩
      have HUp := Lib.hid (HU2.out.on hb5.out)
      have C1 := Lib.hid (HUp.out.1.lower (Nat.zero_le _))
      have C2 := Lib.hid ho5.out.bytes
      have C3 := Lib.hid ho5.out.none_cap
      have Jp := Lib.hid (J2.out.below hb5.out)
      have HSp := Lib.hid (Nat.le_trans HS2.out hb5.out.size)
      clear J2 HS2
      clear ho5 hb5 HU2
      go_wp2_with (at_builtin; refine wpList_append8 rfl (.tmp 74) (.tmp 77) rfl AA2 (m + 1) cc2 _ rfl C1.out A5 y1.length c5 _ y1 rfl rfl C3.out C2.out (by omega) ?_)
      intro AA3 cc3 w3 hO ho hn
      have HU3 : Hid (UpW W1 AA3 ((m + 1) + y1.length) cc3 (((L0 ++ headsL false (hs.take j)) ++ [db]) ++ y1) w3) := Lib.hid (HUp.out.grown HUp.out.2 (by have h := hO.out; simpa using h) ho.out hn.out)
      have J3 := Lib.hid (Jp.out.only ho.out (fun e => NE2.out e))
      have NE3 := Lib.hid (ne_new hn.out NE2.out (Nat.lt_of_lt_of_le HHB.out HSp.out))
      have HS3 := Lib.hid (Nat.le_trans HSp.out ho.out.size)
      clear Jp NE2 HSp
      clear hO ho hn HUp C1 C2 C3
      clear j0 j1 j2 j3
      clear k0 k1 k2 k3 k4 k5 k6 k7 k8 k9
      obtain ⟨j0, j1, j2, j3⟩ := J3.out
      obtain ⟨k0, k1, k2, k3, k4, k5, k6, k7, k8, k9⟩ := K1.out.below HU3.out.2
      go_wp2_with fail
      refine (HC6.out _).mono ?_
      rintro en w5 ⟨A5, c5, rfl, ho5, hb5⟩
      have HUp := Lib.hid (HU3.out.on hb5.out)
      have C1 := Lib.hid (HUp.out.1.lower (Nat.zero_le _))
      have C2 := Lib.hid ho5.out.bytes
      have C3 := Lib.hid ho5.out.none_cap
      have Jp := Lib.hid (J3.out.below hb5.out)
      have HSp := Lib.hid (Nat.le_trans HS3.out hb5.out.size)
      clear J3 HS3
      clear ho5 hb5 HU3
      go_wp2_with (at_builtin; refine wpList_append8 rfl (.tmp 79) (.tmp 82) rfl AA3 ((m + 1) + y1.length) cc3 _ rfl C1.out A5 y2.length c5 _ y2 rfl rfl C3.out C2.out (by omega) ?_)
      intro AA4 cc4 w4 hO ho hn
      have HU4 : Hid (UpW W1 AA4 (((m + 1) + y1.length) + y2.length) cc4 ((((L0 ++ headsL false (hs.take j)) ++ [db]) ++ y1) ++ y2) w4) := Lib.hid (HUp.out.grown HUp.out.2 (by have h := hO.out; simpa using h) ho.out hn.out)
      have J4 := Lib.hid (Jp.out.only ho.out (fun e => NE3.out e))
      have NE4 := Lib.hid (ne_new hn.out NE3.out (Nat.lt_of_lt_of_le HHB.out HSp.out))
      have HS4 := Lib.hid (Nat.le_trans HSp.out ho.out.size)
      clear Jp NE3 HSp
      clear hO ho hn HUp C1 C2 C3
      clear j0 j1 j2 j3
      clear k0 k1 k2 k3 k4 k5 k6 k7 k8 k9
      have HR : Hid (UpW W1 AA4 (((m + 1) + y1.length) + y2.length) cc4 (L0 ++ headsL false (hs.take (j + 1))) w4) := Lib.hid (by rw [HT.out, HTT.out]; simpa [List.append_assoc] using HU4.out)
      clear HU4
      obtain ⟨k0, k1, k2, k3, k4, k5, k6, k7, k8, k9⟩ := K1.out.below HR.out.2
      have hnb2 := HNB.out
      go_wp2
      go_roundw
      case rel => exact ⟨j + 1, _, _, _, by omega, by go_num, rfl, HR⟩
      case measure => simp [intOf]; omega
    · obtain rfl : j = nh := by omega
      have g1 : ¬ (j : Int) < (j : Int) := by omega
      have HTK := Lib.hid (show hs.take j = hs by rw [← HN.out, List.take_length])
      rw [HTK.out] at HU0
      have cs := conv_str cap (HBD.out.below HB1.out) HBN.out
      have hsz : (⟨bd.toArray⟩ : ByteArray).size = n := by rw [← HBN.out]; simp [ByteArray.size]
      have HST := Lib.hid (show strL ⟨bd.toArray⟩ = bd from by simp [strL])
      generalize (⟨bd.toArray⟩ : ByteArray) = sx at cs hsz HST
      obtain ⟨x9, hx9⟩ : ∃ v, shortL n ++ bd = v := ⟨_, rfl⟩
      have HX9 := Lib.hid hx9
      have hb9 : x9.length ≤ 1010 := by have h1 := shortL_ten (x := n) (by omega); rw [← hx9, List.length_append, HBN.out]; omega
      have HC9 : Hid (∀ W, Calls Try.prog 34 #[.string sx] W (BytesE W x9)) := Lib.hid (fun W => by have := refText_any sx W (by omega); rwa [hsz, HST.out, hx9] at this)
      clear hsz hx9
      go_wp2_with fail
      refine (HC9.out _).mono ?_
      rintro en w5 ⟨A5, c5, rfl, ho5, hb5⟩
      have HUp := Lib.hid (HU0.out.on hb5.out)
      have C1 := Lib.hid (HUp.out.1.lower (Nat.zero_le _))
      have C2 := Lib.hid ho5.out.bytes
      have C3 := Lib.hid ho5.out.none_cap
      clear ho5 hb5 HU0
      go_wp2_with (at_builtin; refine wpList_append8 rfl (.tmp 95) (.tmp 99) rfl AA0 m c _ rfl C1.out A5 x9.length c5 _ x9 rfl rfl C3.out C2.out (by omega) ?_)
      intro AA1 cc1 w1 hO ho hn
      have HU1 : Hid (UpW W1 AA1 (m + x9.length) cc1 ((L0 ++ headsL false hs) ++ x9) w1) := Lib.hid (HUp.out.grown HUp.out.2 (by have h := hO.out; simpa using h) ho.out hn.out)
      clear hO ho hn HUp C1 C2 C3
      clear cs
      clear k0 k1 k2 k3 k4 k5 k6 k7 k8 k9
      have HF : res = L0 ++ headsL false hs ++ x9 := by rw [HE.out, ← HX9.out]
      go_wp2
      go_ret
      have hlen := HU1.out.1.len
      refine ⟨AA1, cc1, ?_, ?_, Lib.hid (B1.out.trans (HU1.out.2.mono B1.out.size))⟩
      · rw [HF, hlen]; rfl
      · rw [HF, hlen]; exact Lib.hid (HU1.out.1.lower B1.out.size)
set_option maxHeartbeats 8000000 in
theorem rkb_3 (s t h x y : Int) (z : Nat) (H A P : Option Addr) (nh ch n cap np cp : Nat) (hs : List Hd) (res : List UInt8) (w : World) (hu1 : Unsigned [((s, t) : Life)]) (hs1 : ∀ q ∈ [((s, t) : Life)], 0 ≤ q.1 ∧ q.1 < 256) (hh0 : 0 ≤ h) (hh8 : h < 256) (hl : Hds w w.heap.size H hs) (hn : hs.length = nh) (hnb : nh ≤ 10) (hok : ∀ h ∈ hs, okH h) 
    (hres : res = [3] ++ putsL [(s, t)] ++ [byteI h, byteI (nh : Nat)] ++ headsL true hs) :
    Calls Try.prog 16 #[.agg #[.int .i64 3, .int .i64 s, .int .u64 t, .int .i64 h, .slice H nh ch, .slice A n cap, .int .i64 x, .int .u64 y, .int .u64 (z : Int), .slice P np cp]] w (BytesE w res) := by
  have K1 := Lib.hid (kbox_new (k := 3) (s := s) (t := t) (h := h) (x := x) (y := y) (z := (z : Int)) (H := H) (A := A) (P := P) (nh := nh) (ch := ch) (n := n) (cap := cap) (np := np) (cp := cp) (w := w) 31)
  have B1 := Lib.hid (wbelow_box w (.cells #[.int .i64 3, .int .i64 s, .int .u64 t, .int .i64 h, .slice H nh ch, .slice A n cap, .int .i64 x, .int .u64 y, .int .u64 (z : Int), .slice P np cp] 31))
  have HC1 := Lib.hid (fun Ax W (hl : Lives W W.heap.size Ax [(s, t)]) => rsbytes_any Ax [(s, t)] 1 1 W.heap.size W hl (Nat.le_refl _) rfl (by omega) hu1 hs1)
  have hb1 : (putsL [(s, t)]).length ≤ 11 := by have := putsL_le [(s, t)] hu1; simpa using this
  have HL := Lib.hid hl
  have HN := Lib.hid hn
  have HOK := Lib.hid hok
  have HNB := Lib.hid hnb
  have HX0 := Lib.hid (show ∀ j, j ≤ nh → (headsL true (hs.take j)).length ≤ 310 from fun j hj => by have := take_ok_le (k3 := true) hn hj hok; omega)
  have HE := Lib.hid hres
  have ew := byte_wrap h hh0 hh8
  have ew2 := byte_wrap (nh : Nat) (by omega) (by omega)
  generalize byteI h = xb at *
  generalize byteI (nh : Nat) = yb at *
  generalize putsL [(s, t)] = x1 at *
  clear hl hn hok hu1 hs1 hres hh0 hh8 hnb
  go_enter Try.func16, Try.ntmps16
  obtain ⟨k0, k1, k2, k3, k4, k5, k6, k7, k8, k9⟩ := K1.out
  generalize hW : w.alloc (.cells #[.int .i64 3, .int .i64 s, .int .u64 t, .int .i64 h, .slice H nh ch, .slice A n cap, .int .i64 x, .int .u64 y, .int .u64 (z : Int), .slice P np cp] 31) = W1 at *
  have hz0 : Own8 (W1.alloc (.cells #[.int .u8 3] 5)) W1.heap.size (some ⟨W1.heap.size, 0, none⟩) 1 1 [3] := ⟨by simp, .inr ⟨W1.heap.size, 1, _, rfl, Nat.le_refl _, heap_alloc_new W1 _, by omega, by unfold maxLen; omega, rfl, rfl⟩⟩
  have HU0 : Hid (UpW W1 (some ⟨W1.heap.size, 0, none⟩) 1 1 [3] (W1.alloc (.cells #[.int .u8 3] 5))) := Lib.hid ⟨hz0, wbelow_box _ _⟩
  clear hz0
  have HZ := Lib.hid (show (W1.alloc (.cells #[.int .u8 3] 5)).heap.size = W1.heap.size + 1 by simp)
  obtain ⟨j0, j1, j2, j3, j4, j5, j6, j7, j8, j9⟩ := K1.out.below (wbelow_box W1 (.cells #[.int .u8 3] 5))
  go_wp2_with fail
  generalize W1.alloc (.cells #[.int .u8 3] 5) = w0 at *
  generalize hA0 : some (⟨W1.heap.size, 0, none⟩ : Addr) = A0 at *
  clear hA0 k0 k1 k2 k3 k4 k5 k6 k7 k8 k9 j0 j1 j2 j3 j4 j5 j6 j7 j8 j9
  have HLv := Lib.hid (lives_one w0 s t)
  have HB6 := Lib.hid (wbelow_box w0 (.cells #[.int .i64 s, .int .u64 t] 24))
  generalize w0.alloc (.cells #[.int .i64 s, .int .u64 t] 24) = w7 at *
  have hl7 := HLv.out
  rw [HZ.out] at hl7
  refine (HC1.out (some ⟨W1.heap.size + 1, 0, none⟩) w7 hl7).mono ?_
  rintro en w5 ⟨A5, c5, rfl, ho5, hb5⟩
  have HUp := Lib.hid ((HU0.out.on HB6.out).on hb5.out)
  have C1 := Lib.hid (HUp.out.1.lower (Nat.zero_le _))
  have C2 := Lib.hid ho5.out.bytes
  have C3 := Lib.hid ho5.out.none_cap
  clear ho5 hb5 HU0 hl7 HLv HB6
  go_wp2_with (at_builtin; refine wpList_append8 rfl (.tmp 40) (.tmp 44) rfl A0 1 1 _ rfl C1.out A5 x1.length c5 _ x1 rfl rfl C3.out C2.out (by omega) ?_)
  intro AA1 cc1 w1 hO ho hn
  have HU1 : Hid (UpW W1 AA1 (1 + x1.length) cc1 ([3] ++ x1) w1) := Lib.hid (HUp.out.grown HUp.out.2 (by have h := hO.out; simpa using h) ho.out hn.out)
  clear hO ho hn HUp C1 C2 C3
  obtain ⟨k0, k1, k2, k3, k4, k5, k6, k7, k8, k9⟩ := K1.out.below HU1.out.2
  have HB5 := Lib.hid (wbelow_box w1 (.cells #[.int .u8 ((xb.toNat : Nat) : Int), .int .u8 ((yb.toNat : Nat) : Int)] 5))
  have HUp := Lib.hid (HU1.out.on HB5.out)
  have C1 := Lib.hid (HUp.out.1.lower (Nat.zero_le _))
  have C2 : Hid (Bytes (w1.alloc (.cells #[.int .u8 ((xb.toNat : Nat) : Int), .int .u8 ((yb.toNat : Nat) : Int)] 5)) (w1.heap.size + 1) (some ⟨w1.heap.size, 0, none⟩) [xb, yb]) := Lib.hid (bytes_new w1 [xb, yb])
  have C3 := Lib.hid (show some (⟨w1.heap.size, 0, none⟩ : Addr) = none → 2 = 0 from fun e => by cases e)
  clear HU1 HB5
  go_wp2_with (at_builtin; refine wpList_append8 rfl (.tmp 46) (.tmp 54) rfl AA1 (1 + x1.length) cc1 _ rfl C1.out (some ⟨w1.heap.size, 0, none⟩) 2 2 _ [xb, yb] rfl rfl C3.out C2.out (by omega) ?_)
  intro AA2 cc2 w2 hO ho hn
  have HU2 : Hid (UpW W1 AA2 ((1 + x1.length) + 2) cc2 (([3] ++ x1) ++ [xb, yb]) w2) := Lib.hid (HUp.out.grown HUp.out.2 (by have h := hO.out; simpa using h) ho.out hn.out)
  clear hO ho hn HUp C1 C2 C3
  clear k0 k1 k2 k3 k4 k5 k6 k7 k8 k9
  obtain ⟨k0, k1, k2, k3, k4, k5, k6, k7, k8, k9⟩ := K1.out.below HU2.out.2
  go_wp2
  clear k0 k1 k2 k3 k4 k5 k6 k7 k8 k9
  have hlm := HU2.out.1.len
  generalize hL0 : (([3] ++ x1) ++ [xb, yb]) = L0 at *
  have HL0 := Lib.hid hL0
  have hlb : L0.length ≤ 14 := by rw [hlm]; omega
  generalize ((1 + x1.length) + 2) = m0 at *
  generalize AA2 = A0' at *
  generalize cc2 = c0' at *
  have HV := HU2
  clear HU2
  generalize w2 = V at *
  clear hL0
  go_loopw [3, 4] (fun ov iv wr => ∃ (j m c : Nat) (A : Option Addr), j ≤ nh ∧ iv = .int .i64 (j : Nat) ∧ ov = .slice A m c ∧ Hid (UpW W1 A m c (L0 ++ headsL true (hs.take j)) wr)) (fun _ iv _ => nh - (intOf iv).toNat)
  case atStart => exact ⟨0, m0, c0', A0', by omega, rfl, rfl, by simpa [headsL] using HV⟩
  case round =>
    obtain ⟨j, m, c, AA0, hj, rfl, rfl, HU0⟩ := hrel
    have hjm := HU0.out.1.len
    have hjb : m ≤ 324 := by have h1 := HX0.out j hj; rw [List.length_append] at hjm; omega
    have HB1 := Lib.hid (B1.out.trans (HU0.out.2.mono B1.out.size))
    obtain ⟨k0, k1, k2, k3, k4, k5, k6, k7, k8, k9⟩ := K1.out.below HU0.out.2
    by_cases hlt : j < nh
    · have g0 : (0 : Int) ≤ (j : Int) := by omega
      have g1 : (j : Int) < (nh : Int) := by omega
      obtain ⟨b, off, rfl, hbb, h1, h2, h3, h4⟩ := (HL.out.below HB1.out).at_ (k := j) (by rw [HN.out]; exact hlt)
      have HT := Lib.hid (headsL_take_succ true hs j (by rw [HN.out]; exact hlt))
      have hux := HOK.out _ (atH_in (l := hs) (k := j) (by rw [HN.out]; exact hlt))
      generalize atH hs j = hd at *
      obtain ⟨d, cc, q, i⟩ := hd
      obtain ⟨d0, d1, u1, u2, u3⟩ := hux
      simp only at h1 h2 h3 h4 d0 d1 u1 u2 u3
      have ed := byte_wrap d d0 d1
      have hb5 := shortL_ten u1
      have hb6 := shortL_ten u2
      have hb7 := shortL_ten u3
      have HC5 := Lib.hid (fun W => refShort_any cc W u1)
      have HC6 := Lib.hid (fun W => refShort_any q W u2)
      have HC7 := Lib.hid (fun W => refShort_any i W u3)
      have HTT := Lib.hid (show headL true ⟨d, cc, q, i⟩ = [byteI d] ++ shortL cc ++ shortL q ++ shortL i from by simp [headL])
      generalize byteI d = db at *
      generalize shortL cc = y1 at *
      generalize shortL q = y2 at *
      generalize shortL i = y3 at *
      have J0 := hbox_new wr d cc q i 51
      have HB3 := Lib.hid (wbelow_box wr (.cells #[.int .i64 d, .int .u64 (cc : Int), .int .u64 (q : Int), .int .u64 (i : Int)] 51))
      obtain ⟨j0, j1, j2, j3⟩ := J0
      have J1 := Lib.hid (show HBox wr.heap.size d cc q i _ from ⟨j0, j1, j2, j3⟩)
      have HHB := Lib.hid (show wr.heap.size < (wr.alloc (.cells #[.int .i64 d, .int .u64 (cc : Int), .int .u64 (q : Int), .int .u64 (i : Int)] 51)).heap.size by simp)
      have HZ1 := Lib.hid (show (wr.alloc (.cells #[.int .i64 d, .int .u64 (cc : Int), .int .u64 (q : Int), .int .u64 (i : Int)] 51)).heap.size = wr.heap.size + 1 by simp)
      have NE1 := Lib.hid (show blockOf AA0 ≠ some wr.heap.size from fun e => by have := (HU0.out.1.lt e).2; omega)
      have HU1 := Lib.hid (HU0.out.on HB3.out)
      clear HU0 d0 d1 u1 u2 u3
      have HB5 := Lib.hid (wbelow_box (wr.alloc (.cells #[.int .i64 d, .int .u64 (cc : Int), .int .u64 (q : Int), .int .u64 (i : Int)] 51)) (.cells #[.int .u8 ((db.toNat : Nat) : Int)] 5))
      have HUp := Lib.hid (HU1.out.on HB5.out)
      have C1 := Lib.hid (HUp.out.1.lower (Nat.zero_le _))
      have c2 := bytes_new (wr.alloc (.cells #[.int .i64 d, .int .u64 (cc : Int), .int .u64 (q : Int), .int .u64 (i : Int)] 51)) [db]
      rw [HZ1.out] at c2
      have C2 : Hid (Bytes ((wr.alloc (.cells #[.int .i64 d, .int .u64 (cc : Int), .int .u64 (q : Int), .int .u64 (i : Int)] 51)).alloc (.cells #[.int .u8 ((db.toNat : Nat) : Int)] 5)) (wr.heap.size + 1 + 1) (some ⟨wr.heap.size + 1, 0, none⟩) [db]) := Lib.hid c2
      have C3 := Lib.hid (show some (⟨wr.heap.size + 1, 0, none⟩ : Addr) = none → 1 = 0 from fun e => by cases e)
      have Jp := Lib.hid (J1.out.below HB5.out)
      have HSp := Lib.hid HB5.out.size
      clear c2 J1 HU1 HB5
      have HHB' := HHB
      go_wp2_with (at_builtin; refine wpList_append8 rfl (.tmp 68) (.tmp 72) rfl AA0 m c _ rfl C1.out (some ⟨wr.heap.size + 1, 0, none⟩) 1 1 _ [db] rfl rfl C3.out C2.out (by omega) ?_)
      intro AA2 cc2 w2 hO ho hn
      have HU2 : Hid (UpW W1 AA2 (m + 1) cc2 ((L0 ++ headsL true (hs.take j)) ++ [db]) w2) := Lib.hid (HUp.out.grown HUp.out.2 (by have h := hO.out; simpa using h) ho.out hn.out)
      have J2 := Lib.hid (Jp.out.only ho.out (fun e => NE1.out e))
      have NE2 := Lib.hid (ne_new hn.out NE1.out (Nat.lt_of_lt_of_le HHB.out HSp.out))
      have HS2 := Lib.hid (Nat.le_trans HSp.out ho.out.size)
      clear Jp NE1 HSp
      clear hO ho hn HUp C1 C2 C3
      clear h1 h2 h3 h4 j0 j1 j2 j3 HHB' k0 k1 k2 k3 k4 k5 k6 k7 k8 k9
      obtain ⟨j0, j1, j2, j3⟩ := J2.out
      obtain ⟨k0, k1, k2, k3, k4, k5, k6, k7, k8, k9⟩ := K1.out.below HU2.out.2
      go_wp2_with fail
      refine (HC5.out _).mono ?_
      rintro en w5 ⟨A5, c5, rfl, ho5, hb5⟩
      have HUp := Lib.hid (HU2.out.on hb5.out)
      have C1 := Lib.hid (HUp.out.1.lower (Nat.zero_le _))
      have C2 := Lib.hid ho5.out.bytes
      have C3 := Lib.hid ho5.out.none_cap
      have Jp := Lib.hid (J2.out.below hb5.out)
      have HSp := Lib.hid (Nat.le_trans HS2.out hb5.out.size)
      clear J2 HS2
      clear ho5 hb5 HU2
      go_wp2_with (at_builtin; refine wpList_append8 rfl (.tmp 74) (.tmp 77) rfl AA2 (m + 1) cc2 _ rfl C1.out A5 y1.length c5 _ y1 rfl rfl C3.out C2.out (by omega) ?_)
      intro AA3 cc3 w3 hO ho hn
      have HU3 : Hid (UpW W1 AA3 ((m + 1) + y1.length) cc3 (((L0 ++ headsL true (hs.take j)) ++ [db]) ++ y1) w3) := Lib.hid (HUp.out.grown HUp.out.2 (by have h := hO.out; simpa using h) ho.out hn.out)
      have J3 := Lib.hid (Jp.out.only ho.out (fun e => NE2.out e))
      have NE3 := Lib.hid (ne_new hn.out NE2.out (Nat.lt_of_lt_of_le HHB.out HSp.out))
      have HS3 := Lib.hid (Nat.le_trans HSp.out ho.out.size)
      clear Jp NE2 HSp
      clear hO ho hn HUp C1 C2 C3
      clear j0 j1 j2 j3
      clear k0 k1 k2 k3 k4 k5 k6 k7 k8 k9
      obtain ⟨j0, j1, j2, j3⟩ := J3.out
      obtain ⟨k0, k1, k2, k3, k4, k5, k6, k7, k8, k9⟩ := K1.out.below HU3.out.2
      go_wp2_with fail
      refine (HC6.out _).mono ?_
      rintro en w5 ⟨A5, c5, rfl, ho5, hb5⟩
      have HUp := Lib.hid (HU3.out.on hb5.out)
      have C1 := Lib.hid (HUp.out.1.lower (Nat.zero_le _))
      have C2 := Lib.hid ho5.out.bytes
      have C3 := Lib.hid ho5.out.none_cap
      have Jp := Lib.hid (J3.out.below hb5.out)
      have HSp := Lib.hid (Nat.le_trans HS3.out hb5.out.size)
      clear J3 HS3
      clear ho5 hb5 HU3
      go_wp2_with (at_builtin; refine wpList_append8 rfl (.tmp 79) (.tmp 82) rfl AA3 ((m + 1) + y1.length) cc3 _ rfl C1.out A5 y2.length c5 _ y2 rfl rfl C3.out C2.out (by omega) ?_)
      intro AA4 cc4 w4 hO ho hn
      have HU4 : Hid (UpW W1 AA4 (((m + 1) + y1.length) + y2.length) cc4 ((((L0 ++ headsL true (hs.take j)) ++ [db]) ++ y1) ++ y2) w4) := Lib.hid (HUp.out.grown HUp.out.2 (by have h := hO.out; simpa using h) ho.out hn.out)
      have J4 := Lib.hid (Jp.out.only ho.out (fun e => NE3.out e))
      have NE4 := Lib.hid (ne_new hn.out NE3.out (Nat.lt_of_lt_of_le HHB.out HSp.out))
      have HS4 := Lib.hid (Nat.le_trans HSp.out ho.out.size)
      clear Jp NE3 HSp
      clear hO ho hn HUp C1 C2 C3
      clear j0 j1 j2 j3
      clear k0 k1 k2 k3 k4 k5 k6 k7 k8 k9
      obtain ⟨j0, j1, j2, j3⟩ := J4.out
      obtain ⟨k0, k1, k2, k3, k4, k5, k6, k7, k8, k9⟩ := K1.out.below HU4.out.2
      go_wp2_with fail
      refine (HC7.out _).mono ?_
      rintro en w5 ⟨A5, c5, rfl, ho5, hb5⟩
      have HUp := Lib.hid (HU4.out.on hb5.out)
      have C1 := Lib.hid (HUp.out.1.lower (Nat.zero_le _))
      have C2 := Lib.hid ho5.out.bytes
      have C3 := Lib.hid ho5.out.none_cap
      have Jp := Lib.hid (J4.out.below hb5.out)
      have HSp := Lib.hid (Nat.le_trans HS4.out hb5.out.size)
      clear J4 HS4
      clear ho5 hb5 HU4
      go_wp2_with (at_builtin; refine wpList_append8 rfl (.tmp 87) (.tmp 90) rfl AA4 (((m + 1) + y1.length) + y2.length) cc4 _ rfl C1.out A5 y3.length c5 _ y3 rfl rfl C3.out C2.out (by omega) ?_)
      intro AA5 cc5 w5 hO ho hn
      have HU5 : Hid (UpW W1 AA5 ((((m + 1) + y1.length) + y2.length) + y3.length) cc5 (((((L0 ++ headsL true (hs.take j)) ++ [db]) ++ y1) ++ y2) ++ y3) w5) := Lib.hid (HUp.out.grown HUp.out.2 (by have h := hO.out; simpa using h) ho.out hn.out)
      have J5 := Lib.hid (Jp.out.only ho.out (fun e => NE4.out e))
      have NE5 := Lib.hid (ne_new hn.out NE4.out (Nat.lt_of_lt_of_le HHB.out HSp.out))
      have HS5 := Lib.hid (Nat.le_trans HSp.out ho.out.size)
      clear Jp NE4 HSp
      clear hO ho hn HUp C1 C2 C3
      clear j0 j1 j2 j3
      clear k0 k1 k2 k3 k4 k5 k6 k7 k8 k9
      have HR : Hid (UpW W1 AA5 ((((m + 1) + y1.length) + y2.length) + y3.length) cc5 (L0 ++ headsL true (hs.take (j + 1))) w5) := Lib.hid (by rw [HT.out, HTT.out]; simpa [List.append_assoc] using HU5.out)
      clear HU5
      have hnb2 := HNB.out
      go_wp2
      go_roundw
      case rel => exact ⟨j + 1, _, _, _, by omega, by go_num, rfl, HR⟩
      case measure => simp [intOf]; omega
    · obtain rfl : j = nh := by omega
      have g1 : ¬ (j : Int) < (j : Int) := by omega
      have HTK := Lib.hid (show hs.take j = hs by rw [← HN.out, List.take_length])
      rw [HTK.out] at HU0
      go_wp2
      go_ret
      have hlen := HU0.out.1.len
      refine ⟨AA0, c, ?_, ?_, Lib.hid (B1.out.trans (HU0.out.2.mono B1.out.size))⟩
      · rw [HE.out, hlen]; rfl
      · rw [HE.out, hlen]; exact Lib.hid (HU0.out.1.lower B1.out.size)
end Go.Proofs.Ytlcddfkhklmieaa
