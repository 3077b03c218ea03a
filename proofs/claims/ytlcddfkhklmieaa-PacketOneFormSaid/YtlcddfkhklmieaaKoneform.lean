/-
  The statement PacketOneForm's walk: whatever bytes, it answers true, and leaves all that was there as it was. No condition.
-/
import Derived.Test.YtlcddfkhklmieaaKawake
import Derived.Test.YtlcddfkhklmieaaKargs
namespace Go.Proofs.Ytlcddfkhklmieaa
set_option maxRecDepth 20000
open Go.RowKit

set_option maxHeartbeats 8000000 in
theorem koneform_int (A : Option Addr) (l : List UInt8) (n cap : Nat) (w : World) (hn : l.length = n) (hA : A = none → cap = 0) (hb : Bytes w w.heap.size A l) :
    Calls Try.prog 7 #[.slice A n cap] w fun e w' => e = .returned (.bool true) ∧ Hid (Below w.heap.size w w') := by
  have HN := Lib.hid hn
  have HA := Lib.hid hA
  have HB0 := Lib.hid hb
  have B0 := Lib.hid (Below.refl w.heap.size w)
  clear hn hb hA
  go_enter Try.func7, Try.ntmps7
  by_cases hlong : 65536 < n
  · go_wp2_with fail
    refine (awake6_any _).mono ?_
    rintro en W2 ⟨rfl, hb⟩
    go_wp2
    go_ret
    exact ⟨rfl, hb⟩
  · go_wp2_with fail
    refine (kdec_any A l n cap w HN.out HB0.out HA.out (by omega)).mono ?_
    rintro en W2 h
    rcases hu : readK l with _ | p
    · obtain ⟨H7, ch7, A7, cb7, P7, cp7, rfl, hm7, hb⟩ := decK_no hu h
      clear h hu
      have B2 := Lib.hid (ktr B0.out hb.out)
      have M2 := Lib.hid (hm7.out)
      clear hb hm7
      have E7 : pkA noK H7 ch7 A7 cb7 P7 cp7 = #[.int .i64 0, .int .i64 0, .int .u64 0, .int .i64 0, .slice H7 0 ch7, .slice A7 0 cb7, .int .i64 0, .int .u64 0, .int .u64 0, .slice P7 0 cp7] := rfl
      rw [E7]
      clear E7
      have hbx := kbelow_box W2 (.cells #[.int .i64 0, .int .i64 0, .int .u64 0, .int .i64 0, .slice H7 0 ch7, .slice A7 0 cb7, .int .i64 0, .int .u64 0, .int .u64 0, .slice P7 0 cp7] 31)
      have M3 := Lib.hid (M2.out.on hbx)
      have B3 := Lib.hid (ktr B2.out hbx)
      have X3 := Lib.hid (kbox_new (k := 0) (s := 0) (t := 0) (h := 0) (x := 0) (y := 0) (z := 0) (H := H7) (A := A7) (P := P7) (nh := 0) (ch := ch7) (n := 0) (cap := cb7) (np := 0) (cp := cp7) (w := W2) 31)
      clear M2
      clear hbx
      obtain ⟨k0, k1, k2, k3, k4, k5, k6, k7, k8, k9⟩ := X3.out
      go_wp2_with fail
      generalize W2.alloc (.cells #[.int .i64 0, .int .i64 0, .int .u64 0, .int .i64 0, .slice H7 0 ch7, .slice A7 0 cb7, .int .i64 0, .int .u64 0, .int .u64 0, .slice P7 0 cp7] 31) = W3 at *
      generalize W2.heap.size = xb at *
      clear k0 k1 k2 k3 k4 k5 k6 k7 k8 k9
      refine (same_at (k := 0) (s := 0) (t := 0) (h := 0) (x := 0) (y := 0) (z := 0) (ch := ch7) (k' := 0) (s' := 0) (t' := 0) (h' := 0) (x' := 0) (y' := 0) (z' := 0) (ch' := 0) (M3.out.pin (by decide)) (show PIn W3 W3.heap.size [] [] [] none 0 none 0 0 none 0 0 from ⟨Hds.nil_, Bytes.nil_, Lives.nil_, rfl, rfl, rfl, fun _ => rfl, fun _ => rfl, by decide⟩) (Nat.le_refl _) (by decide) (by decide) (by decide)).mono ?_
      rintro en W4 ⟨rfl, hb⟩
      simp only [noK, decide_true]
      have M4 := Lib.hid (M3.out.on hb.out)
      have X4 := Lib.hid (X3.out.below hb.out)
      have B4 := Lib.hid (ktr B3.out hb.out)
      clear M3 X3
      clear hb
      go_wp2_with fail
      refine (awake6_any _).mono ?_
      rintro en W5 ⟨rfl, hb⟩
      have M5 := Lib.hid (M4.out.on hb.out)
      have X5 := Lib.hid (X4.out.below hb.out)
      have B5 := Lib.hid (ktr B4.out hb.out)
      clear M4 X4
      go_wp2
      go_ret
      exact ⟨rfl, B5⟩
    · have HM := Lib.hid (readK_some hu).1
      have HL := Lib.hid (readK_some hu).2
      obtain ⟨H7, ch7, A7, cb7, P7, cp7, rfl, hm7, hb⟩ := decK_some hu h
      have HU := Lib.hid (uns_may (readK_some hu).1)
      clear h hu
      have B2 := Lib.hid (ktr B0.out hb.out)
      have M2 := Lib.hid (hm7.out)
      clear hb hm7
      obtain ⟨k, ⟨s, t⟩, h, hs, bd, ⟨x, y⟩, z, ps⟩ := p
      simp only [pkA]
      have HPI := Lib.hid (M2.out.pin HU.out.2.2.1)
      have hub := HU.out
      simp only at hub HPI
      generalize hs.length = nh at *
      generalize bd.length = n5 at *
      generalize ps.length = np at *
      have HX := Lib.hid (show nh ≤ 10 ∧ np ≤ 4 ∧ 0 ≤ t ∧ 0 ≤ y from ⟨hub.2.2.2.1, hub.2.2.2.2.1, hub.1, hub.2.1⟩)
      clear hub HU
      clear M2
      have hbx := kbelow_box W2 (.cells #[.int .i64 k, .int .i64 s, .int .u64 t, .int .i64 h, .slice H7 nh ch7, .slice A7 n5 cb7, .int .i64 x, .int .u64 y, .int .u64 (z : Int), .slice P7 np cp7] 31)
      have B3 := Lib.hid (ktr B2.out hbx)
      have X3 := Lib.hid (kbox_new (k := k) (s := s) (t := t) (h := h) (x := x) (y := y) (z := (z : Int)) (H := H7) (A := A7) (P := P7) (nh := nh) (ch := ch7) (n := n5) (cap := cb7) (np := np) (cp := cp7) (w := W2) 31)
      clear hbx
      have HP3 := Lib.hid ((HPI.out.below (kbelow_box W2 (.cells #[.int .i64 k, .int .i64 s, .int .u64 t, .int .i64 h, .slice H7 nh ch7, .slice A7 n5 cb7, .int .i64 x, .int .u64 y, .int .u64 (z : Int), .slice P7 np cp7] 31))).more (kbelow_box W2 (.cells #[.int .i64 k, .int .i64 s, .int .u64 t, .int .i64 h, .slice H7 nh ch7, .slice A7 n5 cb7, .int .i64 x, .int .u64 y, .int .u64 (z : Int), .slice P7 np cp7] 31)).size)
      clear HPI
      obtain ⟨k0, k1, k2, k3, k4, k5, k6, k7, k8, k9⟩ := X3.out
      go_wp2_with fail
      generalize W2.alloc (.cells #[.int .i64 k, .int .i64 s, .int .u64 t, .int .i64 h, .slice H7 nh ch7, .slice A7 n5 cb7, .int .i64 x, .int .u64 y, .int .u64 (z : Int), .slice P7 np cp7] 31) = W3 at *
      generalize W2.heap.size = xb at *
      clear k0 k1 k2 k3 k4 k5 k6 k7 k8 k9
      refine (enc_at (k := k) (s := s) (t := t) (h := h) (x := x) (y := y) (z := z) (ch := ch7) HP3.out (Nat.le_refl _) HX.out.2.2.1 HX.out.2.2.2 (by have := HX.out; omega) (by have := HX.out; omega)).mono ?_
      rintro en W4 ⟨hb, h⟩
      have X4 := Lib.hid (X3.out.below hb.out)
      have B4 := Lib.hid (ktr B3.out hb.out)
      clear X3
      have HP4 := Lib.hid ((HP3.out.below hb.out).more hb.out.size)
      clear hb HP3
      rcases h with ⟨h, -⟩ | ⟨-, A5, c5, rfl, ho⟩
      · exact absurd HM.out h
      rw [HL.out] at ho ⊢
      rw [HN.out] at ho ⊢
      have O4 := Lib.hid ho.out
      clear ho
      have cs1 := conv_str c5 O4.out.bytes HN.out
      have cs2 := conv_str cap (HB0.out.below B4.out) HN.out
      have hq : ((⟨l.toArray⟩ : ByteArray).toList == (⟨l.toArray⟩ : ByteArray).toList) = true := by simp
      generalize (⟨l.toArray⟩ : ByteArray) = sa at cs1 cs2 hq
      obtain ⟨k0, k1, k2, k3, k4, k5, k6, k7, k8, k9⟩ := X4.out
      go_wp2_with fail
      clear k0 k1 k2 k3 k4 k5 k6 k7 k8 k9 cs1 cs2 hq
      refine (may_at (k := k) (s := s) (t := t) (h := h) (x := x) (y := y) (z := z) (ch := ch7) HP4.out (Nat.le_refl _) HX.out.2.2.1 HX.out.2.2.2 (by have := HX.out; omega) (by have := HX.out; omega)).mono ?_
      rintro en W5 ⟨rfl, hb⟩
      rw [decide_eq_true HM.out]
      have X5 := Lib.hid (X4.out.below hb.out)
      have O5 := Lib.hid (own8_on O4.out hb.out)
      have B5 := Lib.hid (ktr B4.out hb.out)
      clear X4 O4
      clear hb
      go_wp2_with fail
      refine (awake6_any _).mono ?_
      rintro en W6 ⟨rfl, hb⟩
      have X6 := Lib.hid (X5.out.below hb.out)
      have O6 := Lib.hid (own8_on O5.out hb.out)
      have B6 := Lib.hid (ktr B5.out hb.out)
      clear X5 O5
      go_wp2
      go_ret
      exact ⟨rfl, B6⟩
theorem koneform_walk (A : Option Addr) (l : List UInt8) (cap : Nat) (w : World) (hA : A = none → cap = 0) (hb : Bytes w w.heap.size A l) :
    Calls Try.prog 7 #[.slice A l.length cap] w fun e w' => e = .returned (.bool true) ∧ Hid (Below w.heap.size w w') := koneform_int A l _ cap w rfl hA hb
end Go.Proofs.Ytlcddfkhklmieaa
