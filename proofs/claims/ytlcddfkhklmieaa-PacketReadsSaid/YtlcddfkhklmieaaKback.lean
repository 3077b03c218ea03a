/-
  The statement PacketBack's walk: whatever packet, it answers true, and leaves all that was there as it was. No condition.
-/
import Derived.Test.YtlcddfkhklmieaaKawake
import Derived.Test.YtlcddfkhklmieaaKargs
namespace Go.Proofs.Ytlcddfkhklmieaa
set_option maxRecDepth 20000
open Go.RowKit

set_option maxHeartbeats 8000000 in
theorem kback_int (k s t h x y : Int) (z : Nat) (H A P : Option Addr) (nh ch n cap np cp : Nat) (hs : List Hd) (bd : List UInt8) (ps : List Life) (w : World) (hi : PIn w w.heap.size hs bd ps H nh A n cap P np cp) (ht : 0 ≤ t) (hy : 0 ≤ y) :
    Calls Try.prog 6 #[.agg #[.int .i64 k, .int .i64 s, .int .u64 t, .int .i64 h, .slice H nh ch, .slice A n cap, .int .i64 x, .int .u64 y, .int .u64 (z : Int), .slice P np cp]] w fun e w' => e = .returned (.bool true) ∧ Hid (Below w.heap.size w w') := by
  have K1 := Lib.hid (kbox_new (k := k) (s := s) (t := t) (h := h) (x := x) (y := y) (z := (z : Int)) (H := H) (A := A) (P := P) (nh := nh) (ch := ch) (n := n) (cap := cap) (np := np) (cp := cp) (w := w) 31)
  have B1 := Lib.hid (kbelow_box w (.cells #[.int .i64 k, .int .i64 s, .int .u64 t, .int .i64 h, .slice H nh ch, .slice A n cap, .int .i64 x, .int .u64 y, .int .u64 (z : Int), .slice P np cp] 31))
  have HI0 := Lib.hid hi
  clear hi
  go_enter Try.func6, Try.ntmps6
  obtain ⟨k0, k1, k2, k3, k4, k5, k6, k7, k8, k9⟩ := K1.out
  go_wp2_with fail
  generalize w.alloc (.cells #[.int .i64 k, .int .i64 s, .int .u64 t, .int .i64 h, .slice H nh ch, .slice A n cap, .int .i64 x, .int .u64 y, .int .u64 (z : Int), .slice P np cp] 31) = W1 at *
  clear k0 k1 k2 k3 k4 k5 k6 k7 k8 k9
  refine (long_any k s t h x y z H A P nh ch n cap np cp W1).mono ?_
  rintro en W2 ⟨rfl, hb⟩
  have K2 := Lib.hid (K1.out.below hb.out)
  have B2 := Lib.hid (ktr B1.out hb.out)
  clear K1
  by_cases hlg : 1000 < nh ∨ 300 < np ∨ 65536 < n
  · rw [decide_eq_true hlg]
    clear hlg
    go_wp2_with fail
    refine (awake6_any _).mono ?_
    rintro en W3 ⟨rfl, hb⟩
    have K3 := Lib.hid (K2.out.below hb.out)
    have B3 := Lib.hid (ktr B2.out hb.out)
    clear K2
    go_wp2
    go_ret
    exact ⟨rfl, B3⟩
  rw [decide_eq_false hlg]
  have HX := Lib.hid (show nh ≤ 1000 ∧ np ≤ 300 ∧ n ≤ 65536 by omega)
  clear hlg
  obtain ⟨k0, k1, k2, k3, k4, k5, k6, k7, k8, k9⟩ := K2.out
  go_wp2_with fail
  clear k0 k1 k2 k3 k4 k5 k6 k7 k8 k9
  refine (enc_at (k := k) (s := s) (t := t) (h := h) (x := x) (y := y) (z := z) (ch := ch) ((HI0.out.below B2.out).more B2.out.size) (Nat.le_refl _) ht hy (by have := HX.out; omega) (by have := HX.out; omega)).mono ?_
  rintro en W3 ⟨hb, h⟩
  have K3 := Lib.hid (K2.out.below hb.out)
  have B3 := Lib.hid (ktr B2.out hb.out)
  clear K2
  clear hb
  rcases h with ⟨hm, rfl⟩ | ⟨hm, A5, c5, rfl, ho⟩
  · have HM := Lib.hid hm
    clear hm
    obtain ⟨k0, k1, k2, k3, k4, k5, k6, k7, k8, k9⟩ := K3.out
    go_wp2_with fail
    clear k0 k1 k2 k3 k4 k5 k6 k7 k8 k9
    refine (may_at (k := k) (s := s) (t := t) (h := h) (x := x) (y := y) (z := z) (ch := ch) ((HI0.out.below B3.out).more B3.out.size) (Nat.le_refl _) ht hy (by have := HX.out; omega) (by have := HX.out; omega)).mono ?_
    rintro en W4 ⟨rfl, hb⟩
    rw [decide_eq_false HM.out]
    have K4 := Lib.hid (K3.out.below hb.out)
    have B4 := Lib.hid (ktr B3.out hb.out)
    clear K3
    clear hb
    go_wp2_with fail
    refine (awake6_any _).mono ?_
    rintro en W5 ⟨rfl, hb⟩
    have K5 := Lib.hid (K4.out.below hb.out)
    have B5 := Lib.hid (ktr B4.out hb.out)
    clear K4
    go_wp2
    go_ret
    exact ⟨rfl, B5⟩
  · have HM := Lib.hid hm
    have H448 := Lib.hid (packetL_le hm)
    have HRD := Lib.hid (readK_put hm)
    clear hm
    have O3 := Lib.hid ho.out
    clear ho
    generalize packetL ((⟨k, (s, t), h, hs, bd, (x, y), z, ps⟩) : Pk) = res at *
    generalize hm : res.length = m at *
    have HML := Lib.hid hm
    clear hm
    obtain ⟨k0, k1, k2, k3, k4, k5, k6, k7, k8, k9⟩ := K3.out
    go_wp2_with fail
    clear k0 k1 k2 k3 k4 k5 k6 k7 k8 k9
    refine (may_at (k := k) (s := s) (t := t) (h := h) (x := x) (y := y) (z := z) (ch := ch) ((HI0.out.below B3.out).more B3.out.size) (Nat.le_refl _) ht hy (by have := HX.out; omega) (by have := HX.out; omega)).mono ?_
    rintro en W4 ⟨rfl, hb⟩
    rw [decide_eq_true HM.out]
    have K4 := Lib.hid (K3.out.below hb.out)
    have O4 := Lib.hid (own8_on O3.out hb.out)
    have B4 := Lib.hid (ktr B3.out hb.out)
    clear K3 O3
    clear hb
    go_wp2_with fail
    refine (kdec_any A5 res m c5 W4 HML.out O4.out.bytes O4.out.none_cap (by have := H448.out; omega)).mono ?_
    rintro en W5 h
    obtain ⟨H7, ch7, A7, cb7, P7, cp7, rfl, hm7, hb⟩ := decK_some HRD.out h
    have K5 := Lib.hid (K4.out.below hb.out)
    have O5 := Lib.hid (own8_on O4.out hb.out)
    have B5 := Lib.hid (ktr B4.out hb.out)
    have M5 := Lib.hid (hm7.out)
    clear K4 O4
    clear hb h hm7
    have E7 : pkA (⟨k, (s, t), h, hs, bd, (x, y), z, ps⟩ : Pk) H7 ch7 A7 cb7 P7 cp7 = #[.int .i64 k, .int .i64 s, .int .u64 t, .int .i64 h, .slice H7 nh ch7, .slice A7 n cb7, .int .i64 x, .int .u64 y, .int .u64 (z : Int), .slice P7 np cp7] := by unfold pkA; simp only [HI0.out.hlen, HI0.out.blen, HI0.out.plen]
    rw [E7]
    clear E7
    have hbx := kbelow_box W5 (.cells #[.int .i64 k, .int .i64 s, .int .u64 t, .int .i64 h, .slice H7 nh ch7, .slice A7 n cb7, .int .i64 x, .int .u64 y, .int .u64 (z : Int), .slice P7 np cp7] 31)
    have K6 := Lib.hid (K5.out.below hbx)
    have O6 := Lib.hid (own8_on O5.out hbx)
    have M6 := Lib.hid (M5.out.on hbx)
    have B6 := Lib.hid (ktr B5.out hbx)
    have X6 := Lib.hid (kbox_new (k := k) (s := s) (t := t) (h := h) (x := x) (y := y) (z := (z : Int)) (H := H7) (A := A7) (P := P7) (nh := nh) (ch := ch7) (n := n) (cap := cb7) (np := np) (cp := cp7) (w := W5) 31)
    clear K5 O5 M5
    clear hbx
    obtain ⟨k0, k1, k2, k3, k4, k5, k6, k7, k8, k9⟩ := K6.out
    go_wp2_with fail
    generalize W5.alloc (.cells #[.int .i64 k, .int .i64 s, .int .u64 t, .int .i64 h, .slice H7 nh ch7, .slice A7 n cb7, .int .i64 x, .int .u64 y, .int .u64 (z : Int), .slice P7 np cp7] 31) = W6 at *
    generalize W5.heap.size = xb at *
    clear k0 k1 k2 k3 k4 k5 k6 k7 k8 k9
    have hpn := M6.out.pin HI0.out.pos
    simp only [HI0.out.hlen, HI0.out.blen, HI0.out.plen] at hpn
    have h448 : (m : Int) ≤ 448 := by have := H448.out; omega
    refine (same_at (k := k) (s := s) (t := t) (h := h) (x := x) (y := y) (z := z) (ch := ch) (k' := k) (s' := s) (t' := t) (h' := h) (x' := x) (y' := y) (z' := z) (ch' := ch7) ((HI0.out.below B6.out).more B6.out.size) hpn (Nat.le_refl _) (by have := HX.out; omega) (by have := HX.out; omega) (by have := HX.out; omega)).mono ?_
    rintro en W7 ⟨rfl, hb⟩
    simp only [decide_true]
    clear hpn
    have K7 := Lib.hid (K6.out.below hb.out)
    have O7 := Lib.hid (own8_on O6.out hb.out)
    have M7 := Lib.hid (M6.out.on hb.out)
    have X7 := Lib.hid (X6.out.below hb.out)
    have B7 := Lib.hid (ktr B6.out hb.out)
    clear K6 O6 M6 X6
    clear hb
    go_wp2_with fail
    refine (awake6_any _).mono ?_
    rintro en W8 ⟨rfl, hb⟩
    have K8 := Lib.hid (K7.out.below hb.out)
    have O8 := Lib.hid (own8_on O7.out hb.out)
    have M8 := Lib.hid (M7.out.on hb.out)
    have X8 := Lib.hid (X7.out.below hb.out)
    have B8 := Lib.hid (ktr B7.out hb.out)
    clear K7 O7 M7 X7
    go_wp2
    go_ret
    exact ⟨rfl, B8⟩
theorem PkIn.pin {W : World} {p : Pk} {A0 A1 A2 : Option Addr} {c0 c1 c2 : Nat} (h : PkIn W W.heap.size p A0 c0 A1 c1 A2 c2) (hk : PkOk p) : PIn W W.heap.size p.heads p.body p.peers A0 p.heads.length A1 p.body.length c1 A2 p.peers.length c2 :=
  ⟨h.heads, h.body, h.peers, rfl, rfl, rfl, h.cap1, h.cap2, fun q hq => (hk.2.2.2.2.2.2 q hq).2.1⟩
theorem kback_walk (p : Pk) (A0 : Option Addr) (c0 : Nat) (A1 : Option Addr) (c1 : Nat) (A2 : Option Addr) (c2 : Nat) (w : World) (hi : PkIn w w.heap.size p A0 c0 A1 c1 A2 c2) (hk : PkOk p) :
    Calls Try.prog 6 #[pkV p A0 c0 A1 c1 A2 c2] w fun e w' => e = .returned (.bool true) ∧ Hid (Below w.heap.size w w') :=
  kback_int _ _ _ _ _ _ _ A0 A1 A2 _ c0 _ c1 _ c2 p.heads p.body p.peers w (hi.pin hk) hk.2.1.2.1 hk.2.2.2.2.1.2.1
end Go.Proofs.Ytlcddfkhklmieaa
