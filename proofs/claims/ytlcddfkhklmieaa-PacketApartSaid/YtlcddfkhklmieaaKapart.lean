/-
  The statement PacketApart's walk: whatever two packets, it answers true, and leaves all that was there as it was. No condition.
-/
import Derived.Test.YtlcddfkhklmieaaKback
import Derived.Test.YtlcddfkhklmieaaGa
namespace Go.Proofs.Ytlcddfkhklmieaa
set_option maxRecDepth 20000
open Go.RowKit

def KApG (k s t h x y : Int) (z : Nat) (H A P : Option Addr) (nh ch n cap np cp : Nat) (kk ss tt hh xx yy : Int) (zz : Nat) (HH AA PP : Option Addr) (nnh cch nn ccap nnp ccp : Nat) (A5 A6 : Option Addr) (c5 c6 m1 m2 : Nat) (sa sb : ByteArray) (ds : Bool) (i : Nat) (_ : World) (v : Value) : Prop :=
  match i with
  | 0 => v = Value.slice A5 m1 c5
  | 1 => v = Value.string sa
  | 2 => v = Value.slice A6 m2 c6
  | 3 => v = Value.string sb
  | 4 => v = .bool ds
  | 5 => v = .agg #[.int .i64 k, .int .i64 s, .int .u64 t, .int .i64 h, .slice H nh ch, .slice A n cap, .int .i64 x, .int .u64 y, .int .u64 (z : Int), .slice P np cp]
  | 6 => v = .agg #[.int .i64 kk, .int .i64 ss, .int .u64 tt, .int .i64 hh, .slice HH nnh cch, .slice AA nn ccap, .int .i64 xx, .int .u64 yy, .int .u64 (zz : Int), .slice PP nnp ccp]
  | 7 => v = .bool ds
  | 8 => v = .bool true
  | 9 => v = .bool true
  | 10 => v = .bool true
  | 11 => v = .bool true
  | _ => v = .bool true
theorem KApG.mono {k s t h x y : Int} {z : Nat} {H A P : Option Addr} {nh ch n cap np cp : Nat} {kk ss tt hh xx yy : Int} {zz : Nat} {HH AA PP : Option Addr} {nnh cch nn ccap nnp ccp : Nat} {A5 A6 : Option Addr} {c5 c6 m1 m2 : Nat} {sa sb : ByteArray} {ds : Bool} {i : Nat} {v : Value} {w w' : World} (_ : Below w.heap.size w w') (hg : KApG k s t h x y z H A P nh ch n cap np cp kk ss tt hh xx yy zz HH AA PP nnh cch nn ccap nnp ccp A5 A6 c5 c6 m1 m2 sa sb ds i w v) : KApG k s t h x y z H A P nh ch n cap np cp kk ss tt hh xx yy zz HH AA PP nnh cch nn ccap nnp ccp A5 A6 c5 c6 m1 m2 sa sb ds i w' v := by
  unfold KApG at *
  exact hg
set_option maxHeartbeats 8000000 in
theorem kapart_int (k s t h x y : Int) (z : Nat) (H A P : Option Addr) (nh ch n cap np cp : Nat) (hs : List Hd) (bd : List UInt8) (ps : List Life) (kk ss tt hh xx yy : Int) (zz : Nat) (HH AA PP : Option Addr) (nnh cch nn ccap nnp ccp : Nat) (hhs : List Hd) (bbd : List UInt8) (pps : List Life) (w : World) (hi : PIn w w.heap.size hs bd ps H nh A n cap P np cp) (ht : 0 ≤ t) (hy : 0 ≤ y) (hi2 : PIn w w.heap.size hhs bbd pps HH nnh AA nn ccap PP nnp ccp) (htt : 0 ≤ tt) (hyy : 0 ≤ yy) :
    Calls Try.prog 8 #[.agg #[.int .i64 k, .int .i64 s, .int .u64 t, .int .i64 h, .slice H nh ch, .slice A n cap, .int .i64 x, .int .u64 y, .int .u64 (z : Int), .slice P np cp], .agg #[.int .i64 kk, .int .i64 ss, .int .u64 tt, .int .i64 hh, .slice HH nnh cch, .slice AA nn ccap, .int .i64 xx, .int .u64 yy, .int .u64 (zz : Int), .slice PP nnp ccp]] w fun e w' => e = .returned (.bool true) ∧ Hid (Below w.heap.size w w') := by
  have mixed : Try.prog.follows .mixedOrders = true := by kernel_rfl
  have hk1 := kbox_new (k := k) (s := s) (t := t) (h := h) (x := x) (y := y) (z := (z : Int)) (H := H) (A := A) (P := P) (nh := nh) (ch := ch) (n := n) (cap := cap) (np := np) (cp := cp) (w := w) 31
  have hb1 := kbelow_box w (.cells #[.int .i64 k, .int .i64 s, .int .u64 t, .int .i64 h, .slice H nh ch, .slice A n cap, .int .i64 x, .int .u64 y, .int .u64 (z : Int), .slice P np cp] 31)
  have hz : (w.alloc (.cells #[.int .i64 k, .int .i64 s, .int .u64 t, .int .i64 h, .slice H nh ch, .slice A n cap, .int .i64 x, .int .u64 y, .int .u64 (z : Int), .slice P np cp] 31)).heap.size = w.heap.size + 1 := by simp
  have hj1 := kbox_new (k := kk) (s := ss) (t := tt) (h := hh) (x := xx) (y := yy) (z := (zz : Int)) (H := HH) (A := AA) (P := PP) (nh := nnh) (ch := cch) (n := nn) (cap := ccap) (np := nnp) (cp := ccp) (w := (w.alloc (.cells #[.int .i64 k, .int .i64 s, .int .u64 t, .int .i64 h, .slice H nh ch, .slice A n cap, .int .i64 x, .int .u64 y, .int .u64 (z : Int), .slice P np cp] 31))) 31
  rw [hz] at hj1
  have hb2 := kbelow_box (w.alloc (.cells #[.int .i64 k, .int .i64 s, .int .u64 t, .int .i64 h, .slice H nh ch, .slice A n cap, .int .i64 x, .int .u64 y, .int .u64 (z : Int), .slice P np cp] 31)) (.cells #[.int .i64 kk, .int .i64 ss, .int .u64 tt, .int .i64 hh, .slice HH nnh cch, .slice AA nn ccap, .int .i64 xx, .int .u64 yy, .int .u64 (zz : Int), .slice PP nnp ccp] 31)
  have K2 := Lib.hid (hk1.below hb2)
  have J2 := Lib.hid hj1
  have B2 := Lib.hid (ktr hb1 hb2)
  have HI0 := Lib.hid hi
  have HI2 := Lib.hid hi2
  clear hi hi2 hk1 hb1 hz hj1 hb2
  go_enter Try.func8, Try.ntmps8
  obtain ⟨k0, k1, k2, k3, k4, k5, k6, k7, k8, k9⟩ := K2.out
  go_wp2_with fail
  generalize ((w.alloc (.cells #[.int .i64 k, .int .i64 s, .int .u64 t, .int .i64 h, .slice H nh ch, .slice A n cap, .int .i64 x, .int .u64 y, .int .u64 (z : Int), .slice P np cp] 31)).alloc (.cells #[.int .i64 kk, .int .i64 ss, .int .u64 tt, .int .i64 hh, .slice HH nnh cch, .slice AA nn ccap, .int .i64 xx, .int .u64 yy, .int .u64 (zz : Int), .slice PP nnp ccp] 31)) = W2 at *
  clear k0 k1 k2 k3 k4 k5 k6 k7 k8 k9
  refine (long_any k s t h x y z H A P nh ch n cap np cp W2).mono ?_
  rintro en W3 ⟨rfl, hb⟩
  have K3 := Lib.hid (K2.out.below hb.out)
  have J3 := Lib.hid (J2.out.below hb.out)
  have B3 := Lib.hid (ktr B2.out hb.out)
  clear K2 J2
  clear hb
  by_cases hlg : 1000 < nh ∨ 300 < np ∨ 65536 < n
  · rw [decide_eq_true hlg]
    clear hlg
    go_wp2_with fail
    refine (awake6_any _).mono ?_
    rintro en W4 ⟨rfl, hb⟩
    have K4 := Lib.hid (K3.out.below hb.out)
    have J4 := Lib.hid (J3.out.below hb.out)
    have B4 := Lib.hid (ktr B3.out hb.out)
    clear K3 J3
    go_wp2
    go_ret
    exact ⟨rfl, B4⟩
  rw [decide_eq_false hlg]
  have HX := Lib.hid (show nh ≤ 1000 ∧ np ≤ 300 ∧ n ≤ 65536 by omega)
  clear hlg
  obtain ⟨j0, j1, j2, j3, j4, j5, j6, j7, j8, j9⟩ := J3.out
  go_wp2_with fail
  clear j0 j1 j2 j3 j4 j5 j6 j7 j8 j9
  refine (long_any kk ss tt hh xx yy zz HH AA PP nnh cch nn ccap nnp ccp W3).mono ?_
  rintro en W4 ⟨rfl, hb⟩
  have K4 := Lib.hid (K3.out.below hb.out)
  have J4 := Lib.hid (J3.out.below hb.out)
  have B4 := Lib.hid (ktr B3.out hb.out)
  clear K3 J3
  clear hb
  by_cases hlg : 1000 < nnh ∨ 300 < nnp ∨ 65536 < nn
  · rw [decide_eq_true hlg]
    clear hlg
    go_wp2_with fail
    refine (awake6_any _).mono ?_
    rintro en W5 ⟨rfl, hb⟩
    have K5 := Lib.hid (K4.out.below hb.out)
    have J5 := Lib.hid (J4.out.below hb.out)
    have B5 := Lib.hid (ktr B4.out hb.out)
    clear K4 J4
    go_wp2
    go_ret
    exact ⟨rfl, B5⟩
  rw [decide_eq_false hlg]
  have HX2 := Lib.hid (show nnh ≤ 1000 ∧ nnp ≤ 300 ∧ nn ≤ 65536 by omega)
  clear hlg
  obtain ⟨k0, k1, k2, k3, k4, k5, k6, k7, k8, k9⟩ := K4.out
  go_wp2_with fail
  clear k0 k1 k2 k3 k4 k5 k6 k7 k8 k9
  refine (enc_at (k := k) (s := s) (t := t) (h := h) (x := x) (y := y) (z := z) (ch := ch) ((HI0.out.below B4.out).more B4.out.size) (Nat.le_refl _) ht hy (by have := HX.out; omega) (by have := HX.out; omega)).mono ?_
  rintro en W5 ⟨hb, h⟩
  have K5 := Lib.hid (K4.out.below hb.out)
  have J5 := Lib.hid (J4.out.below hb.out)
  have B5 := Lib.hid (ktr B4.out hb.out)
  clear K4 J4
  clear hb
  rcases h with ⟨hm, rfl⟩ | ⟨hm, A5, c5, rfl, ho⟩
  · clear hm
    obtain ⟨j0, j1, j2, j3, j4, j5, j6, j7, j8, j9⟩ := J5.out
    go_wp2_with fail
    clear j0 j1 j2 j3 j4 j5 j6 j7 j8 j9
    refine (enc_at (k := kk) (s := ss) (t := tt) (h := hh) (x := xx) (y := yy) (z := zz) (ch := cch) ((HI2.out.below B5.out).more B5.out.size) (Nat.le_refl _) htt hyy (by have := HX2.out; omega) (by have := HX2.out; omega)).mono ?_
    rintro en W6 ⟨hb, h⟩
    have K6 := Lib.hid (K5.out.below hb.out)
    have J6 := Lib.hid (J5.out.below hb.out)
    have B6 := Lib.hid (ktr B5.out hb.out)
    clear K5 J5
    clear hb
    rcases h with ⟨hm, rfl⟩ | ⟨hm, A6, c6, rfl, ho⟩
    · clear hm
      go_wp2_with fail
      refine (awake6_any _).mono ?_
      rintro en W7 ⟨rfl, hb⟩
      have K7 := Lib.hid (K6.out.below hb.out)
      have J7 := Lib.hid (J6.out.below hb.out)
      have B7 := Lib.hid (ktr B6.out hb.out)
      clear K6 J6
      go_wp2
      go_ret
      exact ⟨rfl, B7⟩
    · clear hm
      go_wp2_with fail
      refine (awake6_any _).mono ?_
      rintro en W7 ⟨rfl, hb⟩
      have K7 := Lib.hid (K6.out.below hb.out)
      have J7 := Lib.hid (J6.out.below hb.out)
      have B7 := Lib.hid (ktr B6.out hb.out)
      clear K6 J6
      go_wp2
      go_ret
      exact ⟨rfl, B7⟩
  · have HM1 := Lib.hid hm
    have O5 := Lib.hid ho.out
    clear hm ho
    obtain ⟨j0, j1, j2, j3, j4, j5, j6, j7, j8, j9⟩ := J5.out
    go_wp2_with fail
    clear j0 j1 j2 j3 j4 j5 j6 j7 j8 j9
    refine (enc_at (k := kk) (s := ss) (t := tt) (h := hh) (x := xx) (y := yy) (z := zz) (ch := cch) ((HI2.out.below B5.out).more B5.out.size) (Nat.le_refl _) htt hyy (by have := HX2.out; omega) (by have := HX2.out; omega)).mono ?_
    rintro en W6 ⟨hb, h⟩
    have K6 := Lib.hid (K5.out.below hb.out)
    have J6 := Lib.hid (J5.out.below hb.out)
    have O6 := Lib.hid (own8_on O5.out hb.out)
    have B6 := Lib.hid (ktr B5.out hb.out)
    clear K5 J5 O5
    clear hb
    rcases h with ⟨hm, rfl⟩ | ⟨hm, A6, c6, rfl, ho⟩
    · clear hm
      go_wp2_with fail
      refine (awake6_any _).mono ?_
      rintro en W7 ⟨rfl, hb⟩
      have K7 := Lib.hid (K6.out.below hb.out)
      have J7 := Lib.hid (J6.out.below hb.out)
      have O7 := Lib.hid (own8_on O6.out hb.out)
      have B7 := Lib.hid (ktr B6.out hb.out)
      clear K6 J6 O6
      go_wp2
      go_ret
      exact ⟨rfl, B7⟩
    · have HM2 := Lib.hid hm
      have Q6 := Lib.hid ho.out
      clear hm ho
      have HDS := Lib.hid (show decide (packetL ((⟨k, (s, t), h, hs, bd, (x, y), z, ps⟩) : Pk) = packetL ((⟨kk, (ss, tt), hh, hhs, bbd, (xx, yy), zz, pps⟩) : Pk)) = decide (((⟨k, (s, t), h, hs, bd, (x, y), z, ps⟩) : Pk) = ⟨kk, (ss, tt), hh, hhs, bbd, (xx, yy), zz, pps⟩) from by rw [Bool.eq_iff_iff, decide_eq_true_iff, decide_eq_true_iff]; exact ⟨fun h => packetL_inj HM1.out HM2.out h, fun h => by rw [h]⟩)
      have HS := Lib.hid (fun W (hb : Below w.heap.size w W) => same_at (k := k) (s := s) (t := t) (h := h) (x := x) (y := y) (z := z) (ch := ch) (k' := kk) (s' := ss) (t' := tt) (h' := hh) (x' := xx) (y' := yy) (z' := zz) (ch' := cch) ((HI0.out.below hb).more hb.size) ((HI2.out.below hb).more hb.size) (Nat.le_refl _) (by have := HX.out; omega) (by have := HX.out; omega) (by have := HX2.out; omega))
      have HQ := Lib.hid (same_strK (packetL ((⟨k, (s, t), h, hs, bd, (x, y), z, ps⟩) : Pk)) (packetL ((⟨kk, (ss, tt), hh, hhs, bbd, (xx, yy), zz, pps⟩) : Pk)))
      rw [HDS.out] at HQ
      generalize decide (((⟨k, (s, t), h, hs, bd, (x, y), z, ps⟩) : Pk) = ⟨kk, (ss, tt), hh, hhs, bbd, (xx, yy), zz, pps⟩) = ds at HQ HS
      have HC1 := Lib.hid (fun W (hb : Below W6.heap.size W6 W) => conv_str c5 (own8_on O6.out hb).bytes rfl)
      have HC2 := Lib.hid (fun W (hb : Below W6.heap.size W6 W) => conv_str c6 (own8_on Q6.out hb).bytes rfl)
      generalize (⟨(packetL ((⟨k, (s, t), h, hs, bd, (x, y), z, ps⟩) : Pk)).toArray⟩ : ByteArray) = sa at HQ HC1
      generalize (⟨(packetL ((⟨kk, (ss, tt), hh, hhs, bbd, (xx, yy), zz, pps⟩) : Pk)).toArray⟩ : ByteArray) = sb at HQ HC2
      clear O6 Q6 HM1 HM2 HDS
      generalize (packetL ((⟨k, (s, t), h, hs, bd, (x, y), z, ps⟩) : Pk)).length = m1 at *
      generalize (packetL ((⟨kk, (ss, tt), hh, hhs, bbd, (xx, yy), zz, pps⟩) : Pk)).length = m2 at *
      go_wp2_with fail
      have D0 : Hid (Below W6.heap.size W6 W6.drew) := Lib.hid ⟨rfl, rfl, rfl, Nat.le_refl _, fun _ _ => rfl⟩
      have KF : Hid (KBox w.heap.size k s t h x y (z : Int) H A P nh ch n cap np cp W6.drew) := K6
      have KG : Hid (KBox (w.heap.size + 1) kk ss tt hh xx yy (zz : Int) HH AA PP nnh cch nn ccap nnp ccp W6.drew) := J6
      have BD : Hid (Below w.heap.size w W6.drew) := Lib.hid (ktr B6.out D0.out)
      refine region_steps (n := 63) (KApG k s t h x y z H A P nh ch n cap np cp kk ss tt hh xx yy zz HH AA PP nnh cch nn ccap nnp ccp A5 A6 c5 c6 m1 m2 sa sb ds) (by kernel_rfl) (by kernel_rfl) rfl (fun _ _ _ _ hb h => KApG.mono hb h) ?_ ?_
      · refine And.intro ?_ (And.intro ?_ (And.intro ?_ (And.intro ?_ (And.intro ?_ (And.intro ?_ (And.intro ?_ (And.intro ?_ (And.intro ?_ (And.intro ?_ (And.intro ?_ (And.intro ?_ (And.intro ?_ (True.intro)))))))))))))
        · intro listed a' w' hw hd K hK
          refine step_free rfl ?_
          apply wp_move
          exact hK _ _ (Below.refl _ _) (fun s hs => by cases hs; exact hw.kept 5 (by kernel_rfl))
        · intro listed a' w' hw hd K hK
          have hv51 : a'.tmps.getD 51 undef = Value.slice A5 m1 c5 := (hw.at_ 0 51 rfl (hd ⟨0, .data⟩ (by simp) rfl))
          have cs := HC1.out w' (D0.out.trans hw.below)
          refine step_free rfl ?_
          unfold Oper.wp
          simp only [execOp]
          go_simp
          exact hK _ _ (Below.refl _ _) (fun s hs => by cases hs; rfl)
        · intro listed a' w' hw hd K hK
          refine step_free rfl ?_
          apply wp_move
          exact hK _ _ (Below.refl _ _) (fun s hs => by cases hs; exact hw.kept 7 (by kernel_rfl))
        · intro listed a' w' hw hd K hK
          have hv53 : a'.tmps.getD 53 undef = Value.slice A6 m2 c6 := (hw.at_ 2 53 rfl (hd ⟨2, .data⟩ (by simp) rfl))
          have cs := HC2.out w' (D0.out.trans hw.below)
          refine step_free rfl ?_
          unfold Oper.wp
          simp only [execOp]
          go_simp
          exact hK _ _ (Below.refl _ _) (fun s hs => by cases hs; rfl)
        · intro listed a' w' hw hd K hK
          have hv52 : a'.tmps.getD 52 undef = Value.string sa := (hw.at_ 1 52 rfl (hd ⟨1, .data⟩ (by simp) rfl))
          have hv54 : a'.tmps.getD 54 undef = Value.string sb := (hw.at_ 3 54 rfl (hd ⟨3, .data⟩ (by simp) rfl))
          have hq := HQ.out
          refine step_free rfl ?_
          unfold Oper.wp
          simp only [execOp]
          go_simp
          exact hK _ _ (Below.refl _ _) (fun s hs => by cases hs; rfl)
        · intro listed a' w' hw hd K hK
          have hv2 := hw.kept 2 (by kernel_rfl)
          obtain ⟨k0, k1, k2, k3, k4, k5, k6, k7, k8, k9⟩ := (KF.out.below hw.below)
          refine step_free rfl ?_
          unfold Oper.wp
          simp only [execOp]
          go_simp
          exact hK _ _ (Below.refl _ _) (fun s hs => by cases hs; rfl)
        · intro listed a' w' hw hd K hK
          have hv3 := hw.kept 3 (by kernel_rfl)
          obtain ⟨j0, j1, j2, j3, j4, j5, j6, j7, j8, j9⟩ := (KG.out.below hw.below)
          refine step_free rfl ?_
          unfold Oper.wp
          simp only [execOp]
          go_simp
          exact hK _ _ (Below.refl _ _) (fun s hs => by cases hs; rfl)
        · intro listed a' w' hw hd K hK
          have hv56 : a'.tmps.getD 56 undef = .agg #[.int .i64 k, .int .i64 s, .int .u64 t, .int .i64 h, .slice H nh ch, .slice A n cap, .int .i64 x, .int .u64 y, .int .u64 (z : Int), .slice P np cp] := (hw.at_ 5 56 rfl (hd ⟨5, .data⟩ (by simp) rfl))
          have hv57 : a'.tmps.getD 57 undef = .agg #[.int .i64 kk, .int .i64 ss, .int .u64 tt, .int .i64 hh, .slice HH nnh cch, .slice AA nn ccap, .int .i64 xx, .int .u64 yy, .int .u64 (zz : Int), .slice PP nnp ccp] := (hw.at_ 6 57 rfl (hd ⟨6, .data⟩ (by simp) rfl))
          refine step_free rfl ?_
          unfold Oper.wp
          simp only [execOp]
          go_simp
          refine (HS.out w' (ktr BD.out hw.below)).mono ?_
          rintro e w2 ⟨rfl, hb2⟩
          exact hK _ _ hb2.out (fun s hs => by cases hs; rfl)
        · intro listed a' w' hw hd K hK
          have hv55 : a'.tmps.getD 55 undef = .bool ds := (hw.at_ 4 55 rfl (hd ⟨4, .data⟩ (by simp) rfl))
          have hv58 : a'.tmps.getD 58 undef = .bool ds := (hw.at_ 7 58 rfl (hd ⟨7, .data⟩ (by simp) rfl))
          have e1 : (ds == ds) = true := by simp
          refine step_free rfl ?_
          unfold Oper.wp
          simp only [execOp]
          go_simp
          exact hK _ _ (Below.refl _ _) (fun s hs => by cases hs; rfl)
        · intro listed a' w' hw hd K hK
          refine step_free rfl ?_
          apply wp_move
          exact hK _ _ (Below.refl _ _) (fun s hs => by cases hs; exact (hw.at_ 8 59 rfl (hd ⟨8, .data⟩ (by simp) rfl)))
        · intro listed a' w' hw hd K hK
          have hgd : a'.tmps.getD 60 undef = .bool true := (hw.at_ 9 60 rfl (hd ⟨9, .guard⟩ (by simp) rfl))
          refine step_guarded (j := 9) (b := true) (s := 60) rfl rfl (by rw [hw.size]; exact Nat.lt_of_lt_of_eq (show 60 < 63 by omega) rfl) hgd ?_
          unfold Oper.wp
          simp only [execOp]
          go_simp
          refine (awake6_any w').mono ?_
          rintro e w2 ⟨rfl, hb2⟩
          exact hK _ _ hb2.out (fun s hs => by cases hs; rfl)
        · intro listed a' w' hw hd K hK
          have hv60 : a'.tmps.getD 60 undef = .bool true := (hw.at_ 9 60 rfl (hd ⟨9, .data⟩ (by simp) rfl))
          have hv61 : a'.tmps.getD 61 undef = .bool true := (hw.at_ 10 61 rfl (hd ⟨10, .data⟩ (by simp) rfl))
          refine step_free rfl ?_
          unfold Oper.wp
          simp only [execOp]
          go_simp
          exact hK _ _ (Below.refl _ _) (fun s hs => by cases hs; rfl)
        · intro listed a' w' hw hd K hK
          refine step_free rfl ?_
          apply wp_assign
          exact hK _ _ (Below.refl _ _) (fun s hs => by cases hs; exact (hw.at_ 11 62 rfl (hd ⟨11, .data⟩ (by simp) rfl)))
      · intro listed a' w' hw hall
        have hk4 : a'.tmps.getD 4 undef = .bool true := hw.at_ 12 4 rfl (hall 12 (Nat.lt_of_lt_of_eq (show 12 < 13 by omega) rfl))
        have hbF : Hid (Below w.heap.size w w') := Lib.hid (ktr BD.out hw.below)
        have hp := hw.puts [51, 52, 53, 54, 55, 56, 57, 58, 59, 60, 61, 62, 4] (by kernel_rfl)
        clear hw hall
        rw [hp]
        simp only [List.foldl_cons, List.foldl_nil, hk4]
        generalize a'.tmps.getD 51 undef = u51
        generalize a'.tmps.getD 52 undef = u52
        generalize a'.tmps.getD 53 undef = u53
        generalize a'.tmps.getD 54 undef = u54
        generalize a'.tmps.getD 55 undef = u55
        generalize a'.tmps.getD 56 undef = u56
        generalize a'.tmps.getD 57 undef = u57
        generalize a'.tmps.getD 58 undef = u58
        generalize a'.tmps.getD 59 undef = u59
        generalize a'.tmps.getD 60 undef = u60
        generalize a'.tmps.getD 61 undef = u61
        generalize a'.tmps.getD 62 undef = u62
        clear hp hk4
        simp only [Act.put, List.setIfInBounds_toArray, List.set_cons_succ, List.set_cons_zero]
        go_wp2
        go_ret
        exact ⟨rfl, hbF⟩
theorem kapart_walk (p : Pk) (A0 : Option Addr) (c0 : Nat) (A1 : Option Addr) (c1 : Nat) (A2 : Option Addr) (c2 : Nat) (q : Pk) (D0 : Option Addr) (d0 : Nat) (D1 : Option Addr) (d1 : Nat) (D2 : Option Addr) (d2 : Nat) (w : World) (hi : PkIn w w.heap.size p A0 c0 A1 c1 A2 c2) (hk : PkOk p) (hi2 : PkIn w w.heap.size q D0 d0 D1 d1 D2 d2) (hk2 : PkOk q) :
    Calls Try.prog 8 #[pkV p A0 c0 A1 c1 A2 c2, pkV q D0 d0 D1 d1 D2 d2] w fun e w' => e = .returned (.bool true) ∧ Hid (Below w.heap.size w w') :=
  kapart_int _ _ _ _ _ _ _ A0 A1 A2 _ c0 _ c1 _ c2 p.heads p.body p.peers _ _ _ _ _ _ _ D0 D1 D2 _ d0 _ d1 _ d2 q.heads q.body q.peers w (hi.pin hk) hk.2.1.2.1 hk.2.2.2.2.1.2.1 (hi2.pin hk2) hk2.2.1.2.1 hk2.2.2.2.2.1.2.1
end Go.Proofs.Ytlcddfkhklmieaa
