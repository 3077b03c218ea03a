/-
  The statement PacketBytes's walk: whatever packet, it answers true, and leaves all that was there as it was. No condition.
-/
import Derived.Test.YtlcddfkhklmieaaKback
import Derived.Test.YtlcddfkhklmieaaKbytesa
import Derived.Test.YtlcddfkhklmieaaKrown
import Derived.Test.YtlcddfkhklmieaaGa
namespace Go.Proofs.Ytlcddfkhklmieaa
set_option maxRecDepth 20000
open Go.RowKit

theorem KBox.only {b : Nat} {k s t h x y z : Int} {H A P : Option Addr} {nh ch n cap np cp : Nat} {w w' : World} {S : Nat → Prop} (hk : KBox b k s t h x y z H A P nh ch n cap np cp w) (ho : Only S w w') (hn : ¬ S b) : KBox b k s t h x y z H A P nh ch n cap np cp w' := by
  have hb : b < w.heap.size := World.block_lt_of_cell? _ _ hk.1
  obtain ⟨k0, k1, k2, k3, k4, k5, k6, k7, k8, k9⟩ := hk
  exact ⟨(ho.cell (p := ⟨b, 0, none⟩) hb hn).trans k0, (ho.cell (p := ⟨b, 1, none⟩) hb hn).trans k1, (ho.cell (p := ⟨b, 2, none⟩) hb hn).trans k2, (ho.cell (p := ⟨b, 3, none⟩) hb hn).trans k3, (ho.cell (p := ⟨b, 4, none⟩) hb hn).trans k4, (ho.cell (p := ⟨b, 5, none⟩) hb hn).trans k5, (ho.cell (p := ⟨b, 6, none⟩) hb hn).trans k6, (ho.cell (p := ⟨b, 7, none⟩) hb hn).trans k7, (ho.cell (p := ⟨b, 8, none⟩) hb hn).trans k8, (ho.cell (p := ⟨b, 9, none⟩) hb hn).trans k9⟩
def KBytP (L : List UInt8) (m : Nat) (w : World) (v : Value) : Prop := ∃ A c, v = .slice A m c ∧ Own8 w 0 A m c L
theorem KBytP.mono {L : List UInt8} {m : Nat} {w w' : World} {v : Value} (hb : Below w.heap.size w w') (h : KBytP L m w v) : KBytP L m w' v := by
  obtain ⟨A, c, e, ho⟩ := h
  exact ⟨A, c, e, own8_on ho hb⟩
def KByG (k s t h x y : Int) (z : Nat) (H1 A1 P1 : Option Addr) (nh ch1 n ca1 np cp1 : Nat) (A5 : Option Addr) (c5 m : Nat) (sa : ByteArray) (L : List UInt8) (i : Nat) (w : World) (v : Value) : Prop :=
  match i with
  | 0 => v = .int .i64 0
  | 1 => v = .bool false
  | 2 => v = .bool false
  | 3 => v = Value.slice A5 m c5
  | 4 => v = Value.string sa
  | 5 => v = .agg #[.int .i64 k, .int .i64 s, .int .u64 t, .int .i64 h, .slice H1 nh ch1, .slice A1 n ca1, .int .i64 x, .int .u64 y, .int .u64 (z : Int), .slice P1 np cp1]
  | 6 => KBytP L m w v
  | 7 => v = Value.string sa
  | 8 => v = .bool false
  | _ => v = .bool false
theorem KByG.mono {k s t h x y : Int} {z : Nat} {H1 A1 P1 : Option Addr} {nh ch1 n ca1 np cp1 : Nat} {A5 : Option Addr} {c5 m : Nat} {sa : ByteArray} {L : List UInt8} {i : Nat} {v : Value} {w w' : World} (hb : Below w.heap.size w w') (hg : KByG k s t h x y z H1 A1 P1 nh ch1 n ca1 np cp1 A5 c5 m sa L i w v) : KByG k s t h x y z H1 A1 P1 nh ch1 n ca1 np cp1 A5 c5 m sa L i w' v := by
  unfold KByG at *
  split at hg <;> first | exact hg | exact KBytP.mono hb hg
set_option maxHeartbeats 8000000 in
theorem kbytes_int (k s t h x y : Int) (z : Nat) (H A P : Option Addr) (nh ch n cap np cp : Nat) (hs : List Hd) (bd : List UInt8) (ps : List Life) (w : World) (hi : PIn w w.heap.size hs bd ps H nh A n cap P np cp) (hch : H = none → ch = 0) (ht : 0 ≤ t) (hy : 0 ≤ y) :
    Calls Try.prog 4 #[.agg #[.int .i64 k, .int .i64 s, .int .u64 t, .int .i64 h, .slice H nh ch, .slice A n cap, .int .i64 x, .int .u64 y, .int .u64 (z : Int), .slice P np cp]] w fun e w' => e = .returned (.bool true) ∧ Hid (Below w.heap.size w w') := by
  have mixed : Try.prog.follows .mixedOrders = true := by kernel_rfl
  have K1 := Lib.hid (kbox_new (k := k) (s := s) (t := t) (h := h) (x := x) (y := y) (z := (z : Int)) (H := H) (A := A) (P := P) (nh := nh) (ch := ch) (n := n) (cap := cap) (np := np) (cp := cp) (w := w) 31)
  have B1 := Lib.hid (kbelow_box w (.cells #[.int .i64 k, .int .i64 s, .int .u64 t, .int .i64 h, .slice H nh ch, .slice A n cap, .int .i64 x, .int .u64 y, .int .u64 (z : Int), .slice P np cp] 31))
  have HI0 := Lib.hid hi
  clear hi
  go_enter Try.func4, Try.ntmps4
  obtain ⟨k0, k1, k2, k3, k4, k5, k6, k7, k8, k9⟩ := K1.out
  go_wp2_with fail
  generalize w.alloc (.cells #[.int .i64 k, .int .i64 s, .int .u64 t, .int .i64 h, .slice H nh ch, .slice A n cap, .int .i64 x, .int .u64 y, .int .u64 (z : Int), .slice P np cp] 31) = W1 at *
  clear k0 k1 k2 k3 k4 k5 k6 k7 k8 k9
  refine (long_any k s t h x y z H A P nh ch n cap np cp W1).mono ?_
  rintro en W2 ⟨rfl, hb⟩
  have K2 := Lib.hid (K1.out.below hb.out)
  have B2 := Lib.hid (ktr B1.out hb.out)
  clear K1
  by_cases hlg : 1000 < nh ∨ 300 < np ∨ 65536 < n
  · rw [decide_eq_true hlg]
    clear hlg
    go_wp2_with fail
    refine (awake6_any _).mono ?_
    rintro en W3 ⟨rfl, hb⟩
    have K3 := Lib.hid (K2.out.below hb.out)
    have B3 := Lib.hid (ktr B2.out hb.out)
    clear K2
    go_wp2
    go_ret
    exact ⟨rfl, B3⟩
  rw [decide_eq_false hlg]
  have HX := Lib.hid (show nh ≤ 1000 ∧ np ≤ 300 ∧ n ≤ 65536 by omega)
  clear hlg
  obtain ⟨k0, k1, k2, k3, k4, k5, k6, k7, k8, k9⟩ := K2.out
  go_wp2_with fail
  clear k0 k1 k2 k3 k4 k5 k6 k7 k8 k9
  have hiw := ((HI0.out.below B2.out).more B2.out.size)
  refine (rkown_any k s t h x y z H A P nh ch n cap np cp W2.heap.size hs bd ps W2 hiw.heads hiw.body hiw.peers (Nat.le_refl _) hiw.hlen hiw.blen hiw.plen hch hiw.bcap hiw.pcap (by have := HX.out; omega) (by have := HX.out; omega) (by have := HX.out; omega)).mono ?_
  rintro en W3 ⟨H1, ch1, A1, ca1, P1, cp1, rfl, hoh, ho8, hop, hb⟩
  clear hiw
  have K3 := Lib.hid (K2.out.below hb.out)
  have B3 := Lib.hid (ktr B2.out hb.out)
  have U3 := Lib.hid (hoh.out)
  have V3 := Lib.hid (ho8.out)
  have Y3 := Lib.hid (hop.out)
  clear K2
  clear hb hoh ho8 hop
  have HB3 := Lib.hid (show w.heap.size < W3.heap.size from K3.out.lt)
  have HLH := Lib.hid (fun j (e : blockOf H1 = some j) => (by rcases U3.out.form with ⟨h1, _⟩ | ⟨g, h1, _, h2⟩; (rw [h1] at e; cases e); (rw [h1] at e; cases e; exact h2) : j < W3.heap.size))
  have HLV := Lib.hid (fun j (e : blockOf A1 = some j) => (V3.out.lt e).2)
  have HLY := Lib.hid (fun j (e : blockOf P1 = some j) => (by rcases Y3.out.form with ⟨h1, _⟩ | ⟨g, h1, _, h2⟩; (rw [h1] at e; cases e); (rw [h1] at e; cases e; exact h2) : j < W3.heap.size))
  have hbx := kbelow_box W3 (.cells #[.int .i64 k, .int .i64 s, .int .u64 t, .int .i64 h, .slice H1 nh ch1, .slice A1 n ca1, .int .i64 x, .int .u64 y, .int .u64 (z : Int), .slice P1 np cp1] 31)
  have U4 := Lib.hid (U3.out.on hbx)
  have Y4 := Lib.hid (Y3.out.on hbx)
  have K4 := Lib.hid (K3.out.below hbx)
  have V4 := Lib.hid (own8_on V3.out hbx)
  have B4 := Lib.hid (ktr B3.out hbx)
  have G4 := Lib.hid (kbox_new (k := k) (s := s) (t := t) (h := h) (x := x) (y := y) (z := (z : Int)) (H := H1) (A := A1) (P := P1) (nh := nh) (ch := ch1) (n := n) (cap := ca1) (np := np) (cp := cp1) (w := W3) 31)
  clear K3 V3
  clear U3
  clear Y3
  clear hbx
  have hdd := trivial
  clear hdd
  obtain ⟨k0, k1, k2, k3, k4, k5, k6, k7, k8, k9⟩ := K4.out
  go_wp2_with fail
  generalize W3.alloc (.cells #[.int .i64 k, .int .i64 s, .int .u64 t, .int .i64 h, .slice H1 nh ch1, .slice A1 n ca1, .int .i64 x, .int .u64 y, .int .u64 (z : Int), .slice P1 np cp1] 31) = W4 at *
  generalize W3.heap.size = wb at *
  clear k0 k1 k2 k3 k4 k5 k6 k7 k8 k9
  refine (enc_at (k := k) (s := s) (t := t) (h := h) (x := x) (y := y) (z := z) (ch := ch) ((HI0.out.below B4.out).more B4.out.size) (Nat.le_refl _) ht hy (by have := HX.out; omega) (by have := HX.out; omega)).mono ?_
  rintro en W5 ⟨hb, h⟩
  have HB4 := Lib.hid (show w.heap.size ≤ W4.heap.size from B4.out.size)
  have HWB := Lib.hid (Nat.lt_of_lt_of_le (World.block_lt_of_cell? _ _ G4.out.1) (Nat.le_refl _))
  simp only at HWB
  have HSZ := Lib.hid (show W4.heap.size ≤ W5.heap.size from hb.out.size)
  have U5 := Lib.hid (U4.out.on hb.out)
  have Y5 := Lib.hid (Y4.out.on hb.out)
  have K5 := Lib.hid (K4.out.below hb.out)
  have V5 := Lib.hid (own8_on V4.out hb.out)
  have G5 := Lib.hid (G4.out.below hb.out)
  have B5 := Lib.hid (ktr B4.out hb.out)
  clear K4 V4 G4
  clear U4
  clear Y4
  clear hb
  obtain ⟨k0, k1, k2, k3, k4, k5, k6, k7, k8, k9⟩ := G5.out
  rcases h with ⟨hm, rfl⟩ | ⟨hm, A5, c5, rfl, ho⟩
  · have HM := Lib.hid hm
    clear hm
    go_wp2_with fail
    clear k0 k1 k2 k3 k4 k5 k6 k7 k8 k9
    refine (rmay_at (k := k) (s := s) (t := t) (h := h) (x := x) (y := y) (z := z) (ch := ch1) (show PIn W5 W5.heap.size hs bd ps H1 nh A1 n ca1 P1 np cp1 from ⟨U5.out.heads, V5.out.bytes, Y5.out.lives, HI0.out.hlen, HI0.out.blen, HI0.out.plen, V5.out.none_cap, Y5.out.none_cap, HI0.out.pos⟩) (Nat.le_refl _) ht hy (by have := HX.out; omega) (by have := HX.out; omega)).mono ?_
    rintro en W6 ⟨rfl, hb⟩
    rw [decide_eq_false HM.out]
    have U6 := Lib.hid (U5.out.on hb.out)
    have Y6 := Lib.hid (Y5.out.on hb.out)
    have K6 := Lib.hid (K5.out.below hb.out)
    have V6 := Lib.hid (own8_on V5.out hb.out)
    have G6 := Lib.hid (G5.out.below hb.out)
    have B6 := Lib.hid (ktr B5.out hb.out)
    clear K5 V5 G5
    clear U5
    clear Y5
    clear hb
    go_wp2_with fail
    refine (awake6_any _).mono ?_
    rintro en W7 ⟨rfl, hb⟩
    have U7 := Lib.hid (U6.out.on hb.out)
    have Y7 := Lib.hid (Y6.out.on hb.out)
    have K7 := Lib.hid (K6.out.below hb.out)
    have V7 := Lib.hid (own8_on V6.out hb.out)
    have G7 := Lib.hid (G6.out.below hb.out)
    have B7 := Lib.hid (ktr B6.out hb.out)
    clear K6 V6 G6
    clear U6
    clear Y6
    go_wp2
    go_ret
    exact ⟨rfl, B7⟩
  · have HM := Lib.hid hm
    have Q5 := Lib.hid ho.out
    clear hm ho
    go_wp2_with fail
    clear k0 k1 k2 k3 k4 k5 k6 k7 k8 k9
    refine (rmay_at (k := k) (s := s) (t := t) (h := h) (x := x) (y := y) (z := z) (ch := ch1) (show PIn W5 W5.heap.size hs bd ps H1 nh A1 n ca1 P1 np cp1 from ⟨U5.out.heads, V5.out.bytes, Y5.out.lives, HI0.out.hlen, HI0.out.blen, HI0.out.plen, V5.out.none_cap, Y5.out.none_cap, HI0.out.pos⟩) (Nat.le_refl _) ht hy (by have := HX.out; omega) (by have := HX.out; omega)).mono ?_
    rintro en W6 ⟨rfl, hb⟩
    rw [decide_eq_true HM.out]
    have U6 := Lib.hid (U5.out.on hb.out)
    have Y6 := Lib.hid (Y5.out.on hb.out)
    have K6 := Lib.hid (K5.out.below hb.out)
    have V6 := Lib.hid (own8_on V5.out hb.out)
    have G6 := Lib.hid (G5.out.below hb.out)
    have Q6 := Lib.hid (own8_on Q5.out hb.out)
    have B6 := Lib.hid (ktr B5.out hb.out)
    clear K5 V5 G5 Q5
    clear U5
    clear Y5
    clear hb
    have HBY := Lib.hid (fun W (hb : Below W6.heap.size W6 W) => rkbytes_at (ch := ch1) HM.out (show PIn W W.heap.size hs bd ps H1 nh A1 n ca1 P1 np cp1 from ⟨(U6.out.on hb).heads, (own8_on V6.out hb).bytes, (Y6.out.on hb).lives, HI0.out.hlen, HI0.out.blen, HI0.out.plen, V6.out.none_cap, Y6.out.none_cap, HI0.out.pos⟩))
    have HP0 := Lib.hid (show 0 < (packetL ((⟨k, (s, t), h, hs, bd, (x, y), z, ps⟩) : Pk)).length by unfold packetL; simp)
    have H448 := packetL_le HM.out
    generalize packetL ((⟨k, (s, t), h, hs, bd, (x, y), z, ps⟩) : Pk) = L at *
    generalize hml : L.length = m at *
    have HML := Lib.hid hml
    clear hml
    unfold BytesE at HBY
    rw [HML.out] at HBY
    obtain ⟨sa, hsa⟩ : ∃ sa : ByteArray, (⟨L.toArray⟩ : ByteArray) = sa := ⟨_, rfl⟩
    have HSA := Lib.hid hsa
    clear hsa
    have HQ := Lib.hid (show (sa.toList != sa.toList) = false from by simp)
    have D0 : Hid (Below W6.heap.size W6 W6.drew) := Lib.hid ⟨rfl, rfl, rfl, Nat.le_refl _, fun _ _ => rfl⟩
    have KK : Hid (Own8 W6.drew W4.heap.size A5 m c5 L) := Q6
    have KF : Hid (KBox w.heap.size k s t h x y (z : Int) H A P nh ch n cap np cp W6.drew) := K6
    have KG : Hid (KBox wb k s t h x y (z : Int) H1 A1 P1 nh ch1 n ca1 np cp1 W6.drew) := G6
    have KU : Hid (OwnH W6.drew W2.heap.size H1 nh ch1 hs) := U6
    have KV : Hid (Own8 W6.drew W2.heap.size A1 n ca1 bd) := V6
    have KY : Hid (OwnP W6.drew W2.heap.size P1 np cp1 ps) := Y6
    have BD : Hid (Below w.heap.size w W6.drew) := Lib.hid (ktr B6.out D0.out)
    clear Q6 K6 G6 U6 V6 Y6 HM
    go_wp2_with fail
    refine region_steps (n := 58) (KByG k s t h x y z H1 A1 P1 nh ch1 n ca1 np cp1 A5 c5 m sa L) (by kernel_rfl) (by kernel_rfl) rfl (fun _ _ _ _ hb h => KByG.mono hb h) ?_ ?_
    · refine And.intro ?_ (And.intro ?_ (And.intro ?_ (And.intro ?_ (And.intro ?_ (And.intro ?_ (And.intro ?_ (And.intro ?_ (And.intro ?_ (And.intro ?_ (True.intro))))))))))
      · intro listed a' w' hw hd K hK
        refine step_free rfl ?_
        apply wp_move
        exact hK _ _ (Below.refl _ _) (fun s hs => by cases hs; exact hw.kept 5 (by kernel_rfl))
      · intro listed a' w' hw hd K hK
        have hv30 : a'.tmps.getD 30 undef = .int .i64 0 := (hw.at_ 0 30 rfl (hd ⟨0, .data⟩ (by simp) rfl))
        refine step_free rfl ?_
        unfold Oper.wp
        simp only [execOp]
        go_simp
        exact hK _ _ (Below.refl _ _) (fun s hs => by cases hs; rfl)
      · intro listed a' w' hw hd K hK
        refine step_free rfl ?_
        apply wp_move
        exact hK _ _ (Below.refl _ _) (fun s hs => by cases hs; exact (hw.at_ 1 31 rfl (hd ⟨1, .data⟩ (by simp) rfl)))
      · intro listed a' w' hw hd K hK
        have hgd : a'.tmps.getD 32 undef = .bool false := (hw.at_ 2 32 rfl (hd ⟨2, .guard⟩ (by simp) rfl))
        refine step_guarded (j := 2) (b := false) (s := 32) rfl rfl (by rw [hw.size]; exact Nat.lt_of_lt_of_eq (show 32 < 58 by omega) rfl) hgd ?_
        apply wp_move
        exact hK _ _ (Below.refl _ _) (fun s hs => by cases hs; exact hw.kept 4 (by kernel_rfl))
      · intro listed a' w' hw hd K hK
        have hgd : a'.tmps.getD 32 undef = .bool false := (hw.at_ 2 32 rfl (hd ⟨2, .guard⟩ (by simp) rfl))
        have hv33 : a'.tmps.getD 33 undef = Value.slice A5 m c5 := (hw.at_ 3 33 rfl (hd ⟨3, .data⟩ (by simp) rfl))
        have cs := conv_str c5 (own8_on KK.out hw.below).bytes HML.out
        rw [HSA.out] at cs
        refine step_guarded (j := 2) (b := false) (s := 32) rfl rfl (by rw [hw.size]; exact Nat.lt_of_lt_of_eq (show 32 < 58 by omega) rfl) hgd ?_
        unfold Oper.wp
        simp only [execOp]
        go_simp
        exact hK _ _ (Below.refl _ _) (fun s hs => by cases hs; rfl)
      · intro listed a' w' hw hd K hK
        have hgd : a'.tmps.getD 32 undef = .bool false := (hw.at_ 2 32 rfl (hd ⟨2, .guard⟩ (by simp) rfl))
        have hv3 := hw.kept 3 (by kernel_rfl)
        obtain ⟨k0, k1, k2, k3, k4, k5, k6, k7, k8, k9⟩ := (KG.out.below hw.below)
        refine step_guarded (j := 2) (b := false) (s := 32) rfl rfl (by rw [hw.size]; exact Nat.lt_of_lt_of_eq (show 32 < 58 by omega) rfl) hgd ?_
        unfold Oper.wp
        simp only [execOp]
        go_simp
        exact hK _ _ (Below.refl _ _) (fun s hs => by cases hs; rfl)
      · intro listed a' w' hw hd K hK
        have hgd : a'.tmps.getD 32 undef = .bool false := (hw.at_ 2 32 rfl (hd ⟨2, .guard⟩ (by simp) rfl))
        have hv35 : a'.tmps.getD 35 undef = .agg #[.int .i64 k, .int .i64 s, .int .u64 t, .int .i64 h, .slice H1 nh ch1, .slice A1 n ca1, .int .i64 x, .int .u64 y, .int .u64 (z : Int), .slice P1 np cp1] := (hw.at_ 5 35 rfl (hd ⟨5, .data⟩ (by simp) rfl))
        refine step_guarded (j := 2) (b := false) (s := 32) rfl rfl (by rw [hw.size]; exact Nat.lt_of_lt_of_eq (show 32 < 58 by omega) rfl) hgd ?_
        unfold Oper.wp
        simp only [execOp]
        go_simp
        refine (HBY.out w' (D0.out.trans hw.below)).mono ?_
        rintro en w2 ⟨A9, c9, rfl, ho9, hb2⟩
        exact hK _ _ hb2.out (fun s hs => by cases hs; exact ⟨A9, c9, rfl, ho9.out.lower (Nat.zero_le _)⟩)
      · intro listed a' w' hw hd K hK
        have hgd : a'.tmps.getD 32 undef = .bool false := (hw.at_ 2 32 rfl (hd ⟨2, .guard⟩ (by simp) rfl))
        have hv36 : KBytP L m w' (a'.tmps.getD 36 undef) := (hw.at_ 6 36 rfl (hd ⟨6, .data⟩ (by simp) rfl))
        obtain ⟨A9, c9, e9, ho9⟩ := hv36
        have cs := conv_str c9 ho9.bytes HML.out
        rw [HSA.out] at cs
        refine step_guarded (j := 2) (b := false) (s := 32) rfl rfl (by rw [hw.size]; exact Nat.lt_of_lt_of_eq (show 32 < 58 by omega) rfl) hgd ?_
        unfold Oper.wp
        simp only [execOp]
        go_simp
        exact hK _ _ (Below.refl _ _) (fun s hs => by cases hs; rfl)
      · intro listed a' w' hw hd K hK
        have hgd : a'.tmps.getD 32 undef = .bool false := (hw.at_ 2 32 rfl (hd ⟨2, .guard⟩ (by simp) rfl))
        have hv34 : a'.tmps.getD 34 undef = Value.string sa := (hw.at_ 4 34 rfl (hd ⟨4, .data⟩ (by simp) rfl))
        have hv37 : a'.tmps.getD 37 undef = Value.string sa := (hw.at_ 7 37 rfl (hd ⟨7, .data⟩ (by simp) rfl))
        have hq := HQ.out
        refine step_guarded (j := 2) (b := false) (s := 32) rfl rfl (by rw [hw.size]; exact Nat.lt_of_lt_of_eq (show 32 < 58 by omega) rfl) hgd ?_
        unfold Oper.wp
        simp only [execOp]
        go_simp
        exact hK _ _ (Below.refl _ _) (fun s hs => by cases hs; rfl)
      · intro listed a' w' hw hd K hK
        have hv32 : a'.tmps.getD 32 undef = .bool false := (hw.at_ 2 32 rfl (hd ⟨2, .data⟩ (by simp) rfl))
        have hv38 : a'.tmps.getD 38 undef = .bool false := (hw.at_ 8 38 rfl (hd ⟨8, .data⟩ (by simp) rfl))
        refine step_free rfl ?_
        unfold Oper.wp
        simp only [execOp]
        go_simp
        exact hK _ _ (Below.refl _ _) (fun s hs => by cases hs; rfl)
    · intro listed a' w' hw hall
      have hk39 : a'.tmps.getD 39 undef = .bool false := hw.at_ 9 39 rfl (hall 9 (Nat.lt_of_lt_of_eq (show 9 < 10 by omega) rfl))
      have F6 := Lib.hid (KF.out.below hw.below)
      have G6 := Lib.hid (KG.out.below hw.below)
      have Q6 := Lib.hid (own8_on KK.out hw.below)
      have U6 := Lib.hid (KU.out.on hw.below)
      have V6 := Lib.hid (own8_on KV.out hw.below)
      have Y6 := Lib.hid (KY.out.on hw.below)
      have B6 := Lib.hid (ktr BD.out hw.below)
      have hsz6 := hw.below.size
      have hp := hw.puts [30, 31, 32, 33, 34, 35, 36, 37, 38, 39] (by kernel_rfl)
      clear hw hall
      rw [hp]
      simp only [List.foldl_cons, List.foldl_nil, hk39]
      generalize a'.tmps.getD 30 undef = u30
      generalize a'.tmps.getD 31 undef = u31
      generalize a'.tmps.getD 32 undef = u32
      generalize a'.tmps.getD 33 undef = u33
      generalize a'.tmps.getD 34 undef = u34
      generalize a'.tmps.getD 35 undef = u35
      generalize a'.tmps.getD 36 undef = u36
      generalize a'.tmps.getD 37 undef = u37
      generalize a'.tmps.getD 38 undef = u38
      clear hp hk39
      simp only [Act.put, List.setIfInBounds_toArray, List.set_cons_succ, List.set_cons_zero]
      clear KF KG KK KU KV KY BD HBY D0
      generalize hw6 : w' = W6 at *
      clear hw6
      go_wp2_with fail
      obtain ⟨g, rfl, hg1, hg2, hsom⟩ := own8_some Q6.out HP0.out
      have HG1 := Lib.hid hg1
      have HSM := Lib.hid hsom
      clear hg2 hsom Q6
      go_loopw [6] (fun i wr => ∃ j : Nat, j ≤ m ∧ i = .int .i64 (j : Nat) ∧ Hid (SomK wr g m) ∧ Hid (Only (fun q => q = g) W6 wr)) (fun i _ => m - (intOf i).toNat)
      case atStart => exact ⟨0, by omega, rfl, HSM, Lib.hid (Only.refl _ _)⟩
      case round =>
        obtain ⟨j, hj, rfl, hsm, hon⟩ := hrel
        by_cases hlt : j < m
        · obtain ⟨xx, hcell, hfz⟩ := hsm.out j hlt
          have C1 := Lib.hid (hsm.out.set_ (j := j) ((xx + 1) % 256))
          have C2 := Lib.hid (hon.out.setCell (p := ⟨g, j, none⟩) (.inl rfl) (.int .u8 ((xx + 1) % 256)))
          clear hsm hon
          go_wp2
          go_roundw
          case rel => exact ⟨j + 1, by omega, by go_num, C1, C2⟩
          case measure => simp [intOf]; omega
        · obtain rfl : j = m := by omega
          have hga := HG1.out
          have F7 := Lib.hid (F6.out.only hon.out (by have := HWB.out; have := HB3.out; omega))
          have G7 := Lib.hid (G6.out.only hon.out (by have := HWB.out; omega))
          have U7 := Lib.hid (U6.out.keep hon.out (fun i hi e => by have := HLH.out i hi; have := HWB.out; omega))
          have V7 := Lib.hid (V6.out.keep hon.out (fun i hi e => by have := HLV.out i hi; have := HWB.out; omega))
          have Y7 := Lib.hid (Y6.out.keep hon.out (fun i hi e => by have := HLY.out i hi; have := HWB.out; omega))
          have B7 := Lib.hid (hon.out.below B6.out (fun i hi => by have := HB4.out; omega) B6.out.size)
          clear F6 G6 U6 V6 Y6 B6 hsm hon HG1 hga
          obtain ⟨k0, k1, k2, k3, k4, k5, k6, k7, k8, k9⟩ := F7.out
          obtain ⟨j0, j1, j2, j3, j4, j5, j6, j7, j8, j9⟩ := G7.out
          have HI7 := Lib.hid ((HI0.out.below B7.out).more B7.out.size)
          have HJ7 := Lib.hid (show PIn wr wr.heap.size hs bd ps H1 nh A1 n ca1 P1 np cp1 from ⟨U7.out.heads, V7.out.bytes, Y7.out.lives, HI0.out.hlen, HI0.out.blen, HI0.out.plen, V7.out.none_cap, Y7.out.none_cap, HI0.out.pos⟩)
          go_wp2_with fail
          refine (same_at (k := k) (s := s) (t := t) (h := h) (x := x) (y := y) (z := z) (ch := ch) (k' := k) (s' := s) (t' := t) (h' := h) (x' := x) (y' := y) (z' := z) (ch' := ch1) HI7.out HJ7.out (Nat.le_refl _) (by have := HX.out; omega) (by have := HX.out; omega) (by have := HX.out; omega)).mono ?_
          rintro en W8 ⟨rfl, hb8⟩
          simp only [decide_true]
          have B8 := Lib.hid (ktr B7.out hb8.out)
          go_wp2_with fail
          refine (awake6_any _).mono ?_
          rintro en W9 ⟨rfl, hb9⟩
          go_wp2
          go_ret
          exact ⟨rfl, Lib.hid (ktr B8.out hb9.out)⟩
theorem kbytes_walk (p : Pk) (A0 : Option Addr) (c0 : Nat) (A1 : Option Addr) (c1 : Nat) (A2 : Option Addr) (c2 : Nat) (w : World) (hi : PkIn w w.heap.size p A0 c0 A1 c1 A2 c2) (hk : PkOk p) :
    Calls Try.prog 4 #[pkV p A0 c0 A1 c1 A2 c2] w fun e w' => e = .returned (.bool true) ∧ Hid (Below w.heap.size w w') :=
  kbytes_int _ _ _ _ _ _ _ A0 A1 A2 _ c0 _ c1 _ c2 p.heads p.body p.peers w (hi.pin hk) hi.cap0 hk.2.1.2.1 hk.2.2.2.2.1.2.1
end Go.Proofs.Ytlcddfkhklmieaa
