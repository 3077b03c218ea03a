/-
  The statement FrameBack's walk: whatever frame, it answers true, and leaves all that was there as it was. Condition: the sum's table stands as it was laid.
-/
import Derived.Test.YtelbhlkojpnmgaaDoorFlaws
namespace Go.Proofs.YtelbhlkojpnmgaaDoor
set_option maxRecDepth 20000
open Go.RowKit

set_option maxHeartbeats 4000000 in
theorem fback_int (k s t : Int) (x c p q a e : Nat) (A : Option Addr) (n cap : Nat) (l : List UInt8) (w : World) (ht : Tab w) (hn : l.length = n) (hb : Bytes w w.heap.size A l) :
    Calls Tryd.prog 6 #[.agg #[.int .i64 k, .int .i64 s, .int .i64 t, .int .u64 (x : Int), .int .u64 (c : Int), .int .u64 (p : Int), .int .u64 (q : Int), .int .u64 (a : Int), .int .u64 (e : Int), .slice A n cap]] w fun e w' => e = .returned (.bool true) ∧ Hid (Below w.heap.size w w') := by
  have F1 := Lib.hid (frow_new (k := k) (s := s) (t := t) (i := (x : Int)) (c := (c : Int)) (p := (p : Int)) (q := (q : Int)) (a := (a : Int)) (e := (e : Int)) (A := A) (n := n) (cap := cap) (ty := 25) w)
  have B1 := Lib.hid (fbelow_box w (.cells #[.int .i64 k, .int .i64 s, .int .i64 t, .int .u64 (x : Int), .int .u64 (c : Int), .int .u64 (p : Int), .int .u64 (q : Int), .int .u64 (a : Int), .int .u64 (e : Int), .slice A n cap] 25))
  have HT0 := Lib.hid ht
  have HTP := ht.pos
  have HN := Lib.hid hn
  have HB0 := Lib.hid hb
  clear ht hn hb
  go_enter Tryd.func6, Tryd.ntmps6
  go_wp2_with fail
  generalize w.alloc (.cells #[.int .i64 k, .int .i64 s, .int .i64 t, .int .u64 (x : Int), .int .u64 (c : Int), .int .u64 (p : Int), .int .u64 (q : Int), .int .u64 (a : Int), .int .u64 (e : Int), .slice A n cap] 25) = W1 at *
  refine (enc_at k s t x c p q a e A n cap w.heap.size l W1 (HT0.out.below HTP B1.out) HN.out (HB0.out.below B1.out) B1.out.size).mono ?_
  rintro en W2 ⟨hb2, h⟩
  have F2 := Lib.hid (F1.out.below hb2.out)
  have B2 := Lib.hid (fbtr B1.out hb2.out)
  clear F1 B1 hb2
  rcases h with ⟨hm, rfl⟩ | ⟨hm, g, rfl, -, hbk⟩
  · have HM := Lib.hid hm
    clear hm
    obtain ⟨k0, k1, k2, k3, k4, k5, k6, k7, k8, k9⟩ := F2.out.box
    go_wp2_with fail
    refine (may_at k s t x c p q a e A n cap l _ HN.out).mono ?_
    rintro en W3 ⟨rfl, hb⟩
    rw [decide_eq_false HM.out]
    have F3 := Lib.hid (F2.out.below hb.out)
    have B3 := Lib.hid (fbtr B2.out hb.out)
    clear F2 B2
    go_wp2_with fail
    refine (dec_any none [] 0 0 _ (HT0.out.below HTP B3.out) rfl Bytes.nil_ (Nat.le_refl _) (by omega)).mono ?_
    rintro en W4 h
    obtain ⟨A5, c5, rfl, hb⟩ := dec_none readF_nil h
    clear h k0 k1 k2 k3 k4 k5 k6 k7 k8 k9
    have F4 := Lib.hid (F3.out.below hb.out)
    have B4 := Lib.hid (fbtr B3.out hb.out)
    clear F3 B3
    have BX := Lib.hid (fbelow_box W4 (.cells #[.int .i64 0, .int .i64 0, .int .i64 0, .int .u64 0, .int .u64 0, .int .u64 0, .int .u64 0, .int .u64 0, .int .u64 0, .slice A5 0 c5] 25))
    have F5 := Lib.hid (F4.out.below BX.out)
    have B5 := Lib.hid (fbtr B4.out BX.out)
    have G5 := Lib.hid (frow_new (k := 0) (s := 0) (t := 0) (i := 0) (c := 0) (p := 0) (q := 0) (a := 0) (e := 0) (A := A5) (n := 0) (cap := c5) (ty := 25) W4)
    clear F4 B4
    clear BX
    go_wp2_with fail
    generalize W4.alloc (.cells #[.int .i64 0, .int .i64 0, .int .i64 0, .int .u64 0, .int .u64 0, .int .u64 0, .int .u64 0, .int .u64 0, .int .u64 0, .slice A5 0 c5] 25) = W5 at *
    generalize W4.heap.size = fb at *
    refine (awake5_any _ (HT0.out.below HTP B5.out)).mono ?_
    rintro en W6 ⟨rfl, hb⟩
    have F6 := Lib.hid (F5.out.below hb.out)
    have G6 := Lib.hid (G5.out.below hb.out)
    have B6 := Lib.hid (fbtr B5.out hb.out)
    clear F5 G5 B5
    go_wp2
    go_ret
    exact ⟨rfl, B6⟩
  · have HM := Lib.hid hm
    have hm487 := frameL_le hm
    have K2 := Lib.hid hbk.out
    clear hm hbk
    generalize hml : (frameL ⟨k, s, t, x, c, p, q, a, e, l⟩).length = m at *
    have HML := Lib.hid hml
    clear hml
    obtain ⟨k0, k1, k2, k3, k4, k5, k6, k7, k8, k9⟩ := F2.out.box
    go_wp2_with fail
    refine (may_at k s t x c p q a e A n cap l _ HN.out).mono ?_
    rintro en W3 ⟨rfl, hb⟩
    rw [decide_eq_true HM.out]
    have F3 := Lib.hid (F2.out.below hb.out)
    have K3 := Lib.hid (K2.out.below hb.out K2.out.lt)
    have B3 := Lib.hid (fbtr B2.out hb.out)
    clear F2 K2 B2
    go_wp2_with fail
    refine (dec_any (some ⟨g, 0, none⟩) _ m m _ (HT0.out.below HTP B3.out) HML.out (K3.out.all.more K3.out.lt) (Nat.le_refl _) (by omega)).mono ?_
    rintro en W4 h
    obtain ⟨A5, c5, rfl, hw, hb⟩ := dec_at HM.out h
    rw [HN.out]
    clear h k0 k1 k2 k3 k4 k5 k6 k7 k8 k9
    have F4 := Lib.hid (F3.out.below hb.out)
    have K4 := Lib.hid (K3.out.below hb.out K3.out.lt)
    have B4 := Lib.hid (fbtr B3.out hb.out)
    have D4 := Lib.hid (hw.out.lower (Nat.le_refl _))
    clear F3 K3 B3
    clear hw hb
    have BX := Lib.hid (fbelow_box W4 (.cells #[.int .i64 k, .int .i64 s, .int .i64 t, .int .u64 (x : Int), .int .u64 (c : Int), .int .u64 (p : Int), .int .u64 (q : Int), .int .u64 (a : Int), .int .u64 (e : Int), .slice A5 n c5] 25))
    have F5 := Lib.hid (F4.out.below BX.out)
    have K5 := Lib.hid (K4.out.below BX.out K4.out.lt)
    have D5 := Lib.hid (D4.out.keep (only_none BX.out) (fun _ _ h => h))
    have B5 := Lib.hid (fbtr B4.out BX.out)
    have G5 := Lib.hid (frow_new (k := k) (s := s) (t := t) (i := (x : Int)) (c := (c : Int)) (p := (p : Int)) (q := (q : Int)) (a := (a : Int)) (e := (e : Int)) (A := A5) (n := n) (cap := c5) (ty := 25) W4)
    clear F4 K4 D4 B4
    clear BX
    obtain ⟨k0, k1, k2, k3, k4, k5, k6, k7, k8, k9⟩ := F5.out.box
    obtain ⟨z0, z1, z2, z3, z4, z5, z6, z7, z8, z9⟩ := G5.out.box
    go_wp2_with fail
    generalize W4.alloc (.cells #[.int .i64 k, .int .i64 s, .int .i64 t, .int .u64 (x : Int), .int .u64 (c : Int), .int .u64 (p : Int), .int .u64 (q : Int), .int .u64 (a : Int), .int .u64 (e : Int), .slice A5 n c5] 25) = W5 at *
    generalize W4.heap.size = fb at *
    refine (same_at k s t x c p q a e A A5 n cap c5 W5.heap.size l _ HN.out ((HB0.out.below B5.out).more B5.out.size) D5.out.bytes (Nat.le_refl _)).mono ?_
    rintro en W6 ⟨rfl, hb⟩
    have F6 := Lib.hid (F5.out.below hb.out)
    have K6 := Lib.hid (K5.out.below hb.out K5.out.lt)
    have D6 := Lib.hid (D5.out.keep (only_none hb.out) (fun _ _ h => h))
    have G6 := Lib.hid (G5.out.below hb.out)
    have B6 := Lib.hid (fbtr B5.out hb.out)
    clear F5 K5 D5 G5 B5
    go_wp2_with fail
    refine (awake5_any _ (HT0.out.below HTP B6.out)).mono ?_
    rintro en W7 ⟨rfl, hb⟩
    have F7 := Lib.hid (F6.out.below hb.out)
    have K7 := Lib.hid (K6.out.below hb.out K6.out.lt)
    have D7 := Lib.hid (D6.out.keep (only_none hb.out) (fun _ _ h => h))
    have G7 := Lib.hid (G6.out.below hb.out)
    have B7 := Lib.hid (fbtr B6.out hb.out)
    clear F6 K6 D6 G6 B6
    go_wp2
    go_ret
    exact ⟨rfl, B7⟩
theorem fback_walk (f : Fr) (A : Option Addr) (cap : Nat) (w : World) (ht : Tab w) (hb : Bytes w w.heap.size A f.body) :
    Calls Tryd.prog 6 #[frV f A f.body.length cap] w fun e w' => e = .returned (.bool true) ∧ Hid (Below w.heap.size w w') := fback_int _ _ _ _ _ _ _ _ _ A _ cap f.body w ht rfl hb
end Go.Proofs.YtelbhlkojpnmgaaDoor
