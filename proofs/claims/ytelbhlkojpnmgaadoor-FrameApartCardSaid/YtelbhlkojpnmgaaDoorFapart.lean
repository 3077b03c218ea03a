/-
  The statement FrameApart's walk: whatever two frames, it answers true, and leaves all that was there as it was. Condition: the sum's table stands as it was laid.
-/
import Derived.Test.YtelbhlkojpnmgaaDoorFlaws
namespace Go.Proofs.YtelbhlkojpnmgaaDoor
set_option maxRecDepth 20000
open Go.RowKit

def FApG (k s t : Int) (x c p q a e : Nat) (A : Option Addr) (n cap : Nat) (kk ss tt : Int) (xx cc pp qq aa ee : Nat) (AA : Option Addr) (nn cap2 : Nat) (g m1 g2 m2 : Nat) (sa sb : ByteArray) (ds : Bool) (i : Nat) (_ : World) (v : Value) : Prop :=
  match i with
  | 0 => v = Value.slice (some ⟨g, 0, none⟩) m1 m1
  | 1 => v = Value.string sa
  | 2 => v = Value.slice (some ⟨g2, 0, none⟩) m2 m2
  | 3 => v = Value.string sb
  | 4 => v = .bool ds
  | 5 => v = .agg #[.int .i64 k, .int .i64 s, .int .i64 t, .int .u64 (x : Int), .int .u64 (c : Int), .int .u64 (p : Int), .int .u64 (q : Int), .int .u64 (a : Int), .int .u64 (e : Int), .slice A n cap]
  | 6 => v = .agg #[.int .i64 kk, .int .i64 ss, .int .i64 tt, .int .u64 (xx : Int), .int .u64 (cc : Int), .int .u64 (pp : Int), .int .u64 (qq : Int), .int .u64 (aa : Int), .int .u64 (ee : Int), .slice AA nn cap2]
  | 7 => v = .bool ds
  | 8 => v = .bool true
  | 9 => v = .bool true
  | 10 => v = .bool true
  | 11 => v = .bool true
  | _ => v = .bool true
theorem FApG.mono {k s t : Int} {x c p q a e : Nat} {A : Option Addr} {n cap : Nat} {kk ss tt : Int} {xx cc pp qq aa ee : Nat} {AA : Option Addr} {nn cap2 : Nat} {g m1 g2 m2 : Nat} {sa sb : ByteArray} {ds : Bool} {i : Nat} {v : Value} {w w' : World} (_ : Below w.heap.size w w') (h : FApG k s t x c p q a e A n cap kk ss tt xx cc pp qq aa ee AA nn cap2 g m1 g2 m2 sa sb ds i w v) : FApG k s t x c p q a e A n cap kk ss tt xx cc pp qq aa ee AA nn cap2 g m1 g2 m2 sa sb ds i w' v := by
  unfold FApG at *
  exact h
set_option maxHeartbeats 8000000 in
theorem fapart_int (k s t : Int) (x c p q a e : Nat) (A : Option Addr) (n cap : Nat) (l : List UInt8) (kk ss tt : Int) (xx cc pp qq aa ee : Nat) (AA : Option Addr) (nn cap2 : Nat) (ll : List UInt8) (w : World) (ht : Tab w) (hn : l.length = n) (hb : Bytes w w.heap.size A l) (hn2 : ll.length = nn) (hb2 : Bytes w w.heap.size AA ll) :
    Calls Tryd.prog 9 #[.agg #[.int .i64 k, .int .i64 s, .int .i64 t, .int .u64 (x : Int), .int .u64 (c : Int), .int .u64 (p : Int), .int .u64 (q : Int), .int .u64 (a : Int), .int .u64 (e : Int), .slice A n cap], .agg #[.int .i64 kk, .int .i64 ss, .int .i64 tt, .int .u64 (xx : Int), .int .u64 (cc : Int), .int .u64 (pp : Int), .int .u64 (qq : Int), .int .u64 (aa : Int), .int .u64 (ee : Int), .slice AA nn cap2]] w fun e w' => e = .returned (.bool true) ∧ Hid (Below w.heap.size w w') := by
  have mixed : Tryd.prog.follows .mixedOrders = true := by kernel_rfl
  have F1 := Lib.hid (frow_new (k := k) (s := s) (t := t) (i := (x : Int)) (c := (c : Int)) (p := (p : Int)) (q := (q : Int)) (a := (a : Int)) (e := (e : Int)) (A := A) (n := n) (cap := cap) (ty := 25) w)
  have B1 := Lib.hid (fbelow_box w (.cells #[.int .i64 k, .int .i64 s, .int .i64 t, .int .u64 (x : Int), .int .u64 (c : Int), .int .u64 (p : Int), .int .u64 (q : Int), .int .u64 (a : Int), .int .u64 (e : Int), .slice A n cap] 25))
  have hz : (w.alloc (.cells #[.int .i64 k, .int .i64 s, .int .i64 t, .int .u64 (x : Int), .int .u64 (c : Int), .int .u64 (p : Int), .int .u64 (q : Int), .int .u64 (a : Int), .int .u64 (e : Int), .slice A n cap] 25)).heap.size = w.heap.size + 1 := by simp
  have BB := Lib.hid (fbelow_box (w.alloc (.cells #[.int .i64 k, .int .i64 s, .int .i64 t, .int .u64 (x : Int), .int .u64 (c : Int), .int .u64 (p : Int), .int .u64 (q : Int), .int .u64 (a : Int), .int .u64 (e : Int), .slice A n cap] 25)) (.cells #[.int .i64 kk, .int .i64 ss, .int .i64 tt, .int .u64 (xx : Int), .int .u64 (cc : Int), .int .u64 (pp : Int), .int .u64 (qq : Int), .int .u64 (aa : Int), .int .u64 (ee : Int), .slice AA nn cap2] 25))
  have F2 := Lib.hid (F1.out.below BB.out)
  have G2 : Hid (FRow (w.heap.size + 1) kk ss tt (xx : Int) (cc : Int) (pp : Int) (qq : Int) (aa : Int) (ee : Int) AA nn cap2 25 ((w.alloc (.cells #[.int .i64 k, .int .i64 s, .int .i64 t, .int .u64 (x : Int), .int .u64 (c : Int), .int .u64 (p : Int), .int .u64 (q : Int), .int .u64 (a : Int), .int .u64 (e : Int), .slice A n cap] 25)).alloc (.cells #[.int .i64 kk, .int .i64 ss, .int .i64 tt, .int .u64 (xx : Int), .int .u64 (cc : Int), .int .u64 (pp : Int), .int .u64 (qq : Int), .int .u64 (aa : Int), .int .u64 (ee : Int), .slice AA nn cap2] 25))) := Lib.hid (by rw [← hz]; exact frow_new (k := kk) (s := ss) (t := tt) (i := (xx : Int)) (c := (cc : Int)) (p := (pp : Int)) (q := (qq : Int)) (a := (aa : Int)) (e := (ee : Int)) (A := AA) (n := nn) (cap := cap2) (ty := 25) (w.alloc (.cells #[.int .i64 k, .int .i64 s, .int .i64 t, .int .u64 (x : Int), .int .u64 (c : Int), .int .u64 (p : Int), .int .u64 (q : Int), .int .u64 (a : Int), .int .u64 (e : Int), .slice A n cap] 25)))
  have B2 := Lib.hid (fbtr B1.out BB.out)
  have HT0 := Lib.hid ht
  have HTP := ht.pos
  have HN := Lib.hid hn
  have HB0 := Lib.hid hb
  have HN2 := Lib.hid hn2
  have HB2 := Lib.hid hb2
  clear ht hn hb hn2 hb2 F1 B1 BB hz
  go_enter Tryd.func9, Tryd.ntmps9
  obtain ⟨k0, k1, k2, k3, k4, k5, k6, k7, k8, k9⟩ := F2.out.box
  obtain ⟨j0, j1, j2, j3, j4, j5, j6, j7, j8, j9⟩ := G2.out.box
  by_cases h1 : 4096 < n
  · go_wp2_with fail
    generalize ((w.alloc (.cells #[.int .i64 k, .int .i64 s, .int .i64 t, .int .u64 (x : Int), .int .u64 (c : Int), .int .u64 (p : Int), .int .u64 (q : Int), .int .u64 (a : Int), .int .u64 (e : Int), .slice A n cap] 25)).alloc (.cells #[.int .i64 kk, .int .i64 ss, .int .i64 tt, .int .u64 (xx : Int), .int .u64 (cc : Int), .int .u64 (pp : Int), .int .u64 (qq : Int), .int .u64 (aa : Int), .int .u64 (ee : Int), .slice AA nn cap2] 25)) = W2 at *
    refine (awake5_any _ (HT0.out.below HTP B2.out)).mono ?_
    rintro en W3 ⟨rfl, hb⟩
    have F3 := Lib.hid (F2.out.below hb.out)
    have G3 := Lib.hid (G2.out.below hb.out)
    have B3 := Lib.hid (fbtr B2.out hb.out)
    clear F2 G2 B2
    go_wp2
    go_ret
    exact ⟨rfl, B3⟩
  · by_cases h2 : 4096 < nn
    · go_wp2_with fail
      generalize ((w.alloc (.cells #[.int .i64 k, .int .i64 s, .int .i64 t, .int .u64 (x : Int), .int .u64 (c : Int), .int .u64 (p : Int), .int .u64 (q : Int), .int .u64 (a : Int), .int .u64 (e : Int), .slice A n cap] 25)).alloc (.cells #[.int .i64 kk, .int .i64 ss, .int .i64 tt, .int .u64 (xx : Int), .int .u64 (cc : Int), .int .u64 (pp : Int), .int .u64 (qq : Int), .int .u64 (aa : Int), .int .u64 (ee : Int), .slice AA nn cap2] 25)) = W2 at *
      refine (awake5_any _ (HT0.out.below HTP B2.out)).mono ?_
      rintro en W3 ⟨rfl, hb⟩
      have F3 := Lib.hid (F2.out.below hb.out)
      have G3 := Lib.hid (G2.out.below hb.out)
      have B3 := Lib.hid (fbtr B2.out hb.out)
      clear F2 G2 B2
      go_wp2
      go_ret
      exact ⟨rfl, B3⟩
    · go_wp2_with fail
      generalize ((w.alloc (.cells #[.int .i64 k, .int .i64 s, .int .i64 t, .int .u64 (x : Int), .int .u64 (c : Int), .int .u64 (p : Int), .int .u64 (q : Int), .int .u64 (a : Int), .int .u64 (e : Int), .slice A n cap] 25)).alloc (.cells #[.int .i64 kk, .int .i64 ss, .int .i64 tt, .int .u64 (xx : Int), .int .u64 (cc : Int), .int .u64 (pp : Int), .int .u64 (qq : Int), .int .u64 (aa : Int), .int .u64 (ee : Int), .slice AA nn cap2] 25)) = W2 at *
      refine (enc_at k s t x c p q a e A n cap w.heap.size l _ (HT0.out.below HTP B2.out) HN.out (HB0.out.below B2.out) B2.out.size).mono ?_
      rintro en W3 ⟨hb, h⟩
      have F3 := Lib.hid (F2.out.below hb.out)
      have G3 := Lib.hid (G2.out.below hb.out)
      have B3 := Lib.hid (fbtr B2.out hb.out)
      clear F2 G2 B2
      clear hb k0 k1 k2 k3 k4 k5 k6 k7 k8 k9 j0 j1 j2 j3 j4 j5 j6 j7 j8 j9
      obtain ⟨k0, k1, k2, k3, k4, k5, k6, k7, k8, k9⟩ := F3.out.box
      obtain ⟨j0, j1, j2, j3, j4, j5, j6, j7, j8, j9⟩ := G3.out.box
      rcases h with ⟨hm, rfl⟩ | ⟨hm, g, rfl, -, hk⟩
      · clear hm
        go_wp2_with fail
        refine (enc_at kk ss tt xx cc pp qq aa ee AA nn cap2 w.heap.size ll _ (HT0.out.below HTP B3.out) HN2.out (HB2.out.below B3.out) B3.out.size).mono ?_
        rintro en W4 ⟨hb, h⟩
        have F4 := Lib.hid (F3.out.below hb.out)
        have G4 := Lib.hid (G3.out.below hb.out)
        have B4 := Lib.hid (fbtr B3.out hb.out)
        clear F3 G3 B3
        clear hb
        rcases h with ⟨hm, rfl⟩ | ⟨hm, g2, rfl, -, hk⟩
        · clear hm
          go_wp2_with fail
          refine (awake5_any _ (HT0.out.below HTP B4.out)).mono ?_
          rintro en W5 ⟨rfl, hb⟩
          have F5 := Lib.hid (F4.out.below hb.out)
          have G5 := Lib.hid (G4.out.below hb.out)
          have B5 := Lib.hid (fbtr B4.out hb.out)
          clear F4 G4 B4
          go_wp2
          go_ret
          exact ⟨rfl, B5⟩
        · clear hm hk
          go_wp2_with fail
          refine (awake5_any _ (HT0.out.below HTP B4.out)).mono ?_
          rintro en W5 ⟨rfl, hb⟩
          have F5 := Lib.hid (F4.out.below hb.out)
          have G5 := Lib.hid (G4.out.below hb.out)
          have B5 := Lib.hid (fbtr B4.out hb.out)
          clear F4 G4 B4
          go_wp2
          go_ret
          exact ⟨rfl, B5⟩
      · have HM1 := Lib.hid hm
        have K3 := Lib.hid hk.out
        clear hm hk
        go_wp2_with fail
        refine (enc_at kk ss tt xx cc pp qq aa ee AA nn cap2 w.heap.size ll _ (HT0.out.below HTP B3.out) HN2.out (HB2.out.below B3.out) B3.out.size).mono ?_
        rintro en W4 ⟨hb, h⟩
        have F4 := Lib.hid (F3.out.below hb.out)
        have G4 := Lib.hid (G3.out.below hb.out)
        have K4 := Lib.hid (K3.out.below hb.out K3.out.lt)
        have B4 := Lib.hid (fbtr B3.out hb.out)
        clear F3 G3 K3 B3
        clear hb
        rcases h with ⟨hm, rfl⟩ | ⟨hm, g2, rfl, -, hk⟩
        · clear hm
          go_wp2_with fail
          refine (awake5_any _ (HT0.out.below HTP B4.out)).mono ?_
          rintro en W5 ⟨rfl, hb⟩
          have F5 := Lib.hid (F4.out.below hb.out)
          have G5 := Lib.hid (G4.out.below hb.out)
          have K5 := Lib.hid (K4.out.below hb.out K4.out.lt)
          have B5 := Lib.hid (fbtr B4.out hb.out)
          clear F4 G4 K4 B4
          go_wp2
          go_ret
          exact ⟨rfl, B5⟩
        · have HM2 := Lib.hid hm
          have L4 := Lib.hid hk.out
          clear hm hk
          have HDS := Lib.hid (show decide (frameL ⟨k, s, t, x, c, p, q, a, e, l⟩ = frameL ⟨kk, ss, tt, xx, cc, pp, qq, aa, ee, ll⟩) = decide ((⟨k, s, t, x, c, p, q, a, e, l⟩ : Fr) = ⟨kk, ss, tt, xx, cc, pp, qq, aa, ee, ll⟩) from by rw [Bool.eq_iff_iff, decide_eq_true_iff, decide_eq_true_iff]; exact ⟨fun h => frameL_inj HM1.out HM2.out h, fun h => by rw [h]⟩)
          have HS := Lib.hid (fun W (h1 : Bytes W W4.heap.size A l) (h2 : Bytes W W4.heap.size AA ll) (hB : W4.heap.size ≤ W.heap.size) => show Calls Tryd.prog 16 #[.agg #[.int .i64 k, .int .i64 s, .int .i64 t, .int .u64 (x : Int), .int .u64 (c : Int), .int .u64 (p : Int), .int .u64 (q : Int), .int .u64 (a : Int), .int .u64 (e : Int), .slice A n cap], .agg #[.int .i64 kk, .int .i64 ss, .int .i64 tt, .int .u64 (xx : Int), .int .u64 (cc : Int), .int .u64 (pp : Int), .int .u64 (qq : Int), .int .u64 (aa : Int), .int .u64 (ee : Int), .slice AA nn cap2]] W (fun en w' => en = .returned (.bool (decide ((⟨k, s, t, x, c, p, q, a, e, l⟩ : Fr) = ⟨kk, ss, tt, xx, cc, pp, qq, aa, ee, ll⟩))) ∧ Hid (Below W.heap.size W w')) from fsame_any ⟨k, s, t, x, c, p, q, a, e, l⟩ ⟨kk, ss, tt, xx, cc, pp, qq, aa, ee, ll⟩ A AA n cap nn cap2 W4.heap.size HN.out HN2.out W h1 h2 hB)
          have HQ := Lib.hid (same_str (frameL ⟨k, s, t, x, c, p, q, a, e, l⟩) (frameL ⟨kk, ss, tt, xx, cc, pp, qq, aa, ee, ll⟩))
          rw [HDS.out] at HQ
          generalize decide ((⟨k, s, t, x, c, p, q, a, e, l⟩ : Fr) = ⟨kk, ss, tt, xx, cc, pp, qq, aa, ee, ll⟩) = ds at HQ HS
          have HC1 := Lib.hid (fun W (hb : Below W4.heap.size W4 W) => conv_str (frameL ⟨k, s, t, x, c, p, q, a, e, l⟩).length (K4.out.below hb K4.out.lt).all rfl)
          have HC2 := Lib.hid (fun W (hb : Below W4.heap.size W4 W) => conv_str (frameL ⟨kk, ss, tt, xx, cc, pp, qq, aa, ee, ll⟩).length (L4.out.below hb L4.out.lt).all rfl)
          generalize (⟨(frameL ⟨k, s, t, x, c, p, q, a, e, l⟩).toArray⟩ : ByteArray) = sa at HQ HC1
          generalize (⟨(frameL ⟨kk, ss, tt, xx, cc, pp, qq, aa, ee, ll⟩).toArray⟩ : ByteArray) = sb at HQ HC2
          generalize (frameL ⟨k, s, t, x, c, p, q, a, e, l⟩).length = m1 at *
          generalize (frameL ⟨kk, ss, tt, xx, cc, pp, qq, aa, ee, ll⟩).length = m2 at *
          go_wp2_with fail
          have D0 : Hid (Below W4.heap.size W4 W4.drew) := Lib.hid ⟨rfl, rfl, rfl, Nat.le_refl _, fun _ _ => rfl⟩
          have KF : Hid (FRow w.heap.size k s t (x : Int) (c : Int) (p : Int) (q : Int) (a : Int) (e : Int) A n cap 25 W4.drew) := F4
          have KG : Hid (FRow (w.heap.size + 1) kk ss tt (xx : Int) (cc : Int) (pp : Int) (qq : Int) (aa : Int) (ee : Int) AA nn cap2 25 W4.drew) := G4
          have BD : Hid (Below w.heap.size w W4.drew) := Lib.hid (fbtr B4.out D0.out)
          refine region_steps (n := 49) (FApG k s t x c p q a e A n cap kk ss tt xx cc pp qq aa ee AA nn cap2 g m1 g2 m2 sa sb ds) (by kernel_rfl) (by kernel_rfl) rfl (fun _ _ _ _ hb h => FApG.mono hb h) ?_ ?_
          · refine And.intro ?_ (And.intro ?_ (And.intro ?_ (And.intro ?_ (And.intro ?_ (And.intro ?_ (And.intro ?_ (And.intro ?_ (And.intro ?_ (And.intro ?_ (And.intro ?_ (And.intro ?_ (And.intro ?_ (True.intro)))))))))))))
            · intro listed a' w' hw hd K hK
              refine step_free rfl ?_
              apply wp_move
              exact hK _ _ (Below.refl _ _) (fun s hs => by cases hs; exact hw.kept 5 (by kernel_rfl))
            · intro listed a' w' hw hd K hK
              have hv37 : a'.tmps.getD 37 undef = Value.slice (some ⟨g, 0, none⟩) m1 m1 := (hw.at_ 0 37 rfl (hd ⟨0, .data⟩ (by simp) rfl))
              have cs := HC1.out w' (D0.out.trans hw.below)
              refine step_free rfl ?_
              unfold Oper.wp
              simp only [execOp]
              go_simp
              exact hK _ _ (Below.refl _ _) (fun s hs => by cases hs; rfl)
            · intro listed a' w' hw hd K hK
              refine step_free rfl ?_
              apply wp_move
              exact hK _ _ (Below.refl _ _) (fun s hs => by cases hs; exact hw.kept 7 (by kernel_rfl))
            · intro listed a' w' hw hd K hK
              have hv39 : a'.tmps.getD 39 undef = Value.slice (some ⟨g2, 0, none⟩) m2 m2 := (hw.at_ 2 39 rfl (hd ⟨2, .data⟩ (by simp) rfl))
              have cs := HC2.out w' (D0.out.trans hw.below)
              refine step_free rfl ?_
              unfold Oper.wp
              simp only [execOp]
              go_simp
              exact hK _ _ (Below.refl _ _) (fun s hs => by cases hs; rfl)
            · intro listed a' w' hw hd K hK
              have hv38 : a'.tmps.getD 38 undef = Value.string sa := (hw.at_ 1 38 rfl (hd ⟨1, .data⟩ (by simp) rfl))
              have hv40 : a'.tmps.getD 40 undef = Value.string sb := (hw.at_ 3 40 rfl (hd ⟨3, .data⟩ (by simp) rfl))
              have hq := HQ.out
              refine step_free rfl ?_
              unfold Oper.wp
              simp only [execOp]
              go_simp
              exact hK _ _ (Below.refl _ _) (fun s hs => by cases hs; rfl)
            · intro listed a' w' hw hd K hK
              have hv2 := hw.kept 2 (by kernel_rfl)
              obtain ⟨k0, k1, k2, k3, k4, k5, k6, k7, k8, k9⟩ := (KF.out.below hw.below).box
              refine step_free rfl ?_
              unfold Oper.wp
              simp only [execOp]
              go_simp
              exact hK _ _ (Below.refl _ _) (fun s hs => by cases hs; rfl)
            · intro listed a' w' hw hd K hK
              have hv3 := hw.kept 3 (by kernel_rfl)
              obtain ⟨k0, k1, k2, k3, k4, k5, k6, k7, k8, k9⟩ := (KG.out.below hw.below).box
              refine step_free rfl ?_
              unfold Oper.wp
              simp only [execOp]
              go_simp
              exact hK _ _ (Below.refl _ _) (fun s hs => by cases hs; rfl)
            · intro listed a' w' hw hd K hK
              have hv42 : a'.tmps.getD 42 undef = .agg #[.int .i64 k, .int .i64 s, .int .i64 t, .int .u64 (x : Int), .int .u64 (c : Int), .int .u64 (p : Int), .int .u64 (q : Int), .int .u64 (a : Int), .int .u64 (e : Int), .slice A n cap] := (hw.at_ 5 42 rfl (hd ⟨5, .data⟩ (by simp) rfl))
              have hv43 : a'.tmps.getD 43 undef = .agg #[.int .i64 kk, .int .i64 ss, .int .i64 tt, .int .u64 (xx : Int), .int .u64 (cc : Int), .int .u64 (pp : Int), .int .u64 (qq : Int), .int .u64 (aa : Int), .int .u64 (ee : Int), .slice AA nn cap2] := (hw.at_ 6 43 rfl (hd ⟨6, .data⟩ (by simp) rfl))
              refine step_free rfl ?_
              unfold Oper.wp
              simp only [execOp]
              go_simp
              refine (HS.out w' ((HB0.out.below (fbtr B4.out (D0.out.trans hw.below))).more (B4.out.size)) ((HB2.out.below (fbtr B4.out (D0.out.trans hw.below))).more (B4.out.size)) (D0.out.trans hw.below).size).mono ?_
              rintro e w2 ⟨rfl, hb2⟩
              exact hK _ _ hb2.out (fun s hs => by cases hs; rfl)
            · intro listed a' w' hw hd K hK
              have hv41 : a'.tmps.getD 41 undef = .bool ds := (hw.at_ 4 41 rfl (hd ⟨4, .data⟩ (by simp) rfl))
              have hv44 : a'.tmps.getD 44 undef = .bool ds := (hw.at_ 7 44 rfl (hd ⟨7, .data⟩ (by simp) rfl))
              have e1 : (ds == ds) = true := by simp
              refine step_free rfl ?_
              unfold Oper.wp
              simp only [execOp]
              go_simp
              exact hK _ _ (Below.refl _ _) (fun s hs => by cases hs; rfl)
            · intro listed a' w' hw hd K hK
              refine step_free rfl ?_
              apply wp_move
              exact hK _ _ (Below.refl _ _) (fun s hs => by cases hs; exact (hw.at_ 8 45 rfl (hd ⟨8, .data⟩ (by simp) rfl)))
            · intro listed a' w' hw hd K hK
              have hgd : a'.tmps.getD 46 undef = .bool true := (hw.at_ 9 46 rfl (hd ⟨9, .guard⟩ (by simp) rfl))
              refine step_guarded (j := 9) (b := true) (s := 46) rfl rfl (by rw [hw.size]; exact Nat.lt_of_lt_of_eq (show 46 < 49 by omega) rfl) hgd ?_
              unfold Oper.wp
              simp only [execOp]
              go_simp
              refine (awake5_any w' (HT0.out.below HTP (fbtr B4.out (D0.out.trans hw.below)))).mono ?_
              rintro e w2 ⟨rfl, hb2⟩
              exact hK _ _ hb2.out (fun s hs => by cases hs; rfl)
            · intro listed a' w' hw hd K hK
              have hv46 : a'.tmps.getD 46 undef = .bool true := (hw.at_ 9 46 rfl (hd ⟨9, .data⟩ (by simp) rfl))
              have hv47 : a'.tmps.getD 47 undef = .bool true := (hw.at_ 10 47 rfl (hd ⟨10, .data⟩ (by simp) rfl))
              refine step_free rfl ?_
              unfold Oper.wp
              simp only [execOp]
              go_simp
              exact hK _ _ (Below.refl _ _) (fun s hs => by cases hs; rfl)
            · intro listed a' w' hw hd K hK
              refine step_free rfl ?_
              apply wp_assign
              exact hK _ _ (Below.refl _ _) (fun s hs => by cases hs; exact (hw.at_ 11 48 rfl (hd ⟨11, .data⟩ (by simp) rfl)))
          · intro listed a' w' hw hall
            have hk4 : a'.tmps.getD 4 undef = .bool true := hw.at_ 12 4 rfl (hall 12 (Nat.lt_of_lt_of_eq (show 12 < 13 by omega) rfl))
            have hbF : Hid (Below w.heap.size w w') := Lib.hid (fbtr BD.out hw.below)
            have hp := hw.puts [37, 38, 39, 40, 41, 42, 43, 44, 45, 46, 47, 48, 4] (by kernel_rfl)
            clear hw hall
            rw [hp]
            simp only [List.foldl_cons, List.foldl_nil, hk4]
            generalize a'.tmps.getD 37 undef = u37
            generalize a'.tmps.getD 38 undef = u38
            generalize a'.tmps.getD 39 undef = u39
            generalize a'.tmps.getD 40 undef = u40
            generalize a'.tmps.getD 41 undef = u41
            generalize a'.tmps.getD 42 undef = u42
            generalize a'.tmps.getD 43 undef = u43
            generalize a'.tmps.getD 44 undef = u44
            generalize a'.tmps.getD 45 undef = u45
            generalize a'.tmps.getD 46 undef = u46
            generalize a'.tmps.getD 47 undef = u47
            generalize a'.tmps.getD 48 undef = u48
            clear hp hk4
            simp only [Act.put, List.setIfInBounds_toArray, List.set_cons_succ, List.set_cons_zero]
            go_wp2
            go_ret
            exact ⟨rfl, hbF⟩
theorem fapart_walk (f : Fr) (A : Option Addr) (cap : Nat) (g : Fr) (A' : Option Addr) (cap' : Nat) (w : World) (ht : Tab w) (hb : Bytes w w.heap.size A f.body) (hb2 : Bytes w w.heap.size A' g.body) :
    Calls Tryd.prog 9 #[frV f A f.body.length cap, frV g A' g.body.length cap'] w fun e w' => e = .returned (.bool true) ∧ Hid (Below w.heap.size w w') := fapart_int _ _ _ _ _ _ _ _ _ A _ cap f.body _ _ _ _ _ _ _ _ _ A' _ cap' g.body w ht rfl hb rfl hb2
end Go.Proofs.YtelbhlkojpnmgaaDoor
