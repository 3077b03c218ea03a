/-
  The statement FrameOneForm's walk: whatever bytes, it answers true, and leaves all that was there as it was. Condition: the sum's table stands as it was laid.
-/
import Derived.Test.YtelbhlkojpnmgaaDoorFlaws
namespace Go.Proofs.YtelbhlkojpnmgaaDoor
set_option maxRecDepth 20000
open Go.RowKit

theorem dec_some {w w' : World} {en : Ending} {f : Fr} {b : List UInt8} (hm : readF b = some f) (h : DecE w b en w') : ∃ A cap, en = .returned (.tuple #[frV f A f.body.length cap, .int .i64 0]) ∧ Hid (Wbl w' w.heap.size A cap f.body) ∧ Hid (Below w.heap.size w w') := by
  unfold DecE at h
  rw [hm] at h
  exact h
theorem same_none (A : Option Addr) (cap : Nat) (W : World) :
    Calls Tryd.prog 16 #[.agg #[.int .i64 0, .int .i64 0, .int .i64 0, .int .u64 0, .int .u64 0, .int .u64 0, .int .u64 0, .int .u64 0, .int .u64 0, .slice A 0 cap], .agg #[.int .i64 0, .int .i64 0, .int .i64 0, .int .u64 0, .int .u64 0, .int .u64 0, .int .u64 0, .int .u64 0, .int .u64 0, .slice none 0 0]] W fun en w' => en = .returned (.bool true) ∧ Hid (Below W.heap.size W w') := by
  have h := fsame_any noF noF A none 0 cap 0 0 0 rfl rfl W (fun h => by cases h) (fun h => by cases h) (Nat.zero_le _)
  rw [decide_eq_true rfl] at h
  exact h
set_option maxHeartbeats 4000000 in
theorem foneform_int (A : Option Addr) (l : List UInt8) (n cap : Nat) (w : World) (ht : Tab w) (hn : l.length = n) (hc : n ≤ cap) (hb : Bytes w w.heap.size A l) :
    Calls Tryd.prog 7 #[.slice A n cap] w fun e w' => e = .returned (.bool true) ∧ Hid (Below w.heap.size w w') := by
  have HT0 := Lib.hid ht
  have HTP := ht.pos
  have HN := Lib.hid hn
  have HB0 := Lib.hid hb
  have B0 := Lib.hid (Below.refl w.heap.size w)
  clear ht hn hb
  go_enter Tryd.func7, Tryd.ntmps7
  by_cases hlong : 65536 < n
  · go_wp2_with fail
    refine (awake5_any _ HT0.out).mono ?_
    rintro en W2 ⟨rfl, hb⟩
    go_wp2
    go_ret
    exact ⟨rfl, hb⟩
  · go_wp2_with fail
    refine (dec_any A l n cap w HT0.out HN.out HB0.out hc (by omega)).mono ?_
    rintro en W2 h
    rcases hu : readF l with _ | f
    · have HU := Lib.hid hu
      clear hu
      obtain ⟨A5, c5, rfl, hb⟩ := dec_none HU.out h
      clear h
      have B2 := Lib.hid (fbtr B0.out hb.out)
      clear B0
      have BX := Lib.hid (fbelow_box W2 (.cells #[.int .i64 0, .int .i64 0, .int .i64 0, .int .u64 0, .int .u64 0, .int .u64 0, .int .u64 0, .int .u64 0, .int .u64 0, .slice A5 0 c5] 25))
      have B3 := Lib.hid (fbtr B2.out BX.out)
      have G3 := Lib.hid (frow_new (k := 0) (s := 0) (t := 0) (i := 0) (c := 0) (p := 0) (q := 0) (a := 0) (e := 0) (A := A5) (n := 0) (cap := c5) (ty := 25) W2)
      clear B2
      clear BX
      obtain ⟨z0, z1, z2, z3, z4, z5, z6, z7, z8, z9⟩ := G3.out.box
      go_wp2_with fail
      generalize W2.alloc (.cells #[.int .i64 0, .int .i64 0, .int .i64 0, .int .u64 0, .int .u64 0, .int .u64 0, .int .u64 0, .int .u64 0, .int .u64 0, .slice A5 0 c5] 25) = W3 at *
      generalize W2.heap.size = fb at *
      refine (same_none A5 c5 _).mono ?_
      rintro en W4 ⟨rfl, hb⟩
      have G4 := Lib.hid (G3.out.below hb.out)
      have B4 := Lib.hid (fbtr B3.out hb.out)
      clear G3 B3
      go_wp2_with fail
      refine (awake5_any _ (HT0.out.below HTP B4.out)).mono ?_
      rintro en W5 ⟨rfl, hb⟩
      have G5 := Lib.hid (G4.out.below hb.out)
      have B5 := Lib.hid (fbtr B4.out hb.out)
      clear G4 B4
      go_wp2
      go_ret
      exact ⟨rfl, B5⟩
    · obtain ⟨k, s, t, x, c, p, q, a, e, l5⟩ := f
      have HM := Lib.hid (readF_some hu).1
      have HL := Lib.hid (readF_some hu).2
      obtain ⟨A5, c5, rfl, hw, hb⟩ := dec_some hu h
      clear h hu
      have B2 := Lib.hid (fbtr B0.out hb.out)
      have D2 := Lib.hid (hw.out.lower (Nat.le_refl _))
      clear B0
      clear hw hb
      simp only [frV, frC]
      generalize hn5 : l5.length = n5
      have HN5 := Lib.hid hn5
      clear hn5
      have BX := Lib.hid (fbelow_box W2 (.cells #[.int .i64 k, .int .i64 s, .int .i64 t, .int .u64 (x : Int), .int .u64 (c : Int), .int .u64 (p : Int), .int .u64 (q : Int), .int .u64 (a : Int), .int .u64 (e : Int), .slice A5 n5 c5] 25))
      have D3 := Lib.hid (D2.out.keep (only_none BX.out) (fun _ _ h => h))
      have B3 := Lib.hid (fbtr B2.out BX.out)
      have G3 := Lib.hid (frow_new (k := k) (s := s) (t := t) (i := (x : Int)) (c := (c : Int)) (p := (p : Int)) (q := (q : Int)) (a := (a : Int)) (e := (e : Int)) (A := A5) (n := n5) (cap := c5) (ty := 25) W2)
      clear D2 B2
      clear BX
      obtain ⟨z0, z1, z2, z3, z4, z5, z6, z7, z8, z9⟩ := G3.out.box
      go_wp2_with fail
      generalize W2.alloc (.cells #[.int .i64 k, .int .i64 s, .int .i64 t, .int .u64 (x : Int), .int .u64 (c : Int), .int .u64 (p : Int), .int .u64 (q : Int), .int .u64 (a : Int), .int .u64 (e : Int), .slice A5 n5 c5] 25) = W3 at *
      generalize W2.heap.size = fb at *
      refine (enc_at k s t x c p q a e A5 n5 c5 W3.heap.size l5 _ (HT0.out.below HTP B3.out) HN5.out D3.out.bytes (Nat.le_refl _)).mono ?_
      rintro en W4 ⟨hb, h⟩
      have D4 := Lib.hid (D3.out.keep (only_none hb.out) (fun _ _ h => h))
      have G4 := Lib.hid (G3.out.below hb.out)
      have B4 := Lib.hid (fbtr B3.out hb.out)
      clear D3 G3 B3
      clear hb z0 z1 z2 z3 z4 z5 z6 z7 z8 z9
      rcases h with ⟨h, -⟩ | ⟨-, g, rfl, -, hk⟩
      · exact absurd HM.out h
      rw [HL.out] at hk ⊢
      rw [HN.out]
      have K4 := Lib.hid hk.out
      clear hk
      obtain ⟨z0, z1, z2, z3, z4, z5, z6, z7, z8, z9⟩ := G4.out.box
      have cs1 := conv_str n K4.out.all HN.out
      have cs2 := conv_str cap (HB0.out.below B4.out) HN.out
      have hq : ((⟨l.toArray⟩ : ByteArray).toList == (⟨l.toArray⟩ : ByteArray).toList) = true := by simp
      generalize (⟨l.toArray⟩ : ByteArray) = sa at cs1 cs2 hq
      go_wp2_with fail
      refine (may_at k s t x c p q a e A5 n5 c5 l5 _ HN5.out).mono ?_
      rintro en W5 ⟨rfl, hb⟩
      rw [decide_eq_true HM.out]
      have D5 := Lib.hid (D4.out.keep (only_none hb.out) (fun _ _ h => h))
      have G5 := Lib.hid (G4.out.below hb.out)
      have K5 := Lib.hid (K4.out.below hb.out K4.out.lt)
      have B5 := Lib.hid (fbtr B4.out hb.out)
      clear D4 G4 K4 B4
      go_wp2_with fail
      refine (awake5_any _ (HT0.out.below HTP B5.out)).mono ?_
      rintro en W6 ⟨rfl, hb⟩
      have D6 := Lib.hid (D5.out.keep (only_none hb.out) (fun _ _ h => h))
      have G6 := Lib.hid (G5.out.below hb.out)
      have K6 := Lib.hid (K5.out.below hb.out K5.out.lt)
      have B6 := Lib.hid (fbtr B5.out hb.out)
      clear D5 G5 K5 B5
      go_wp2
      go_ret
      exact ⟨rfl, B6⟩
theorem foneform_walk (A : Option Addr) (l : List UInt8) (cap : Nat) (w : World) (ht : Tab w) (hc : l.length ≤ cap) (hb : Bytes w w.heap.size A l) :
    Calls Tryd.prog 7 #[.slice A l.length cap] w fun e w' => e = .returned (.bool true) ∧ Hid (Below w.heap.size w w') := foneform_int A l _ cap w ht rfl hc hb
end Go.Proofs.YtelbhlkojpnmgaaDoor
