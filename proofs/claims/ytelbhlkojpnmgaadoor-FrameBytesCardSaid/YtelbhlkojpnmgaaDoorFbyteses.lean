/-
  The statement FrameBytes's walk: whatever frame, it answers true, and leaves all that was there as it was. Condition: the sum's table stands as it was laid.
-/
import Derived.Test.YtelbhlkojpnmgaaDoorFlaws
import Derived.Test.YtelbhlkojpnmgaaDoorFmay
import Derived.Test.YtelbhlkojpnmgaaDoorFbytes
namespace Go.Proofs.YtelbhlkojpnmgaaDoor
set_option maxRecDepth 20000
open Go.RowKit

theorem up5_u8 (x : Nat) : ((x : Int) + 1) % 256 = (((UInt8.ofNat (x + 1)).toNat : Nat) : Int) := by
  rw [UInt8.toNat_ofNat']
  omega
def BytP (L : List UInt8) (m : Nat) (w : World) (v : Value) : Prop := ∃ A c, v = .slice A m c ∧ Own8 w 0 A m c L
theorem BytP.mono {L : List UInt8} {m : Nat} {w w' : World} {v : Value} (hb : Below w.heap.size w w') (h : BytP L m w v) : BytP L m w' v := by
  obtain ⟨A, c, e, ho⟩ := h
  exact ⟨A, c, e, own8_later ho hb⟩
/-- A round of the loop that counts each byte up. -/
def UpF (w : World) (g m : Nat) (i : Value) (wr : World) : Prop := ∃ (j : Nat) (M : List UInt8), j ≤ m ∧ i = .int .i64 (j : Nat) ∧ Hid (M.length = m) ∧ Hid (Blk8 wr g M) ∧ Hid (Only (fun q => q = g) w wr)
theorem bytes_older {w w' : World} {A : Option Addr} {l : List UInt8} {B : Nat} (h : Bytes w w.heap.size A l) (hB : w.heap.size ≤ B) (hb : Below w.heap.size w w') : Bytes w' B A l := (h.below hb).more hB
def FByG (k s t : Int) (x c p q a e : Nat) (A3 : Option Addr) (n c3 : Nat) (g m : Nat) (sa : ByteArray) (L : List UInt8) (i : Nat) (w : World) (v : Value) : Prop :=
  match i with
  | 0 => v = .int .i64 0
  | 1 => v = .bool false
  | 2 => v = .bool false
  | 3 => v = Value.slice (some ⟨g, 0, none⟩) m m
  | 4 => v = Value.string sa
  | 5 => v = .agg #[.int .i64 k, .int .i64 s, .int .i64 t, .int .u64 (x : Int), .int .u64 (c : Int), .int .u64 (p : Int), .int .u64 (q : Int), .int .u64 (a : Int), .int .u64 (e : Int), .slice A3 n c3]
  | 6 => BytP L m w v
  | 7 => v = Value.string sa
  | 8 => v = .bool false
  | _ => v = .bool false
theorem FByG.mono {k s t : Int} {x c p q a e : Nat} {A3 : Option Addr} {n c3 : Nat} {g m : Nat} {sa : ByteArray} {L : List UInt8} {i : Nat} {v : Value} {w w' : World} (hb : Below w.heap.size w w') (h : FByG k s t x c p q a e A3 n c3 g m sa L i w v) : FByG k s t x c p q a e A3 n c3 g m sa L i w' v := by
  unfold FByG at *
  split at h <;> first | exact h | exact BytP.mono hb h
set_option maxHeartbeats 8000000 in
theorem fbyteses_int (k s t : Int) (x c p q a e : Nat) (A : Option Addr) (n cap : Nat) (l : List UInt8) (w : World) (ht : Tab w) (hn : l.length = n) (HA : A = none → cap = 0) (hb : Bytes w w.heap.size A l) :
    Calls Tryd.prog 4 #[.agg #[.int .i64 k, .int .i64 s, .int .i64 t, .int .u64 (x : Int), .int .u64 (c : Int), .int .u64 (p : Int), .int .u64 (q : Int), .int .u64 (a : Int), .int .u64 (e : Int), .slice A n cap]] w fun e w' => e = .returned (.bool true) ∧ Hid (Below w.heap.size w w') := by
  have mixed : Tryd.prog.follows .mixedOrders = true := by kernel_rfl
  have F1 := Lib.hid (frow_new (k := k) (s := s) (t := t) (i := (x : Int)) (c := (c : Int)) (p := (p : Int)) (q := (q : Int)) (a := (a : Int)) (e := (e : Int)) (A := A) (n := n) (cap := cap) (ty := 25) w)
  have B1 := Lib.hid (fbelow_box w (.cells #[.int .i64 k, .int .i64 s, .int .i64 t, .int .u64 (x : Int), .int .u64 (c : Int), .int .u64 (p : Int), .int .u64 (q : Int), .int .u64 (a : Int), .int .u64 (e : Int), .slice A n cap] 25))
  have HT0 := Lib.hid ht
  have HTP := ht.pos
  have HN := Lib.hid hn
  have HB0 := Lib.hid hb
  clear ht hn hb
  go_enter Tryd.func4, Tryd.ntmps4
  obtain ⟨k0, k1, k2, k3, k4, k5, k6, k7, k8, k9⟩ := F1.out.box
  by_cases hlong : 65536 < n
  · go_wp2_with fail
    refine (awake5_any _ (HT0.out.below HTP B1.out)).mono ?_
    rintro en W2 ⟨rfl, hb⟩
    go_wp2
    go_ret
    exact ⟨rfl, Lib.hid (fbtr B1.out hb.out)⟩
  · go_wp2_with fail
    generalize w.alloc (.cells #[.int .i64 k, .int .i64 s, .int .i64 t, .int .u64 (x : Int), .int .u64 (c : Int), .int .u64 (p : Int), .int .u64 (q : Int), .int .u64 (a : Int), .int .u64 (e : Int), .slice A n cap] 25) = W1 at *
    refine (show Calls Tryd.prog 13 #[.agg #[.int .i64 k, .int .i64 s, .int .i64 t, .int .u64 (x : Int), .int .u64 (c : Int), .int .u64 (p : Int), .int .u64 (q : Int), .int .u64 (a : Int), .int .u64 (e : Int), .slice A n cap]] W1 (fun en w' => ∃ A' cap', en = .returned (.agg #[.int .i64 k, .int .i64 s, .int .i64 t, .int .u64 (x : Int), .int .u64 (c : Int), .int .u64 (p : Int), .int .u64 (q : Int), .int .u64 (a : Int), .int .u64 (e : Int), .slice A' n cap']) ∧ Hid (Own8 w' W1.heap.size A' n cap' l) ∧ Hid (Below W1.heap.size W1 w')) from rfown_any ⟨k, s, t, x, c, p, q, a, e, l⟩ A n cap w.heap.size HN.out W1 HA (HB0.out.below B1.out) B1.out.size (by omega)).mono ?_
    rintro en W2 ⟨A3, c3, rfl, ho, hb⟩
    have F2 := Lib.hid (F1.out.below hb.out)
    have B2 := Lib.hid (fbtr B1.out hb.out)
    have O2 := Lib.hid (ho.out.lower (Nat.zero_le _))
    clear F1 B1
    clear ho hb k0 k1 k2 k3 k4 k5 k6 k7 k8 k9
    have hO2 : Hid (∀ j, blockOf A3 = some j → j < W2.heap.size) := Lib.hid (fun j hj => (O2.out.lt hj).2)
    have hWF := lt_of_heap F2.out
    have BX := Lib.hid (fbelow_box W2 (.cells #[.int .i64 k, .int .i64 s, .int .i64 t, .int .u64 (x : Int), .int .u64 (c : Int), .int .u64 (p : Int), .int .u64 (q : Int), .int .u64 (a : Int), .int .u64 (e : Int), .slice A3 n c3] 25))
    have O3 := Lib.hid (own8_later O2.out BX.out)
    have F3 := Lib.hid (F2.out.below BX.out)
    have B3 := Lib.hid (fbtr B2.out BX.out)
    have G3 := Lib.hid (frow_new (k := k) (s := s) (t := t) (i := (x : Int)) (c := (c : Int)) (p := (p : Int)) (q := (q : Int)) (a := (a : Int)) (e := (e : Int)) (A := A3) (n := n) (cap := c3) (ty := 25) W2)
    clear F2 O2 B2
    clear BX
    have hW3 : (W2.alloc (.cells #[.int .i64 k, .int .i64 s, .int .i64 t, .int .u64 (x : Int), .int .u64 (c : Int), .int .u64 (p : Int), .int .u64 (q : Int), .int .u64 (a : Int), .int .u64 (e : Int), .slice A3 n c3] 25)).heap.size = W2.heap.size + 1 := by simp
    obtain ⟨k0, k1, k2, k3, k4, k5, k6, k7, k8, k9⟩ := F3.out.box
    go_wp2_with fail
    generalize W2.alloc (.cells #[.int .i64 k, .int .i64 s, .int .i64 t, .int .u64 (x : Int), .int .u64 (c : Int), .int .u64 (p : Int), .int .u64 (q : Int), .int .u64 (a : Int), .int .u64 (e : Int), .slice A3 n c3] 25) = W3 at *
    generalize W2.heap.size = fb at *
    have hwf : w.heap.size < fb := hWF
    refine (enc_at k s t x c p q a e A n cap w.heap.size l W3 (HT0.out.below HTP B3.out) HN.out (HB0.out.below B3.out) B3.out.size).mono ?_
    rintro en W4 ⟨hb, h⟩
    have O4 := Lib.hid (own8_later O3.out hb.out)
    have F4 := Lib.hid (F3.out.below hb.out)
    have G4 := Lib.hid (G3.out.below hb.out)
    have B4 := Lib.hid (fbtr B3.out hb.out)
    clear F3 O3 G3 B3
    clear hb k0 k1 k2 k3 k4 k5 k6 k7 k8 k9
    obtain ⟨z0, z1, z2, z3, z4, z5, z6, z7, z8, z9⟩ := G4.out.box
    rcases h with ⟨hm, rfl⟩ | ⟨hm, g, rfl, hg, hk⟩
    · have HM := Lib.hid hm
      clear hm
      go_wp2_with fail
      refine (show Calls Tryd.prog 11 #[.agg #[.int .i64 k, .int .i64 s, .int .i64 t, .int .u64 (x : Int), .int .u64 (c : Int), .int .u64 (p : Int), .int .u64 (q : Int), .int .u64 (a : Int), .int .u64 (e : Int), .slice A3 n c3]] _ (fun en w' => en = .returned (.bool (decide (mayF ⟨k, s, t, x, c, p, q, a, e, l⟩))) ∧ Hid (Below W4.heap.size W4 w')) from rfmay_any ⟨k, s, t, x, c, p, q, a, e, l⟩ A3 n c3 HN.out _).mono ?_
      rintro en W5 ⟨rfl, hb⟩
      have O5 := Lib.hid (own8_later O4.out hb.out)
      have F5 := Lib.hid (F4.out.below hb.out)
      have G5 := Lib.hid (G4.out.below hb.out)
      have B5 := Lib.hid (fbtr B4.out hb.out)
      clear F4 O4 G4 B4
      rw [decide_eq_false HM.out]
      go_wp2_with fail
      refine (awake5_any _ (HT0.out.below HTP B5.out)).mono ?_
      rintro en W6 ⟨rfl, hb⟩
      have O6 := Lib.hid (own8_later O5.out hb.out)
      have F6 := Lib.hid (F5.out.below hb.out)
      have G6 := Lib.hid (G5.out.below hb.out)
      have B6 := Lib.hid (fbtr B5.out hb.out)
      clear F5 O5 G5 B5
      go_wp2
      go_ret
      exact ⟨rfl, B6⟩
    · have HM := Lib.hid hm
      have K4 := Lib.hid hk.out
      have hg3 := hg.out
      clear hm hk hg
      go_wp2_with fail
      refine (show Calls Tryd.prog 11 #[.agg #[.int .i64 k, .int .i64 s, .int .i64 t, .int .u64 (x : Int), .int .u64 (c : Int), .int .u64 (p : Int), .int .u64 (q : Int), .int .u64 (a : Int), .int .u64 (e : Int), .slice A3 n c3]] _ (fun en w' => en = .returned (.bool (decide (mayF ⟨k, s, t, x, c, p, q, a, e, l⟩))) ∧ Hid (Below W4.heap.size W4 w')) from rfmay_any ⟨k, s, t, x, c, p, q, a, e, l⟩ A3 n c3 HN.out _).mono ?_
      rintro en W5 ⟨rfl, hb⟩
      have O5 := Lib.hid (own8_later O4.out hb.out)
      have F5 := Lib.hid (F4.out.below hb.out)
      have G5 := Lib.hid (G4.out.below hb.out)
      have K5 := Lib.hid (K4.out.below hb.out K4.out.lt)
      have B5 := Lib.hid (fbtr B4.out hb.out)
      clear F4 O4 G4 K4 B4
      rw [decide_eq_true HM.out]
      clear z0 z1 z2 z3 z4 z5 z6 z7 z8 z9
      have HBY := Lib.hid (fun W (h : Bytes W W5.heap.size A3 l) (hB : W5.heap.size ≤ W.heap.size) => show Calls Tryd.prog 15 #[.agg #[.int .i64 k, .int .i64 s, .int .i64 t, .int .u64 (x : Int), .int .u64 (c : Int), .int .u64 (p : Int), .int .u64 (q : Int), .int .u64 (a : Int), .int .u64 (e : Int), .slice A3 n c3]] W (BytesE W (frameL ⟨k, s, t, x, c, p, q, a, e, l⟩)) from rfbytes_any ⟨k, s, t, x, c, p, q, a, e, l⟩ HM.out A3 n c3 W5.heap.size W HN.out h hB)
      unfold BytesE at HBY
      have hm487 := frameL_le HM.out
      generalize frameL ⟨k, s, t, x, c, p, q, a, e, l⟩ = L at *
      generalize hml : L.length = m at *
      have HML := Lib.hid hml
      clear hml
      obtain ⟨sa, hsa⟩ : ∃ sa : ByteArray, (⟨L.toArray⟩ : ByteArray) = sa := ⟨_, rfl⟩
      have HSA := Lib.hid hsa
      clear hsa
      have HQ := Lib.hid (show (sa.toList != sa.toList) = false from by simp)
      have KK : Hid (Blk8 W5.drew g L) := K5
      have KF : Hid (FRow w.heap.size k s t (x : Int) (c : Int) (p : Int) (q : Int) (a : Int) (e : Int) A n cap 25 W5.drew) := F5
      have KG : Hid (FRow fb k s t (x : Int) (c : Int) (p : Int) (q : Int) (a : Int) (e : Int) A3 n c3 25 W5.drew) := G5
      have KO : Hid (Own8 W5.drew 0 A3 n c3 l) := O5
      have BD : Hid (Below w.heap.size w W5.drew) := Lib.hid ⟨B5.out.os, B5.out.tape, B5.out.output, B5.out.size, B5.out.block⟩
      have hzd : W5.drew.heap.size = W5.heap.size := rfl
      have hsz4 : W4.heap.size ≤ W5.heap.size := hb.out.size
      clear K5 F5 G5 O5 B5 hb HM
      go_wp2_with fail
      refine region_steps (n := 60) (FByG k s t x c p q a e A3 n c3 g m sa L) (by kernel_rfl) (by kernel_rfl) rfl (fun _ _ _ _ hb h => FByG.mono hb h) ?_ ?_
      · refine And.intro ?_ (And.intro ?_ (And.intro ?_ (And.intro ?_ (And.intro ?_ (And.intro ?_ (And.intro ?_ (And.intro ?_ (And.intro ?_ (And.intro ?_ (True.intro))))))))))
        · intro listed a' w' hw hd K hK
          refine step_free rfl ?_
          apply wp_move
          exact hK _ _ (Below.refl _ _) (fun s hs => by cases hs; exact hw.kept 5 (by kernel_rfl))
        · intro listed a' w' hw hd K hK
          have hv32 : a'.tmps.getD 32 undef = .int .i64 0 := (hw.at_ 0 32 rfl (hd ⟨0, .data⟩ (by simp) rfl))
          refine step_free rfl ?_
          unfold Oper.wp
          simp only [execOp]
          go_simp
          exact hK _ _ (Below.refl _ _) (fun s hs => by cases hs; rfl)
        · intro listed a' w' hw hd K hK
          refine step_free rfl ?_
          apply wp_move
          exact hK _ _ (Below.refl _ _) (fun s hs => by cases hs; exact (hw.at_ 1 33 rfl (hd ⟨1, .data⟩ (by simp) rfl)))
        · intro listed a' w' hw hd K hK
          have hgd : a'.tmps.getD 34 undef = .bool false := (hw.at_ 2 34 rfl (hd ⟨2, .guard⟩ (by simp) rfl))
          refine step_guarded (j := 2) (b := false) (s := 34) rfl rfl (by rw [hw.size]; exact Nat.lt_of_lt_of_eq (show 34 < 60 by omega) rfl) hgd ?_
          apply wp_move
          exact hK _ _ (Below.refl _ _) (fun s hs => by cases hs; exact hw.kept 4 (by kernel_rfl))
        · intro listed a' w' hw hd K hK
          have hgd : a'.tmps.getD 34 undef = .bool false := (hw.at_ 2 34 rfl (hd ⟨2, .guard⟩ (by simp) rfl))
          have hv35 : a'.tmps.getD 35 undef = Value.slice (some ⟨g, 0, none⟩) m m := (hw.at_ 3 35 rfl (hd ⟨3, .data⟩ (by simp) rfl))
          have cs := conv_str m (KK.out.below hw.below KK.out.lt).all HML.out
          rw [HSA.out] at cs
          refine step_guarded (j := 2) (b := false) (s := 34) rfl rfl (by rw [hw.size]; exact Nat.lt_of_lt_of_eq (show 34 < 60 by omega) rfl) hgd ?_
          unfold Oper.wp
          simp only [execOp]
          go_simp
          exact hK _ _ (Below.refl _ _) (fun s hs => by cases hs; rfl)
        · intro listed a' w' hw hd K hK
          have hgd : a'.tmps.getD 34 undef = .bool false := (hw.at_ 2 34 rfl (hd ⟨2, .guard⟩ (by simp) rfl))
          have hv3 := hw.kept 3 (by kernel_rfl)
          obtain ⟨k0, k1, k2, k3, k4, k5, k6, k7, k8, k9⟩ := (KG.out.below hw.below).box
          refine step_guarded (j := 2) (b := false) (s := 34) rfl rfl (by rw [hw.size]; exact Nat.lt_of_lt_of_eq (show 34 < 60 by omega) rfl) hgd ?_
          unfold Oper.wp
          simp only [execOp]
          go_simp
          exact hK _ _ (Below.refl _ _) (fun s hs => by cases hs; rfl)
        · intro listed a' w' hw hd K hK
          have hgd : a'.tmps.getD 34 undef = .bool false := (hw.at_ 2 34 rfl (hd ⟨2, .guard⟩ (by simp) rfl))
          have hv37 : a'.tmps.getD 37 undef = .agg #[.int .i64 k, .int .i64 s, .int .i64 t, .int .u64 (x : Int), .int .u64 (c : Int), .int .u64 (p : Int), .int .u64 (q : Int), .int .u64 (a : Int), .int .u64 (e : Int), .slice A3 n c3] := (hw.at_ 5 37 rfl (hd ⟨5, .data⟩ (by simp) rfl))
          refine step_guarded (j := 2) (b := false) (s := 34) rfl rfl (by rw [hw.size]; exact Nat.lt_of_lt_of_eq (show 34 < 60 by omega) rfl) hgd ?_
          unfold Oper.wp
          simp only [execOp]
          go_simp
          refine (HBY.out w' (bytes_older KO.out.bytes (Nat.le_of_eq hzd) hw.below) hw.below.size).mono ?_
          rintro en w2 ⟨A9, c9, rfl, ho9, hb2⟩
          exact hK _ _ hb2.out (fun s hs => by cases hs; exact ⟨A9, c9, rfl, ho9.out.lower (Nat.zero_le _)⟩)
        · intro listed a' w' hw hd K hK
          have hgd : a'.tmps.getD 34 undef = .bool false := (hw.at_ 2 34 rfl (hd ⟨2, .guard⟩ (by simp) rfl))
          have hv38 : BytP L m w' (a'.tmps.getD 38 undef) := (hw.at_ 6 38 rfl (hd ⟨6, .data⟩ (by simp) rfl))
          obtain ⟨A9, c9, e9, ho9⟩ := hv38
          have cs := conv_str c9 ho9.bytes HML.out
          rw [HSA.out] at cs
          refine step_guarded (j := 2) (b := false) (s := 34) rfl rfl (by rw [hw.size]; exact Nat.lt_of_lt_of_eq (show 34 < 60 by omega) rfl) hgd ?_
          unfold Oper.wp
          simp only [execOp]
          go_simp
          exact hK _ _ (Below.refl _ _) (fun s hs => by cases hs; rfl)
        · intro listed a' w' hw hd K hK
          have hgd : a'.tmps.getD 34 undef = .bool false := (hw.at_ 2 34 rfl (hd ⟨2, .guard⟩ (by simp) rfl))
          have hv36 : a'.tmps.getD 36 undef = Value.string sa := (hw.at_ 4 36 rfl (hd ⟨4, .data⟩ (by simp) rfl))
          have hv39 : a'.tmps.getD 39 undef = Value.string sa := (hw.at_ 7 39 rfl (hd ⟨7, .data⟩ (by simp) rfl))
          have hq := HQ.out
          refine step_guarded (j := 2) (b := false) (s := 34) rfl rfl (by rw [hw.size]; exact Nat.lt_of_lt_of_eq (show 34 < 60 by omega) rfl) hgd ?_
          unfold Oper.wp
          simp only [execOp]
          go_simp
          exact hK _ _ (Below.refl _ _) (fun s hs => by cases hs; rfl)
        · intro listed a' w' hw hd K hK
          have hv34 : a'.tmps.getD 34 undef = .bool false := (hw.at_ 2 34 rfl (hd ⟨2, .data⟩ (by simp) rfl))
          have hv40 : a'.tmps.getD 40 undef = .bool false := (hw.at_ 8 40 rfl (hd ⟨8, .data⟩ (by simp) rfl))
          refine step_free rfl ?_
          unfold Oper.wp
          simp only [execOp]
          go_simp
          exact hK _ _ (Below.refl _ _) (fun s hs => by cases hs; rfl)
      · intro listed a' w' hw hall
        have hk41 : a'.tmps.getD 41 undef = .bool false := hw.at_ 9 41 rfl (hall 9 (Nat.lt_of_lt_of_eq (show 9 < 10 by omega) rfl))
        have F6 := Lib.hid (KF.out.below hw.below)
        have G6 := Lib.hid (KG.out.below hw.below)
        have K6 := Lib.hid (KK.out.below hw.below KK.out.lt)
        have O6 := Lib.hid (own8_later KO.out hw.below)
        have B6 := Lib.hid (fbtr BD.out hw.below)
        have hsz6 := hw.below.size
        have hp := hw.puts [32, 33, 34, 35, 36, 37, 38, 39, 40, 41] (by kernel_rfl)
        clear hw hall
        rw [hp]
        simp only [List.foldl_cons, List.foldl_nil, hk41]
        generalize a'.tmps.getD 32 undef = u32
        generalize a'.tmps.getD 33 undef = u33
        generalize a'.tmps.getD 34 undef = u34
        generalize a'.tmps.getD 35 undef = u35
        generalize a'.tmps.getD 36 undef = u36
        generalize a'.tmps.getD 37 undef = u37
        generalize a'.tmps.getD 38 undef = u38
        generalize a'.tmps.getD 39 undef = u39
        generalize a'.tmps.getD 40 undef = u40
        clear hp hk41
        simp only [Act.put, List.setIfInBounds_toArray, List.set_cons_succ, List.set_cons_zero]
        clear KF KG KK KO BD HBY
        generalize hw6 : w' = W6 at *
        clear hw6
        go_wp2_with fail
        go_loopw [6] (fun i wr => UpF W6 g m i wr) (fun i _ => m - (intOf i).toNat)
        case atStart => exact ⟨0, L, by omega, rfl, HML, K6, Lib.hid (Only.refl _ _)⟩
        case round =>
          obtain ⟨j, M, hj, rfl, hM, hkb, hon⟩ := hrel
          by_cases hlt : j < m
          · have hcell := hkb.out.cell (k := j) (by rw [hM.out]; exact hlt)
            have hfz := hkb.out.frozen j
            have hx := at8_lt M j
            have C1 := Lib.hid (hkb.out.set_ j (UInt8.ofNat (at8 M j + 1)))
            have C2 := Lib.hid (hon.out.setCell (p := ⟨g, j, none⟩) (.inl rfl) (.int .u8 (((UInt8.ofNat (at8 M j + 1)).toNat : Nat) : Int)))
            generalize at8 M j = xx at hcell hx C1 C2
            have e1 := up5_u8 xx
            generalize UInt8.ofNat (xx + 1) = y at e1 C1 C2
            go_wp2
            go_roundw
            case rel => exact ⟨j + 1, M.set j y, by omega, by go_num, Lib.hid (by rw [List.length_set]; exact hM.out), C1, C2⟩
            case measure => simp [intOf]; omega
          · obtain rfl : j = m := by omega
            have F7 := Lib.hid (F6.out.only hon.out (by omega))
            have G7 := Lib.hid (G6.out.only hon.out (by omega))
            have O7 := Lib.hid (O6.out.keep hon.out (fun i hi e => by have := hO2.out i hi; omega))
            have B7 := Lib.hid (hon.out.below B6.out (fun i hi => by omega) B6.out.size)
            clear F6 G6 O6 B6 K6 hon hkb
            obtain ⟨k0, k1, k2, k3, k4, k5, k6, k7, k8, k9⟩ := F7.out.box
            obtain ⟨z0, z1, z2, z3, z4, z5, z6, z7, z8, z9⟩ := G7.out.box
            go_wp2_with fail
            refine (same_at k s t x c p q a e A A3 n cap c3 wr.heap.size l _ HN.out ((HB0.out.below B7.out).more B7.out.size) O7.out.bytes (Nat.le_refl _)).mono ?_
            rintro en W8 ⟨rfl, hb8⟩
            have B8 := Lib.hid (fbtr B7.out hb8.out)
            go_wp2_with fail
            refine (awake5_any _ (HT0.out.below HTP B8.out)).mono ?_
            rintro en W9 ⟨rfl, hb9⟩
            go_wp2
            go_ret
            exact ⟨rfl, Lib.hid (fbtr B8.out hb9.out)⟩
theorem fbyteses_walk (f : Fr) (A : Option Addr) (cap : Nat) (w : World) (ht : Tab w) (hA : A = none → cap = 0) (hb : Bytes w w.heap.size A f.body) :
    Calls Tryd.prog 4 #[frV f A f.body.length cap] w fun e w' => e = .returned (.bool true) ∧ Hid (Below w.heap.size w w') := fbyteses_int _ _ _ _ _ _ _ _ _ A _ cap f.body w ht rfl hA hb
end Go.Proofs.YtelbhlkojpnmgaaDoor
