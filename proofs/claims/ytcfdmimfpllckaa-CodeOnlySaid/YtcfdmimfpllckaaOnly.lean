/-
  The statement CodeOnly's walk: whatever bytes, it answers true, and leaves all that was there as it was. No condition.
-/
import Derived.Test.YtcfdmimfpllckaaAtr
namespace Go.Proofs.Ytcfdmimfpllckaa
open Go.RowKit

def OnG (p1 t n0 c0 : Nat) (A0 : Option Addr) (acc : List UInt8) (i : Nat) (w : World) (v : Value) : Prop :=
  match i with
  | 0 => v = .int .i64 (t : Int)
  | 1 => v = .bool false
  | 2 => v = .bool false
  | 3 => v = .pointer (some ⟨p1, 0, none⟩)
  | 4 => BytesV acc w v
  | 5 => v = Value.string ⟨acc.toArray⟩
  | 6 => v = .slice A0 n0 c0
  | 7 => v = .int .i64 (t : Int)
  | 8 => v = .slice A0 t c0
  | 9 => v = Value.string ⟨acc.toArray⟩
  | 10 => v = .bool false
  | _ => v = .bool false
theorem OnG.mono {p1 t n0 c0 : Nat} {A0 : Option Addr} {acc : List UInt8} {i : Nat} {v : Value} {w w' : World} (hb : Below w.heap.size w w') (h : OnG p1 t n0 c0 A0 acc i w v) : OnG p1 t n0 c0 A0 acc i w' v := by
  unfold OnG at *
  split at h <;> first | exact h | exact BytesV.mono hb h
def OnH (p1 t n0 c0 : Nat) (A0 : Option Addr) (acc : List UInt8) (sx : ByteArray) (most : Int) (i : Nat) (w : World) (v : Value) : Prop :=
  match i with
  | 0 => v = Value.string sx
  | 1 => v = .int .i64 (sx.size : Int)
  | 2 => v = .int .i64 most
  | 3 => v = .bool true
  | 4 => v = .bool true
  | 5 => v = .int .i64 (t : Int)
  | 6 => v = .bool true
  | 7 => v = .bool true
  | 8 => v = .bool true
  | 9 => v = .int .i64 (t : Int)
  | 10 => v = .slice A0 n0 c0
  | 11 => v = .int .i64 (n0 : Int)
  | 12 => v = .bool true
  | 13 => v = .bool true
  | 14 => v = .bool true
  | 15 => v = .pointer (some ⟨p1, 0, none⟩)
  | 16 => BytesV acc w v
  | 17 => v = Value.string ⟨acc.toArray⟩
  | 18 => v = .slice A0 n0 c0
  | 19 => v = .int .i64 (t : Int)
  | 20 => v = .slice A0 t c0
  | 21 => v = Value.string ⟨acc.toArray⟩
  | 22 => v = .bool true
  | 23 => v = .bool true
  | 24 => v = .bool true
  | 25 => v = .bool true
  | 26 => v = .bool true
  | _ => v = .bool true
theorem OnH.mono {p1 t n0 c0 : Nat} {A0 : Option Addr} {acc : List UInt8} {sx : ByteArray} {most : Int} {i : Nat} {v : Value} {w w' : World} (hb : Below w.heap.size w w') (h : OnH p1 t n0 c0 A0 acc sx most i w v) : OnH p1 t n0 c0 A0 acc sx most i w' v := by
  unfold OnH at *
  split at h <;> first | exact h | exact BytesV.mono hb h

def OnlyRel (w : World) (q : Nat) (d : Option Nat) (p : Nat) (L : List UInt8) (i : Value) (wr : World) : Prop :=
  ∃ k g l acc, i = .int .i64 (k : Nat) ∧ k ≤ acc.length ∧ Hid (L = acc ++ l) ∧ Hid (RdS RdT w.heap.size w wr q d ⟨l, false⟩) ∧ Hid (WS w.heap.size w wr p g acc) ∧ Hid (Ap d g)
set_option maxRecDepth 100000 in
set_option maxHeartbeats 3200000 in
theorem only_walk (A0 : Option Addr) (L : List UInt8) (c0 : Nat) (most : Int) (w : World) (hL : L.length ≤ c0) (hA : A0 = none → c0 = 0) (h1 : Bytes w w.heap.size A0 L) (hm : -9223372036854775808 ≤ most ∧ most ≤ 9223372036854775807) :
    Calls Try.prog 9 #[.slice A0 L.length c0, .int .i64 most] w fun e w' => e = .returned (.bool true) ∧ Hid (Below w.heap.size w w') := by
  have HB := Lib.hid h1
  have HA := Lib.hid hA
  have HM := Lib.hid hm
  clear h1 hA hm
  generalize hn0 : L.length = n0 at *
  have HN := Lib.hid hn0
  clear hn0
  go_enter Try.func9, Try.ntmps9
  by_cases hb1 : 65536 < n0
  · have hb1' : (65536 : Int) < (n0 : Int) := by omega
    go_wp2_with fail
    refine (awake_any w).mono ?_
    rintro e W1 ⟨rfl, hb⟩
    go_wp2
    go_ret
    exact ⟨rfl, hb⟩
  · have hb1' : ¬ (65536 : Int) < (n0 : Int) := by omega
    go_wp2_with fail
    refine (newr_at (Below.refl w.heap.size w) (Nat.le_refl _) A0 L n0 c0 HN.out HA.out HB.out (by omega)).mono ?_
    rintro e W1 ⟨q, d, rfl, r1, b1, z1⟩
    go_wp2_with fail
    refine (new_at r1.out.below r1.out.size).mono ?_
    rintro e W2 ⟨p1, rfl, o2, b2, z2⟩
    have r2 := Lib.hid (r1.out.later b2.out)
    clear r1 b1 z1 b2 z2
    go_wp2_with fail
    clear hb1'
    go_loopw [7] (fun i wr => OnlyRel w q d p1 L i wr) (fun i _ => n0 + 1 - (intOf i).toNat)
    case atStart => exact ⟨0, none, L, [], rfl, by simp, Lib.hid rfl, r2, o2, Lib.hid Ap.none_right⟩
    case round =>
      obtain ⟨k, g, l, acc, rfl, hk, hL2, hR, hW, hap⟩ := hrel
      have hln : acc.length + l.length = n0 := by have := congrArg List.length hL2.out; rw [HN.out, List.length_append] at this; omega
      have hkn : ¬ (n0 : Int) < (k : Int) := by omega
      by_cases hz : (parse l).2 = 0
      · have HU := Lib.hid (uint_none (s := ⟨l, false⟩) hz)
        go_wp2_with fail
        refine (uint_any q d ⟨l, false⟩ wr hR.out.rd (by simp only; omega)).mono ?_
        rintro e V1 ⟨rfl, e1, e2⟩
        rw [HU.out] at e1
        rw [HU.out]
        have hW1 := Lib.hid (hW.out.overR hR.out e2.out)
        have hR1 := Lib.hid (hR.out.step (s' := ⟨l, true⟩) e1 e2)
        clear e1 e2 hW hR HU hz
        go_wp2_with fail
        refine (err_bad q d l V1 hR1.out.rd).mono ?_
        rintro e V2 ⟨rfl, rfl⟩
        go_wp2_with fail
        refine (left_any q d l true l.length V1 hR1.out.rd rfl).mono ?_
        rintro e V2 ⟨rfl, rfl⟩
        obtain ⟨t, ht⟩ : ∃ t : Nat, t = acc.length := ⟨_, rfl⟩
        have et : (n0 : Int) - (l.length : Int) = (t : Int) := by omega
        have ht0 : ¬ (t : Int) < 0 := by omega
        have ht1 : (0 : Int) ≤ (t : Int) := by omega
        have ht2 : (t : Int) ≤ (c0 : Int) := by omega
        have HTA : Hid (L.take t = acc) := Lib.hid (by rw [hL2.out, ht]; exact List.take_left)
        have HBT : Hid (Bytes w w.heap.size A0 acc) := Lib.hid (by have := HB.out.front t; rwa [HTA.out] at this)
        have HTL : Hid (acc.length = t) := Lib.hid ht.symm
        have LR : Hid (acc.length ≤ 35184372088832) := Lib.hid (by omega)
        have HDF : decide ((t : Int) < 0) = false := decide_eq_false ht0
        have hO1 := hW1
        clear ht hap
        go_wp2_with fail
        refine region_steps (n := 114) (OnG p1 t n0 c0 A0 acc) (by kernel_rfl) (by kernel_rfl) rfl (fun _ _ _ _ hb h => OnG.mono hb h) ?_ ?_
        · refine And.intro ?_ (And.intro ?_ (And.intro ?_ (And.intro ?_ (And.intro ?_ (And.intro ?_ (And.intro ?_ (And.intro ?_ (And.intro ?_ (And.intro ?_ (And.intro ?_ (And.intro ?_ (True.intro))))))))))))
          · intro listed a' w' hw hd K hK
            refine step_free rfl ?_
            apply wp_move
            exact hK _ _ (Below.refl _ _) (fun s hs => by cases hs; exact hw.kept 9 (by kernel_rfl))
          · intro listed a' w' hw hd K hK
            have hv46 : a'.tmps.getD 46 undef = .int .i64 (t : Int) := (hw.at_ 0 46 rfl (hd ⟨0, .data⟩ (by simp) rfl))
            refine step_free rfl ?_
            unfold Oper.wp
            simp only [execOp]
            go_simp
            exact hK _ _ (Below.refl _ _) (fun s hs => by cases hs; rfl)
          · intro listed a' w' hw hd K hK
            refine step_free rfl ?_
            apply wp_move
            exact hK _ _ (Below.refl _ _) (fun s hs => by cases hs; exact (hw.at_ 1 47 rfl (hd ⟨1, .data⟩ (by simp) rfl)))
          · intro listed a' w' hw hd K hK
            have hgd : a'.tmps.getD 48 undef = .bool false := (hw.at_ 2 48 rfl (hd ⟨2, .guard⟩ (by simp) rfl))
            refine step_guarded (j := 2) (b := false) (s := 48) rfl rfl (by rw [hw.size]; exact Nat.lt_of_lt_of_eq (show 48 < 114 by omega) rfl) hgd ?_
            apply wp_move
            exact hK _ _ (Below.refl _ _) (fun s hs => by cases hs; exact hw.kept 6 (by kernel_rfl))
          · intro listed a' w' hw hd K hK
            have hgd : a'.tmps.getD 48 undef = .bool false := (hw.at_ 2 48 rfl (hd ⟨2, .guard⟩ (by simp) rfl))
            have hv49 : a'.tmps.getD 49 undef = .pointer (some ⟨p1, 0, none⟩) := (hw.at_ 3 49 rfl (hd ⟨3, .data⟩ (by simp) rfl))
            refine step_guarded (j := 2) (b := false) (s := 48) rfl rfl (by rw [hw.size]; exact Nat.lt_of_lt_of_eq (show 48 < 114 by omega) rfl) hgd ?_
            have hO := Lib.hid (hO1.out.later (below_drew_left hw.below))
            unfold Oper.wp
            simp only [execOp]
            go_simp
            refine (bytes_at hO.out LR.out).mono ?_
            rintro e w2 ⟨A2, c2, rfl, ho2, hb2⟩
            exact hK _ _ hb2.out (fun s hs => by cases hs; exact ⟨A2, c2, rfl, ho2.out.bytes⟩)
          · intro listed a' w' hw hd K hK
            have hgd : a'.tmps.getD 48 undef = .bool false := (hw.at_ 2 48 rfl (hd ⟨2, .guard⟩ (by simp) rfl))
            have hv50 : BytesV acc w' (a'.tmps.getD 50 undef) := (hw.at_ 4 50 rfl (hd ⟨4, .data⟩ (by simp) rfl))
            refine step_guarded (j := 2) (b := false) (s := 48) rfl rfl (by rw [hw.size]; exact Nat.lt_of_lt_of_eq (show 48 < 114 by omega) rfl) hgd ?_
            obtain ⟨A2, c2, hv, hb2⟩ := hv50
            have C := conv_str c2 hb2 rfl
            unfold Oper.wp
            simp only [execOp]
            go_simp
            exact hK _ _ (Below.refl _ _) (fun s hs => by cases hs; rfl)
          · intro listed a' w' hw hd K hK
            have hgd : a'.tmps.getD 48 undef = .bool false := (hw.at_ 2 48 rfl (hd ⟨2, .guard⟩ (by simp) rfl))
            refine step_guarded (j := 2) (b := false) (s := 48) rfl rfl (by rw [hw.size]; exact Nat.lt_of_lt_of_eq (show 48 < 114 by omega) rfl) hgd ?_
            apply wp_move
            exact hK _ _ (Below.refl _ _) (fun s hs => by cases hs; exact hw.kept 0 (by kernel_rfl))
          · intro listed a' w' hw hd K hK
            have hgd : a'.tmps.getD 48 undef = .bool false := (hw.at_ 2 48 rfl (hd ⟨2, .guard⟩ (by simp) rfl))
            refine step_guarded (j := 2) (b := false) (s := 48) rfl rfl (by rw [hw.size]; exact Nat.lt_of_lt_of_eq (show 48 < 114 by omega) rfl) hgd ?_
            apply wp_move
            exact hK _ _ (Below.refl _ _) (fun s hs => by cases hs; exact hw.kept 9 (by kernel_rfl))
          · intro listed a' w' hw hd K hK
            have hgd : a'.tmps.getD 48 undef = .bool false := (hw.at_ 2 48 rfl (hd ⟨2, .guard⟩ (by simp) rfl))
            have hv52 : a'.tmps.getD 52 undef = .slice A0 n0 c0 := (hw.at_ 6 52 rfl (hd ⟨6, .data⟩ (by simp) rfl))
            have hv53 : a'.tmps.getD 53 undef = .int .i64 (t : Int) := (hw.at_ 7 53 rfl (hd ⟨7, .data⟩ (by simp) rfl))
            refine step_guarded (j := 2) (b := false) (s := 48) rfl rfl (by rw [hw.size]; exact Nat.lt_of_lt_of_eq (show 48 < 114 by omega) rfl) hgd ?_
            unfold Oper.wp
            simp only [execOp]
            go_simp
            exact hK _ _ (Below.refl _ _) (fun s hs => by cases hs; rfl)
          · intro listed a' w' hw hd K hK
            have hgd : a'.tmps.getD 48 undef = .bool false := (hw.at_ 2 48 rfl (hd ⟨2, .guard⟩ (by simp) rfl))
            have hv54 : a'.tmps.getD 54 undef = .slice A0 t c0 := (hw.at_ 8 54 rfl (hd ⟨8, .data⟩ (by simp) rfl))
            have C := conv_str (w := w') c0 (HBT.out.below (hO1.out.below.trans ((below_drew_left hw.below).mono hO1.out.below.size))) HTL.out
            refine step_guarded (j := 2) (b := false) (s := 48) rfl rfl (by rw [hw.size]; exact Nat.lt_of_lt_of_eq (show 48 < 114 by omega) rfl) hgd ?_
            unfold Oper.wp
            simp only [execOp]
            go_simp
            exact hK _ _ (Below.refl _ _) (fun s hs => by cases hs; rfl)
          · intro listed a' w' hw hd K hK
            have hgd : a'.tmps.getD 48 undef = .bool false := (hw.at_ 2 48 rfl (hd ⟨2, .guard⟩ (by simp) rfl))
            have hv51 : a'.tmps.getD 51 undef = Value.string ⟨acc.toArray⟩ := (hw.at_ 5 51 rfl (hd ⟨5, .data⟩ (by simp) rfl))
            have hv55 : a'.tmps.getD 55 undef = Value.string ⟨acc.toArray⟩ := (hw.at_ 9 55 rfl (hd ⟨9, .data⟩ (by simp) rfl))
            refine step_guarded (j := 2) (b := false) (s := 48) rfl rfl (by rw [hw.size]; exact Nat.lt_of_lt_of_eq (show 48 < 114 by omega) rfl) hgd ?_
            unfold Oper.wp
            simp only [execOp]
            go_simp
            exact hK _ _ (Below.refl _ _) (fun s hs => by cases hs; rfl)
          · intro listed a' w' hw hd K hK
            have hv48 : a'.tmps.getD 48 undef = .bool false := (hw.at_ 2 48 rfl (hd ⟨2, .data⟩ (by simp) rfl))
            have hv56 : a'.tmps.getD 56 undef = .bool false := (hw.at_ 10 56 rfl (hd ⟨10, .data⟩ (by simp) rfl))
            refine step_free rfl ?_
            unfold Oper.wp
            simp only [execOp]
            go_simp
            exact hK _ _ (Below.refl _ _) (fun s hs => by cases hs; rfl)
        · intro listed a' w' hw hall
          have hk57 : a'.tmps.getD 57 undef = .bool false := hw.at_ 11 57 rfl (hall 11 (Nat.lt_of_lt_of_eq (show 11 < 12 by omega) rfl))
          have hbF : Hid (Below w.heap.size w w') := Lib.hid (hO1.out.below.trans ((below_drew_left hw.below).mono hO1.out.size))
          have hp := hw.puts [46, 47, 48, 49, 50, 51, 52, 53, 54, 55, 56, 57] (by kernel_rfl)
          clear hw hall
          rw [hp]
          simp only [List.foldl_cons, List.foldl_nil, hk57]
          generalize a'.tmps.getD 46 undef = u46
          generalize a'.tmps.getD 47 undef = u47
          generalize a'.tmps.getD 48 undef = u48
          generalize a'.tmps.getD 49 undef = u49
          generalize a'.tmps.getD 50 undef = u50
          generalize a'.tmps.getD 51 undef = u51
          generalize a'.tmps.getD 52 undef = u52
          generalize a'.tmps.getD 53 undef = u53
          generalize a'.tmps.getD 54 undef = u54
          generalize a'.tmps.getD 55 undef = u55
          generalize a'.tmps.getD 56 undef = u56
          clear hp hk57
          simp only [Act.put, List.setIfInBounds_toArray, List.set_cons_succ, List.set_cons_zero]
          clear hO1 hR1 HTA HBT HTL LR HDF et ht0 ht1 ht2 hkn hL2 hln
          have hB9 := hbF.out.size
          have HB9 : Hid (Bytes w' w'.heap.size A0 L) := Lib.hid ((HB.out.below hbF.out).more hB9)
          go_wp2_with fail
          refine (newr_at hbF.out hB9 A0 L n0 c0 HN.out HA.out HB9.out (by omega)).mono ?_
          rintro e W1 ⟨q2, d2, rfl, r1, b1, z1⟩
          go_wp2_with fail
          refine (new_at r1.out.below r1.out.size).mono ?_
          rintro e W2 ⟨p2, rfl, o2, b2, z2⟩
          have r2 := Lib.hid (r1.out.later b2.out)
          have hm1 := HM.out.1
          have hm2 := HM.out.2
          clear r1 b1 z1 b2 z2 HB9 hB9 HM
          go_wp2_with fail
          refine (text_any q2 d2 ⟨L, false⟩ most W2 hm1 hm2 r2.out.rd (by simp only; rw [HN.out]; omega)).mono ?_
          rintro e W3 ⟨rfl, e1, e2⟩
          have o3 := Lib.hid (o2.out.overR r2.out e2.out)
          by_cases hbadt : (parse L).2 = 0 ∨ most < 0 ∨ most < ((parse L).1 : Int) ∨ L.length < (parse L).2 + (parse L).1
          · rw [text_not hbadt] at e1
            rw [text_not hbadt]
            have r3 := Lib.hid (r2.out.step (s' := ⟨L, true⟩) e1 e2)
            clear e1 e2 r2 o2 hbadt hm1 hm2
            go_wp2_with fail
            refine (err_bad q2 d2 L W3 r3.out.rd).mono ?_
            rintro e W4 ⟨rfl, rfl⟩
            go_wp2_with fail
            refine (left_any q2 d2 L true n0 W3 r3.out.rd HN.out).mono ?_
            rintro e W4 ⟨rfl, rfl⟩
            go_wp2_with fail
            refine (awake_any W3).mono ?_
            rintro e W4 ⟨rfl, hb4⟩
            go_wp2
            go_ret
            exact ⟨rfl, Lib.hid (o3.out.below.trans (hb4.out.mono o3.out.size))⟩
          · rw [text_ok hbadt] at e1
            rw [text_ok hbadt]
            obtain ⟨pf1, pf2⟩ := parse_form L (fun h => hbadt (.inl h))
            obtain ⟨xs, hxs⟩ : ∃ xs, xs = (L.drop (parse L).2).take (parse L).1 := ⟨_, rfl⟩
            have hxl : xs.length = (parse L).1 := by rw [hxs, List.length_take, List.length_drop]; omega
            have hacc : L.take ((parse L).2 + (parse L).1) = shortL (parse L).1 ++ xs := by rw [List.take_add, pf2, hxs]
            rw [← hxs]
            have hmx : ((parse L).1 : Int) ≤ most := by omega
            have hgl : (parse L).2 + (parse L).1 ≤ L.length := by omega
            have r3 := Lib.hid (r2.out.step (s' := ⟨L.drop ((parse L).2 + (parse L).1), false⟩) e1 e2)
            clear e1 e2 r2 o2 hbadt pf1 pf2 hxs
            generalize (parse L).1 = x at *
            generalize (parse L).2 = gn at *
            obtain ⟨sx, hsx⟩ : ∃ sx : ByteArray, (⟨xs.toArray⟩ : ByteArray) = sx := ⟨_, rfl⟩
            have hsz : sx.size = x := by rw [← hsx, ← hxl]; rfl
            have HSL : Hid (strL sx = xs) := Lib.hid (by rw [← hsx]; rfl)
            rw [hsx]
            rw [HN.out] at hgl
            obtain ⟨t, ht⟩ : ∃ t : Nat, t = gn + x := ⟨_, rfl⟩
            have HTL0 : Hid ((L.drop (gn + x)).length = n0 - t) := Lib.hid (by rw [List.length_drop, HN.out, ht])
            rw [← ht] at hacc hgl
            have HACC := Lib.hid hacc
            have HSZ := Lib.hid hsz
            have hsm : (sx.size : Int) ≤ most := by rw [hsz]; exact hmx
            have hse : ¬ (sx.size : Int) = -1 := by omega
            have hs9 : sx.size ≤ 65536 := by omega
            clear hacc hsz hmx hsx hxl ht
            go_wp2_with fail
            refine (err_ok q2 d2 _ W3 r3.out.rd).mono ?_
            rintro e W4 ⟨rfl, rfl⟩
            go_wp2_with fail
            refine (text_at o3.out sx (by omega) (by decide)).mono ?_
            rintro e W4 ⟨rfl, g4, o4, n4, f4⟩
            have r4 := Lib.hid (r3.out.over o3.out Ap.none_right f4.out)
            have o4' : Hid (WS w.heap.size w W4 p2 g4 (L.take t)) := Lib.hid (by
              have h := o4.out
              rw [HSL.out, HSZ.out, List.nil_append, ← HACC.out] at h
              exact h)
            clear r3 o3 o4 n4 f4
            go_wp2_with fail
            refine (left_any q2 d2 _ false (n0 - t) W4 r4.out.rd HTL0.out).mono ?_
            rintro e W5 ⟨rfl, rfl⟩
            have et : (n0 : Int) - ((n0 - t : Nat) : Int) = (t : Int) := by omega
            have HTL : Hid ((L.take t).length = t) := Lib.hid (by rw [List.length_take, HN.out]; omega)
            have HBT : Hid (Bytes w w.heap.size A0 (L.take t)) := Lib.hid (HB.out.front t)
            have LR2 : Hid ((L.take t).length ≤ 35184372088832) := Lib.hid (by rw [HTL.out]; omega)
            have ht1 : (0 : Int) ≤ (t : Int) := by omega
            have ht2 : (t : Int) ≤ (c0 : Int) := by omega
            have ht3 : (t : Int) ≤ (n0 : Int) := by omega
            have D1 : decide ((sx.size : Int) ≤ most) = true := decide_eq_true hsm
            have D3 : decide (t ≤ n0) = true := decide_eq_true hgl
            have hO2 := o4'
            generalize L.take t = acc at *
            clear HSL HACC HTL0 HSZ
            go_wp2_with fail
            refine region_steps (n := 114) (OnH p2 t n0 c0 A0 acc sx most) (by kernel_rfl) (by kernel_rfl) rfl (fun _ _ _ _ hb h => OnH.mono hb h) ?_ ?_
            · refine And.intro ?_ (And.intro ?_ (And.intro ?_ (And.intro ?_ (And.intro ?_ (And.intro ?_ (And.intro ?_ (And.intro ?_ (And.intro ?_ (And.intro ?_ (And.intro ?_ (And.intro ?_ (And.intro ?_ (And.intro ?_ (And.intro ?_ (And.intro ?_ (And.intro ?_ (And.intro ?_ (And.intro ?_ (And.intro ?_ (And.intro ?_ (And.intro ?_ (And.intro ?_ (And.intro ?_ (And.intro ?_ (And.intro ?_ (And.intro ?_ (And.intro ?_ (True.intro))))))))))))))))))))))))))))
              · intro listed a' w' hw hd K hK
                refine step_free rfl ?_
                apply wp_move
                exact hK _ _ (Below.refl _ _) (fun s hs => by cases hs; exact hw.kept 12 (by kernel_rfl))
              · intro listed a' w' hw hd K hK
                have hv87 : a'.tmps.getD 87 undef = Value.string sx := (hw.at_ 0 87 rfl (hd ⟨0, .data⟩ (by simp) rfl))
                refine step_free rfl ?_
                unfold Oper.wp
                simp only [execOp]
                go_simp
                exact hK _ _ (Below.refl _ _) (fun s hs => by cases hs; rfl)
              · intro listed a' w' hw hd K hK
                refine step_free rfl ?_
                apply wp_move
                exact hK _ _ (Below.refl _ _) (fun s hs => by cases hs; exact hw.kept 1 (by kernel_rfl))
              · intro listed a' w' hw hd K hK
                have hv88 : a'.tmps.getD 88 undef = .int .i64 (sx.size : Int) := (hw.at_ 1 88 rfl (hd ⟨1, .data⟩ (by simp) rfl))
                have hv89 : a'.tmps.getD 89 undef = .int .i64 most := (hw.at_ 2 89 rfl (hd ⟨2, .data⟩ (by simp) rfl))
                refine step_free rfl ?_
                unfold Oper.wp
                simp only [execOp]
                go_simp
                exact hK _ _ (Below.refl _ _) (fun s hs => by cases hs; rfl)
              · intro listed a' w' hw hd K hK
                refine step_free rfl ?_
                apply wp_move
                exact hK _ _ (Below.refl _ _) (fun s hs => by cases hs; exact (hw.at_ 3 90 rfl (hd ⟨3, .data⟩ (by simp) rfl)))
              · intro listed a' w' hw hd K hK
                have hgd : a'.tmps.getD 91 undef = .bool true := (hw.at_ 4 91 rfl (hd ⟨4, .guard⟩ (by simp) rfl))
                refine step_guarded (j := 4) (b := true) (s := 91) rfl rfl (by rw [hw.size]; exact Nat.lt_of_lt_of_eq (show 91 < 114 by omega) rfl) hgd ?_
                apply wp_move
                exact hK _ _ (Below.refl _ _) (fun s hs => by cases hs; exact hw.kept 9 (by kernel_rfl))
              · intro listed a' w' hw hd K hK
                have hgd : a'.tmps.getD 91 undef = .bool true := (hw.at_ 4 91 rfl (hd ⟨4, .guard⟩ (by simp) rfl))
                have hv92 : a'.tmps.getD 92 undef = .int .i64 (t : Int) := (hw.at_ 5 92 rfl (hd ⟨5, .data⟩ (by simp) rfl))
                refine step_guarded (j := 4) (b := true) (s := 91) rfl rfl (by rw [hw.size]; exact Nat.lt_of_lt_of_eq (show 91 < 114 by omega) rfl) hgd ?_
                unfold Oper.wp
                simp only [execOp]
                go_simp
                exact hK _ _ (Below.refl _ _) (fun s hs => by cases hs; rfl)
              · intro listed a' w' hw hd K hK
                have hv91 : a'.tmps.getD 91 undef = .bool true := (hw.at_ 4 91 rfl (hd ⟨4, .data⟩ (by simp) rfl))
                have hv93 : a'.tmps.getD 93 undef = .bool true := (hw.at_ 6 93 rfl (hd ⟨6, .data⟩ (by simp) rfl))
                refine step_free rfl ?_
                unfold Oper.wp
                simp only [execOp]
                go_simp
                exact hK _ _ (Below.refl _ _) (fun s hs => by cases hs; rfl)
              · intro listed a' w' hw hd K hK
                refine step_free rfl ?_
                apply wp_move
                exact hK _ _ (Below.refl _ _) (fun s hs => by cases hs; exact (hw.at_ 7 94 rfl (hd ⟨7, .data⟩ (by simp) rfl)))
              · intro listed a' w' hw hd K hK
                have hgd : a'.tmps.getD 95 undef = .bool true := (hw.at_ 8 95 rfl (hd ⟨8, .guard⟩ (by simp) rfl))
                refine step_guarded (j := 8) (b := true) (s := 95) rfl rfl (by rw [hw.size]; exact Nat.lt_of_lt_of_eq (show 95 < 114 by omega) rfl) hgd ?_
                apply wp_move
                exact hK _ _ (Below.refl _ _) (fun s hs => by cases hs; exact hw.kept 9 (by kernel_rfl))
              · intro listed a' w' hw hd K hK
                have hgd : a'.tmps.getD 95 undef = .bool true := (hw.at_ 8 95 rfl (hd ⟨8, .guard⟩ (by simp) rfl))
                refine step_guarded (j := 8) (b := true) (s := 95) rfl rfl (by rw [hw.size]; exact Nat.lt_of_lt_of_eq (show 95 < 114 by omega) rfl) hgd ?_
                apply wp_move
                exact hK _ _ (Below.refl _ _) (fun s hs => by cases hs; exact hw.kept 0 (by kernel_rfl))
              · intro listed a' w' hw hd K hK
                have hgd : a'.tmps.getD 95 undef = .bool true := (hw.at_ 8 95 rfl (hd ⟨8, .guard⟩ (by simp) rfl))
                have hv97 : a'.tmps.getD 97 undef = .slice A0 n0 c0 := (hw.at_ 10 97 rfl (hd ⟨10, .data⟩ (by simp) rfl))
                refine step_guarded (j := 8) (b := true) (s := 95) rfl rfl (by rw [hw.size]; exact Nat.lt_of_lt_of_eq (show 95 < 114 by omega) rfl) hgd ?_
                unfold Oper.wp
                simp only [execOp]
                go_simp
                exact hK _ _ (Below.refl _ _) (fun s hs => by cases hs; rfl)
              · intro listed a' w' hw hd K hK
                have hgd : a'.tmps.getD 95 undef = .bool true := (hw.at_ 8 95 rfl (hd ⟨8, .guard⟩ (by simp) rfl))
                have hv96 : a'.tmps.getD 96 undef = .int .i64 (t : Int) := (hw.at_ 9 96 rfl (hd ⟨9, .data⟩ (by simp) rfl))
                have hv98 : a'.tmps.getD 98 undef = .int .i64 (n0 : Int) := (hw.at_ 11 98 rfl (hd ⟨11, .data⟩ (by simp) rfl))
                refine step_guarded (j := 8) (b := true) (s := 95) rfl rfl (by rw [hw.size]; exact Nat.lt_of_lt_of_eq (show 95 < 114 by omega) rfl) hgd ?_
                unfold Oper.wp
                simp only [execOp]
                go_simp
                exact hK _ _ (Below.refl _ _) (fun s hs => by cases hs; rfl)
              · intro listed a' w' hw hd K hK
                have hv95 : a'.tmps.getD 95 undef = .bool true := (hw.at_ 8 95 rfl (hd ⟨8, .data⟩ (by simp) rfl))
                have hv99 : a'.tmps.getD 99 undef = .bool true := (hw.at_ 12 99 rfl (hd ⟨12, .data⟩ (by simp) rfl))
                refine step_free rfl ?_
                unfold Oper.wp
                simp only [execOp]
                go_simp
                exact hK _ _ (Below.refl _ _) (fun s hs => by cases hs; rfl)
              · intro listed a' w' hw hd K hK
                refine step_free rfl ?_
                apply wp_move
                exact hK _ _ (Below.refl _ _) (fun s hs => by cases hs; exact (hw.at_ 13 100 rfl (hd ⟨13, .data⟩ (by simp) rfl)))
              · intro listed a' w' hw hd K hK
                have hgd : a'.tmps.getD 101 undef = .bool true := (hw.at_ 14 101 rfl (hd ⟨14, .guard⟩ (by simp) rfl))
                refine step_guarded (j := 14) (b := true) (s := 101) rfl rfl (by rw [hw.size]; exact Nat.lt_of_lt_of_eq (show 101 < 114 by omega) rfl) hgd ?_
                apply wp_move
                exact hK _ _ (Below.refl _ _) (fun s hs => by cases hs; exact hw.kept 11 (by kernel_rfl))
              · intro listed a' w' hw hd K hK
                have hgd : a'.tmps.getD 101 undef = .bool true := (hw.at_ 14 101 rfl (hd ⟨14, .guard⟩ (by simp) rfl))
                have hv102 : a'.tmps.getD 102 undef = .pointer (some ⟨p2, 0, none⟩) := (hw.at_ 15 102 rfl (hd ⟨15, .data⟩ (by simp) rfl))
                refine step_guarded (j := 14) (b := true) (s := 101) rfl rfl (by rw [hw.size]; exact Nat.lt_of_lt_of_eq (show 101 < 114 by omega) rfl) hgd ?_
                have hO := Lib.hid (hO2.out.later (below_drew_left hw.below))
                unfold Oper.wp
                simp only [execOp]
                go_simp
                refine (bytes_at hO.out LR2.out).mono ?_
                rintro e w2 ⟨A2, c2, rfl, ho2, hb2⟩
                exact hK _ _ hb2.out (fun s hs => by cases hs; exact ⟨A2, c2, rfl, ho2.out.bytes⟩)
              · intro listed a' w' hw hd K hK
                have hgd : a'.tmps.getD 101 undef = .bool true := (hw.at_ 14 101 rfl (hd ⟨14, .guard⟩ (by simp) rfl))
                have hv103 : BytesV acc w' (a'.tmps.getD 103 undef) := (hw.at_ 16 103 rfl (hd ⟨16, .data⟩ (by simp) rfl))
                refine step_guarded (j := 14) (b := true) (s := 101) rfl rfl (by rw [hw.size]; exact Nat.lt_of_lt_of_eq (show 101 < 114 by omega) rfl) hgd ?_
                obtain ⟨A2, c2, hv, hb2⟩ := hv103
                have C := conv_str c2 hb2 rfl
                unfold Oper.wp
                simp only [execOp]
                go_simp
                exact hK _ _ (Below.refl _ _) (fun s hs => by cases hs; rfl)
              · intro listed a' w' hw hd K hK
                have hgd : a'.tmps.getD 101 undef = .bool true := (hw.at_ 14 101 rfl (hd ⟨14, .guard⟩ (by simp) rfl))
                refine step_guarded (j := 14) (b := true) (s := 101) rfl rfl (by rw [hw.size]; exact Nat.lt_of_lt_of_eq (show 101 < 114 by omega) rfl) hgd ?_
                apply wp_move
                exact hK _ _ (Below.refl _ _) (fun s hs => by cases hs; exact hw.kept 0 (by kernel_rfl))
              · intro listed a' w' hw hd K hK
                have hgd : a'.tmps.getD 101 undef = .bool true := (hw.at_ 14 101 rfl (hd ⟨14, .guard⟩ (by simp) rfl))
                refine step_guarded (j := 14) (b := true) (s := 101) rfl rfl (by rw [hw.size]; exact Nat.lt_of_lt_of_eq (show 101 < 114 by omega) rfl) hgd ?_
                apply wp_move
                exact hK _ _ (Below.refl _ _) (fun s hs => by cases hs; exact hw.kept 9 (by kernel_rfl))
              · intro listed a' w' hw hd K hK
                have hgd : a'.tmps.getD 101 undef = .bool true := (hw.at_ 14 101 rfl (hd ⟨14, .guard⟩ (by simp) rfl))
                have hv105 : a'.tmps.getD 105 undef = .slice A0 n0 c0 := (hw.at_ 18 105 rfl (hd ⟨18, .data⟩ (by simp) rfl))
                have hv106 : a'.tmps.getD 106 undef = .int .i64 (t : Int) := (hw.at_ 19 106 rfl (hd ⟨19, .data⟩ (by simp) rfl))
                refine step_guarded (j := 14) (b := true) (s := 101) rfl rfl (by rw [hw.size]; exact Nat.lt_of_lt_of_eq (show 101 < 114 by omega) rfl) hgd ?_
                unfold Oper.wp
                simp only [execOp]
                go_simp
                exact hK _ _ (Below.refl _ _) (fun s hs => by cases hs; rfl)
              · intro listed a' w' hw hd K hK
                have hgd : a'.tmps.getD 101 undef = .bool true := (hw.at_ 14 101 rfl (hd ⟨14, .guard⟩ (by simp) rfl))
                have hv107 : a'.tmps.getD 107 undef = .slice A0 t c0 := (hw.at_ 20 107 rfl (hd ⟨20, .data⟩ (by simp) rfl))
                have C := conv_str (w := w') c0 (HBT.out.below (hO2.out.below.trans ((below_drew_left hw.below).mono hO2.out.below.size))) HTL.out
                refine step_guarded (j := 14) (b := true) (s := 101) rfl rfl (by rw [hw.size]; exact Nat.lt_of_lt_of_eq (show 101 < 114 by omega) rfl) hgd ?_
                unfold Oper.wp
                simp only [execOp]
                go_simp
                exact hK _ _ (Below.refl _ _) (fun s hs => by cases hs; rfl)
              · intro listed a' w' hw hd K hK
                have hgd : a'.tmps.getD 101 undef = .bool true := (hw.at_ 14 101 rfl (hd ⟨14, .guard⟩ (by simp) rfl))
                have hv104 : a'.tmps.getD 104 undef = Value.string ⟨acc.toArray⟩ := (hw.at_ 17 104 rfl (hd ⟨17, .data⟩ (by simp) rfl))
                have hv108 : a'.tmps.getD 108 undef = Value.string ⟨acc.toArray⟩ := (hw.at_ 21 108 rfl (hd ⟨21, .data⟩ (by simp) rfl))
                refine step_guarded (j := 14) (b := true) (s := 101) rfl rfl (by rw [hw.size]; exact Nat.lt_of_lt_of_eq (show 101 < 114 by omega) rfl) hgd ?_
                unfold Oper.wp
                simp only [execOp]
                go_simp
                exact hK _ _ (Below.refl _ _) (fun s hs => by cases hs; rfl)
              · intro listed a' w' hw hd K hK
                have hv101 : a'.tmps.getD 101 undef = .bool true := (hw.at_ 14 101 rfl (hd ⟨14, .data⟩ (by simp) rfl))
                have hv109 : a'.tmps.getD 109 undef = .bool true := (hw.at_ 22 109 rfl (hd ⟨22, .data⟩ (by simp) rfl))
                refine step_free rfl ?_
                unfold Oper.wp
                simp only [execOp]
                go_simp
                exact hK _ _ (Below.refl _ _) (fun s hs => by cases hs; rfl)
              · intro listed a' w' hw hd K hK
                refine step_free rfl ?_
                apply wp_move
                exact hK _ _ (Below.refl _ _) (fun s hs => by cases hs; exact (hw.at_ 23 110 rfl (hd ⟨23, .data⟩ (by simp) rfl)))
              · intro listed a' w' hw hd K hK
                have hgd : a'.tmps.getD 111 undef = .bool true := (hw.at_ 24 111 rfl (hd ⟨24, .guard⟩ (by simp) rfl))
                refine step_guarded (j := 24) (b := true) (s := 111) rfl rfl (by rw [hw.size]; exact Nat.lt_of_lt_of_eq (show 111 < 114 by omega) rfl) hgd ?_
                unfold Oper.wp
                simp only [execOp]
                go_simp
                refine (awake_any w').mono ?_
                rintro e w2 ⟨rfl, hb2⟩
                exact hK _ _ hb2.out (fun s hs => by cases hs; rfl)
              · intro listed a' w' hw hd K hK
                have hv111 : a'.tmps.getD 111 undef = .bool true := (hw.at_ 24 111 rfl (hd ⟨24, .data⟩ (by simp) rfl))
                have hv112 : a'.tmps.getD 112 undef = .bool true := (hw.at_ 25 112 rfl (hd ⟨25, .data⟩ (by simp) rfl))
                refine step_free rfl ?_
                unfold Oper.wp
                simp only [execOp]
                go_simp
                exact hK _ _ (Below.refl _ _) (fun s hs => by cases hs; rfl)
              · intro listed a' w' hw hd K hK
                refine step_free rfl ?_
                apply wp_assign
                exact hK _ _ (Below.refl _ _) (fun s hs => by cases hs; exact (hw.at_ 26 113 rfl (hd ⟨26, .data⟩ (by simp) rfl)))
            · intro listed a' w9 hw hall
              have h2 : a'.tmps.getD 4 undef = .bool true := hw.at_ 27 4 rfl (hall 27 (Nat.lt_of_lt_of_eq (show 27 < 28 by omega) rfl))
              have hdf : a'.defers = [] := hw.defers
              have hbF9 : Hid (Below w.heap.size w w9) := Lib.hid (hO2.out.below.trans ((below_drew_left hw.below).mono hO2.out.size))
              clear hw hall
              go_wp2
              have hr := results_tmp (fn := Try.f9) (t := 4) rfl a'.tmps Try.prog w9
              rw [h2] at hr
              exact bodyPost_ret hr hdf ⟨rfl, hbF9⟩
      · have HU := Lib.hid (uint_some hz)
        obtain ⟨pf1, pf2⟩ := parse_form l hz
        have hpl := parse_le l
        have HX := Lib.hid (parse_lt l)
        have HACC : Hid (L = (acc ++ shortL (parse l).1) ++ l.drop (parse l).2) := Lib.hid (by rw [hL2.out, List.append_assoc, ← pf2, List.take_append_drop])
        have hsp := shortL_pos (parse l).1
        generalize (parse l).1 = x at *
        generalize (parse l).2 = gn at *
        clear hz pf2
        go_wp2_with fail
        refine (uint_any q d ⟨l, false⟩ wr hR.out.rd (by simp only; omega)).mono ?_
        rintro e V1 ⟨rfl, e1, e2⟩
        rw [HU.out] at e1
        rw [HU.out]
        have hW1 := Lib.hid (hW.out.overR hR.out e2.out)
        have hR1 := Lib.hid (hR.out.step (s' := ⟨l.drop gn, false⟩) e1 e2)
        clear e1 e2 hW hR HU
        go_wp2_with fail
        refine (err_ok q d _ V1 hR1.out.rd).mono ?_
        rintro e V2 ⟨rfl, rfl⟩
        go_wp2_with fail
        refine (uint_at hW1.out x HX.out (by omega)).mono ?_
        rintro e V2 ⟨rfl, g2, o2, n2, f2⟩
        have hR2 := Lib.hid (hR1.out.over hW1.out hap.out f2.out)
        have hap2 : Hid (Ap d g2) := Lib.hid (hap.out.symm.new n2.out hR1.out.dlt).symm
        have hacl : Hid ((acc ++ shortL x).length ≤ n0) := Lib.hid (by have := congrArg List.length HACC.out; rw [HN.out, List.length_append] at this; omega)
        clear hW1 hR1 n2 f2 hap
        go_wp2_with fail
        refine (len_at o2.out _ rfl).mono ?_
        rintro e V3 ⟨rfl, rfl⟩
        have hl9 : ¬ (n0 : Int) < ((acc ++ shortL x).length : Int) := by have := hacl.out; omega
        have hl8 : k + 1 ≤ (acc ++ shortL x).length := by rw [List.length_append]; omega
        generalize acc ++ shortL x = acc2 at *
        go_wp2
        go_roundw
        case rel => exact ⟨k + 1, g2, l.drop gn, acc2, by go_num, hl8, HACC, hR2, o2, hap2⟩
        case measure => simp [intOf]; omega
end Go.Proofs.Ytcfdmimfpllckaa
