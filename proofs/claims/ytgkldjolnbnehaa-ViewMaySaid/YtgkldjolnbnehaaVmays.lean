/-
  The statement ViewMay's walk: whatever view and life, it answers true, and leaves all that was there as it was. No condition but that the view is a view, and the numbers are unsigned.
-/
import Derived.Test.YtgkldjolnbnehaaVawake
import Derived.Test.YtgkldjolnbnehaaVcopy
namespace Go.Proofs.Ytgkldjolnbnehaa
set_option maxRecDepth 20000
open Go.RowKit

def FstV (p : Life) (w : World) (v : Value) : Prop := ∃ A A', v = vwV (0, p) A 1 1 A' 1 1 ∧ Vm w 1 A 1 1 A' 1 1 [p] [0]
theorem FstV.mono {p : Life} {w w' : World} {v : Value} (hb : Below w.heap.size w w') (h : FstV p w v) : FstV p w' v := by
  obtain ⟨A, A', e, hv⟩ := h
  exact ⟨A, A', e, hv.on hb⟩
def MayG (b : Nat) (r x y p1 p2 : Int) (A : Option Addr) (n c : Nat) (A' : Option Addr) (m c' : Nat) (E : Option Addr) (e' : Nat) (D : Option Addr) (d' : Nat) (d1 d2 : Bool) (i : Nat) (w : World) (v : Value) : Prop :=
  match i with
  | 0 => v = vwV (r, (x, y)) E n e' D m d'
  | 1 => v = .bool d1
  | 2 => v = vwV (r, (x, y)) A n c A' m c'
  | 3 => v = .bool d1
  | 4 => v = .bool true
  | 5 => v = .bool true
  | 6 => v = Value.pointer (some ⟨b, 0, none⟩)
  | 7 => v = nmV (r, (x, y))
  | 8 => v = .bool d2
  | 9 => v = Value.pointer (some ⟨b, 0, none⟩)
  | 10 => v = nmV (r, (x, y))
  | 11 => v = .bool d2
  | 12 => v = .bool true
  | 13 => v = .bool true
  | 14 => v = .bool true
  | 15 => v = lifeV (p1, p2)
  | 16 => FstV (p1, p2) w v
  | 17 => v = lifeV (p1, p2)
  | 18 => FstV (p1, p2) w v
  | 19 => v = .bool true
  | 20 => v = .bool true
  | 21 => v = .bool true
  | 22 => v = vwV (r, (x, y)) E n e' D m d'
  | 23 => v = vwV (r, (x, y)) A n c A' m c'
  | 24 => v = .bool true
  | 25 => v = .bool true
  | 26 => v = .bool true
  | 27 => v = .bool true
  | 28 => v = .bool true
  | _ => v = .bool true
theorem MayG.mono {b : Nat} {r x y p1 p2 : Int} {A : Option Addr} {n c : Nat} {A' : Option Addr} {m c' : Nat} {E : Option Addr} {e' : Nat} {D : Option Addr} {d' : Nat} {d1 d2 : Bool} {i : Nat} {v : Value} {w w' : World} (hb : Below w.heap.size w w') (h : MayG b r x y p1 p2 A n c A' m c' E e' D d' d1 d2 i w v) : MayG b r x y p1 p2 A n c A' m c' E e' D d' d1 d2 i w' v := by
  unfold MayG at *
  split at h <;> first | exact h | exact FstV.mono hb h
set_option maxHeartbeats 8000000 in
theorem mays_walk (i : Nm) (A : Option Addr) (ms : List Life) (c : Nat) (A' : Option Addr) (ss : List Nat) (c' : Nat) (p : Life) (w : World) (hp0 : 0 ≤ p.2) (hp1 : p.2 < 18446744073709551616) (hi : UNm i) (h : Vm w 9223372036854775807 A ms.length c A' ss.length c' ms ss) :
    Calls Try.prog 3 #[vwV i A ms.length c A' ss.length c', lifeV p] w fun e w' => e = .returned (.bool true) ∧ Hid (Below w.heap.size w w') := by
  generalize hn : ms.length = n at *
  generalize hm : ss.length = m at *
  have mixed : Try.prog.follows .mixedOrders = true := by kernel_rfl
  have B2 := Lib.hid (two_below w (.cells (vwC i A n c A' m c') 30) (.cells #[.int .i64 p.1, .int .u64 p.2] 24))
  obtain ⟨r, x, y⟩ := i
  have HB := Lib.hid (box_vp w r x y A n c A' m c' p 30)
  have hle := h.le
  have hsle := h.sle
  have HV0 := Lib.hid h
  have HI := Lib.hid hi.2
  have HP := Lib.hid (And.intro hp0 hp1)
  clear h hn hm hp0 hp1 hi
  obtain ⟨p1, p2⟩ := p
  try simp only at HB B2
  go_enter Try.func3, Try.ntmps3
  obtain ⟨⟨k0, k1, k2, k3, k4⟩, ⟨k5, k6⟩⟩ := HB.out
  try simp only at k5 k6
  go_wp2_with fail
  have HV := Lib.hid (HV0.out.on B2.out)
  generalize ((w.alloc (.cells (vwC (r, (x, y)) A n c A' m c') 30)).alloc (.cells #[.int .i64 p1, .int .u64 p2] 24)) = W2 at *
  generalize hB : w.heap.size = b at HB k0 k1 k2 k3 k4 k5 k6 ⊢
  have HBB := Lib.hid hB
  clear hB HV0 k0 k1 k2 k3 k4 k5 k6
  refine (heavy4_any (r, (x, y)) A n c A' m c' W2 hle hsle).mono ?_
  rintro e W3 ⟨rfl, hb3⟩
  have B3 := Lib.hid (btr B2.out hb3.out)
  have KV3 := Lib.hid (HB.out.1.below hb3.out)
  have KP3 := Lib.hid (HB.out.2.below hb3.out)
  have V3 := Lib.hid (HV.out.on hb3.out)
  clear HB HV B2 hb3
  by_cases hh : 300 < n ∨ 300 < m
  · rw [decide_eq_true hh]
    go_wp2_with fail
    refine (awake4_any W3).mono ?_
    rintro e W4 ⟨rfl, hb4⟩
    go_wp2
    go_ret
    exact ⟨rfl, Lib.hid (btr B3.out hb4.out)⟩
  · rw [decide_eq_false hh]
    have V3 : Hid (Vm W3 300 A n c A' m c' ms ss) := Lib.hid ⟨V3.out.lives, V3.out.len, by omega, V3.out.cap, V3.out.uns, V3.out.nums, V3.out.slen, by omega, V3.out.scap, V3.out.u64⟩
    clear hh
    obtain ⟨k0, k1, k2, k3, k4⟩ := KV3.out
    go_wp2_with fail
    refine (copy_any (r, (x, y)) A n c A' m c' ms ss W3 V3.out (by omega)).mono ?_
    rintro e W4 ⟨E, e', D, d', rfl, hv4, hb4⟩
    clear k0 k1 k2 k3 k4
    have NB := Lib.hid (vbox_new W4 r x y E n e' D m d' 30)
    have bb := Lib.hid (below_box W4 (.cells (vwC (r, (x, y)) E n e' D m d') 30))
    have B5 := Lib.hid (btr B3.out (btr hb4.out bb.out))
    have KV5 := Lib.hid (KV3.out.below (btr hb4.out bb.out))
    have KP5 := Lib.hid (KP3.out.below (btr hb4.out bb.out))
    have V5 := Lib.hid (V3.out.on (btr hb4.out bb.out))
    have O5 := Lib.hid (hv4.out.on bb.out)
    clear B3 KV3 KP3 V3 hv4 hb4 bb
    go_wp2_with fail
    generalize W4.heap.size = g at *
    generalize W4.alloc (.cells (vwC (r, (x, y)) E n e' D m d') 30) = W5 at *
    have KV : Hid (VBox b r x y A n c A' m c' W5.drew) := KV5
    have KP : Hid (PBox (b + 1) p1 p2 W5.drew) := KP5
    have KO : Hid (VBox g r x y E n e' D m d' W5.drew) := NB
    have VV : Hid (Vm W5.drew 300 A n c A' m c' ms ss) := Lib.hid (V5.out.on (drew_bl (Below.refl _ _)))
    have VO : Hid (Vm W5.drew 300 E n e' D m d' ms ss) := Lib.hid (O5.out.on (drew_bl (Below.refl _ _)))
    have BD : Hid (Below w.heap.size w W5.drew) := Lib.hid (drew_bl B5.out)
    have HM1 := Lib.hid (fun W (hv : Vm W 300 E n e' D m d' ms ss) => vmay_any (r, (x, y)) HI.out E n e' D m d' ms ss W hv (by omega))
    have HM2 := Lib.hid (fun W (hv : Vm W 300 A n c A' m c' ms ss) => rvmay_any (r, (x, y)) HI.out A n c A' m c' ms ss W hv (by omega))
    have HI1 := Lib.hid (fun W => mayid_any (r, (x, y)) HI.out.1 W)
    have HI2 := Lib.hid (fun W => rmayid_any (r, (x, y)) HI.out.1 W)
    have HF1 := Lib.hid (fun W => first_any (p1, p2) W HP.out)
    have HF2 := Lib.hid (fun W => rfirst_any (p1, p2) W HP.out)
    have HSp := Lib.hid (fun W A3 A4 A5 A6 (h3 : Vm W 1 A3 1 1 A4 1 1 [(p1, p2)] [0]) (h5 : Vm W 1 A5 1 1 A6 1 1 [(p1, p2)] [0]) => rsame4_any (0, (p1, p2)) (0, (p1, p2)) A3 1 1 A4 1 1 [(p1, p2)] [0] A5 1 1 A6 1 1 [(p1, p2)] [0] W h3 h5 (by omega) (by omega))
    have HSv := Lib.hid (fun W (h3 : Vm W 300 E n e' D m d' ms ss) (h5 : Vm W 300 A n c A' m c' ms ss) => rsame4_any (r, (x, y)) (r, (x, y)) E n e' D m d' ms ss A n c A' m c' ms ss W h3 h5 (by omega) (by omega))
    rw [decide_eq_true rfl] at HSp HSv
    generalize decide (mayV ⟨(r, (x, y)), ms, ss⟩) = d1 at *
    generalize decide (mayNm (r, (x, y))) = d2 at *
    clear KV5 KP5 V5 O5 NB B5 HI HP
    refine region_steps (n := 40) (MayG b r x y p1 p2 A n c A' m c' E e' D d' d1 d2) (by kernel_rfl) (by kernel_rfl) rfl (fun _ _ _ _ hb h => MayG.mono hb h) ?_ ?_
    · refine And.intro ?_ (And.intro ?_ (And.intro ?_ (And.intro ?_ (And.intro ?_ (And.intro ?_ (And.intro ?_ (And.intro ?_ (And.intro ?_ (And.intro ?_ (And.intro ?_ (And.intro ?_ (And.intro ?_ (And.intro ?_ (And.intro ?_ (And.intro ?_ (And.intro ?_ (And.intro ?_ (And.intro ?_ (And.intro ?_ (And.intro ?_ (And.intro ?_ (And.intro ?_ (And.intro ?_ (And.intro ?_ (And.intro ?_ (And.intro ?_ (And.intro ?_ (And.intro ?_ (And.intro ?_ (True.intro))))))))))))))))))))))))))))))
      · intro listed a' w' hw hd K hK
        have hv5 := hw.kept 5 (by kernel_rfl)
        obtain ⟨k0, k1, k2, k3, k4⟩ := KO.out.below hw.below
        refine step_free rfl ?_
        unfold Oper.wp
        simp only [execOp]
        go_simp
        exact hK _ _ (Below.refl _ _) (fun s hs => by cases hs; rfl)
      · intro listed a' w' hw hd K hK
        have hv11 : a'.tmps.getD 11 undef = vwV (r, (x, y)) E n e' D m d' := (hw.at_ 0 11 rfl (hd ⟨0, .data⟩ (by simp) rfl))
        refine step_free rfl ?_
        unfold Oper.wp
        simp only [execOp]
        go_simp
        refine (HM1.out w' (VO.out.on hw.below)).mono ?_
        rintro e w2 ⟨rfl, hb2⟩
        exact hK _ _ hb2.out (fun s hs => by cases hs; rfl)
      · intro listed a' w' hw hd K hK
        have hv2 := hw.kept 2 (by kernel_rfl)
        obtain ⟨k0, k1, k2, k3, k4⟩ := KV.out.below hw.below
        refine step_free rfl ?_
        unfold Oper.wp
        simp only [execOp]
        go_simp
        exact hK _ _ (Below.refl _ _) (fun s hs => by cases hs; rfl)
      · intro listed a' w' hw hd K hK
        have hv13 : a'.tmps.getD 13 undef = vwV (r, (x, y)) A n c A' m c' := (hw.at_ 2 13 rfl (hd ⟨2, .data⟩ (by simp) rfl))
        refine step_free rfl ?_
        unfold Oper.wp
        simp only [execOp]
        go_simp
        refine (HM2.out w' (VV.out.on hw.below)).mono ?_
        rintro e w2 ⟨rfl, hb2⟩
        exact hK _ _ hb2.out (fun s hs => by cases hs; rfl)
      · intro listed a' w' hw hd K hK
        have hv12 : a'.tmps.getD 12 undef = .bool d1 := (hw.at_ 1 12 rfl (hd ⟨1, .data⟩ (by simp) rfl))
        have hv14 : a'.tmps.getD 14 undef = .bool d1 := (hw.at_ 3 14 rfl (hd ⟨3, .data⟩ (by simp) rfl))
        have e1 : (d1 == d1) = true := by simp
        refine step_free rfl ?_
        unfold Oper.wp
        simp only [execOp]
        go_simp
        exact hK _ _ (Below.refl _ _) (fun s hs => by cases hs; rfl)
      · intro listed a' w' hw hd K hK
        refine step_free rfl ?_
        apply wp_move
        exact hK _ _ (Below.refl _ _) (fun s hs => by cases hs; exact (hw.at_ 4 15 rfl (hd ⟨4, .data⟩ (by simp) rfl)))
      · intro listed a' w' hw hd K hK
        have hgd : a'.tmps.getD 16 undef = .bool true := (hw.at_ 5 16 rfl (hd ⟨5, .guard⟩ (by simp) rfl))
        have hv2 := hw.kept 2 (by kernel_rfl)
        refine step_guarded (j := 5) (b := true) (s := 16) rfl rfl (by rw [hw.size]; exact Nat.lt_of_lt_of_eq (show 16 < 40 by omega) rfl) hgd ?_
        unfold Oper.wp
        simp only [execOp]
        go_simp
        exact hK _ _ (Below.refl _ _) (fun s hs => by cases hs; rfl)
      · intro listed a' w' hw hd K hK
        have hgd : a'.tmps.getD 16 undef = .bool true := (hw.at_ 5 16 rfl (hd ⟨5, .guard⟩ (by simp) rfl))
        have hv17 : a'.tmps.getD 17 undef = Value.pointer (some ⟨b, 0, none⟩) := (hw.at_ 6 17 rfl (hd ⟨6, .data⟩ (by simp) rfl))
        obtain ⟨k0, k1, k2, k3, k4⟩ := KV.out.below hw.below
        refine step_guarded (j := 5) (b := true) (s := 16) rfl rfl (by rw [hw.size]; exact Nat.lt_of_lt_of_eq (show 16 < 40 by omega) rfl) hgd ?_
        unfold Oper.wp
        simp only [execOp]
        go_simp
        exact hK _ _ (Below.refl _ _) (fun s hs => by cases hs; rfl)
      · intro listed a' w' hw hd K hK
        have hgd : a'.tmps.getD 16 undef = .bool true := (hw.at_ 5 16 rfl (hd ⟨5, .guard⟩ (by simp) rfl))
        have hv18 : a'.tmps.getD 18 undef = nmV (r, (x, y)) := (hw.at_ 7 18 rfl (hd ⟨7, .data⟩ (by simp) rfl))
        refine step_guarded (j := 5) (b := true) (s := 16) rfl rfl (by rw [hw.size]; exact Nat.lt_of_lt_of_eq (show 16 < 40 by omega) rfl) hgd ?_
        unfold Oper.wp
        simp only [execOp]
        go_simp
        refine (HI1.out w').mono ?_
        rintro e w2 ⟨rfl, hb2⟩
        exact hK _ _ hb2.out (fun s hs => by cases hs; rfl)
      · intro listed a' w' hw hd K hK
        have hgd : a'.tmps.getD 16 undef = .bool true := (hw.at_ 5 16 rfl (hd ⟨5, .guard⟩ (by simp) rfl))
        have hv2 := hw.kept 2 (by kernel_rfl)
        refine step_guarded (j := 5) (b := true) (s := 16) rfl rfl (by rw [hw.size]; exact Nat.lt_of_lt_of_eq (show 16 < 40 by omega) rfl) hgd ?_
        unfold Oper.wp
        simp only [execOp]
        go_simp
        exact hK _ _ (Below.refl _ _) (fun s hs => by cases hs; rfl)
      · intro listed a' w' hw hd K hK
        have hgd : a'.tmps.getD 16 undef = .bool true := (hw.at_ 5 16 rfl (hd ⟨5, .guard⟩ (by simp) rfl))
        have hv20 : a'.tmps.getD 20 undef = Value.pointer (some ⟨b, 0, none⟩) := (hw.at_ 9 20 rfl (hd ⟨9, .data⟩ (by simp) rfl))
        obtain ⟨k0, k1, k2, k3, k4⟩ := KV.out.below hw.below
        refine step_guarded (j := 5) (b := true) (s := 16) rfl rfl (by rw [hw.size]; exact Nat.lt_of_lt_of_eq (show 16 < 40 by omega) rfl) hgd ?_
        unfold Oper.wp
        simp only [execOp]
        go_simp
        exact hK _ _ (Below.refl _ _) (fun s hs => by cases hs; rfl)
      · intro listed a' w' hw hd K hK
        have hgd : a'.tmps.getD 16 undef = .bool true := (hw.at_ 5 16 rfl (hd ⟨5, .guard⟩ (by simp) rfl))
        have hv21 : a'.tmps.getD 21 undef = nmV (r, (x, y)) := (hw.at_ 10 21 rfl (hd ⟨10, .data⟩ (by simp) rfl))
        refine step_guarded (j := 5) (b := true) (s := 16) rfl rfl (by rw [hw.size]; exact Nat.lt_of_lt_of_eq (show 16 < 40 by omega) rfl) hgd ?_
        unfold Oper.wp
        simp only [execOp]
        go_simp
        refine (HI2.out w').mono ?_
        rintro e w2 ⟨rfl, hb2⟩
        exact hK _ _ hb2.out (fun s hs => by cases hs; rfl)
      · intro listed a' w' hw hd K hK
        have hgd : a'.tmps.getD 16 undef = .bool true := (hw.at_ 5 16 rfl (hd ⟨5, .guard⟩ (by simp) rfl))
        have hv19 : a'.tmps.getD 19 undef = .bool d2 := (hw.at_ 8 19 rfl (hd ⟨8, .data⟩ (by simp) rfl))
        have hv22 : a'.tmps.getD 22 undef = .bool d2 := (hw.at_ 11 22 rfl (hd ⟨11, .data⟩ (by simp) rfl))
        have e1 : (d2 == d2) = true := by simp
        refine step_guarded (j := 5) (b := true) (s := 16) rfl rfl (by rw [hw.size]; exact Nat.lt_of_lt_of_eq (show 16 < 40 by omega) rfl) hgd ?_
        unfold Oper.wp
        simp only [execOp]
        go_simp
        exact hK _ _ (Below.refl _ _) (fun s hs => by cases hs; rfl)
      · intro listed a' w' hw hd K hK
        have hv16 : a'.tmps.getD 16 undef = .bool true := (hw.at_ 5 16 rfl (hd ⟨5, .data⟩ (by simp) rfl))
        have hv23 : a'.tmps.getD 23 undef = .bool true := (hw.at_ 12 23 rfl (hd ⟨12, .data⟩ (by simp) rfl))
        refine step_free rfl ?_
        unfold Oper.wp
        simp only [execOp]
        go_simp
        exact hK _ _ (Below.refl _ _) (fun s hs => by cases hs; rfl)
      · intro listed a' w' hw hd K hK
        refine step_free rfl ?_
        apply wp_move
        exact hK _ _ (Below.refl _ _) (fun s hs => by cases hs; exact (hw.at_ 13 24 rfl (hd ⟨13, .data⟩ (by simp) rfl)))
      · intro listed a' w' hw hd K hK
        have hgd : a'.tmps.getD 25 undef = .bool true := (hw.at_ 14 25 rfl (hd ⟨14, .guard⟩ (by simp) rfl))
        have hv3 := hw.kept 3 (by kernel_rfl)
        obtain ⟨k0, k1⟩ := KP.out.below hw.below
        refine step_guarded (j := 14) (b := true) (s := 25) rfl rfl (by rw [hw.size]; exact Nat.lt_of_lt_of_eq (show 25 < 40 by omega) rfl) hgd ?_
        unfold Oper.wp
        simp only [execOp]
        go_simp
        exact hK _ _ (Below.refl _ _) (fun s hs => by cases hs; rfl)
      · intro listed a' w' hw hd K hK
        have hgd : a'.tmps.getD 25 undef = .bool true := (hw.at_ 14 25 rfl (hd ⟨14, .guard⟩ (by simp) rfl))
        have hv26 : a'.tmps.getD 26 undef = lifeV (p1, p2) := (hw.at_ 15 26 rfl (hd ⟨15, .data⟩ (by simp) rfl))
        refine step_guarded (j := 14) (b := true) (s := 25) rfl rfl (by rw [hw.size]; exact Nat.lt_of_lt_of_eq (show 25 < 40 by omega) rfl) hgd ?_
        unfold Oper.wp
        simp only [execOp]
        go_simp
        refine (HF1.out w').mono ?_
        rintro e w2 ⟨A3, A4, rfl, hv3, hb2⟩
        exact hK _ _ hb2.out (fun s hs => by cases hs; exact ⟨A3, A4, rfl, hv3.out⟩)
      · intro listed a' w' hw hd K hK
        have hgd : a'.tmps.getD 25 undef = .bool true := (hw.at_ 14 25 rfl (hd ⟨14, .guard⟩ (by simp) rfl))
        have hv3 := hw.kept 3 (by kernel_rfl)
        obtain ⟨k0, k1⟩ := KP.out.below hw.below
        refine step_guarded (j := 14) (b := true) (s := 25) rfl rfl (by rw [hw.size]; exact Nat.lt_of_lt_of_eq (show 25 < 40 by omega) rfl) hgd ?_
        unfold Oper.wp
        simp only [execOp]
        go_simp
        exact hK _ _ (Below.refl _ _) (fun s hs => by cases hs; rfl)
      · intro listed a' w' hw hd K hK
        have hgd : a'.tmps.getD 25 undef = .bool true := (hw.at_ 14 25 rfl (hd ⟨14, .guard⟩ (by simp) rfl))
        have hv28 : a'.tmps.getD 28 undef = lifeV (p1, p2) := (hw.at_ 17 28 rfl (hd ⟨17, .data⟩ (by simp) rfl))
        refine step_guarded (j := 14) (b := true) (s := 25) rfl rfl (by rw [hw.size]; exact Nat.lt_of_lt_of_eq (show 25 < 40 by omega) rfl) hgd ?_
        unfold Oper.wp
        simp only [execOp]
        go_simp
        refine (HF2.out w').mono ?_
        rintro e w2 ⟨A3, A4, rfl, hv3, hb2⟩
        exact hK _ _ hb2.out (fun s hs => by cases hs; exact ⟨A3, A4, rfl, hv3.out⟩)
      · intro listed a' w' hw hd K hK
        have hgd : a'.tmps.getD 25 undef = .bool true := (hw.at_ 14 25 rfl (hd ⟨14, .guard⟩ (by simp) rfl))
        have hv27 : FstV (p1, p2) w' (a'.tmps.getD 27 undef) := (hw.at_ 16 27 rfl (hd ⟨16, .data⟩ (by simp) rfl))
        have hv29 : FstV (p1, p2) w' (a'.tmps.getD 29 undef) := (hw.at_ 18 29 rfl (hd ⟨18, .data⟩ (by simp) rfl))
        refine step_guarded (j := 14) (b := true) (s := 25) rfl rfl (by rw [hw.size]; exact Nat.lt_of_lt_of_eq (show 25 < 40 by omega) rfl) hgd ?_
        obtain ⟨A3, A4, e3, h3⟩ := hv27
        obtain ⟨A5, A6, e5, h5⟩ := hv29
        have e3 : a'.tmps.getD 27 undef = .agg #[.int .u64 0, .int .i64 p1, .int .u64 p2, .slice A3 1 1, .slice A4 1 1] := e3
        have e5 : a'.tmps.getD 29 undef = .agg #[.int .u64 0, .int .i64 p1, .int .u64 p2, .slice A5 1 1, .slice A6 1 1] := e5
        unfold Oper.wp
        simp only [execOp]
        go_simp
        refine (HSp.out w' A3 A4 A5 A6 h3 h5).mono ?_
        rintro e w2 ⟨rfl, hb2⟩
        exact hK _ _ hb2.out (fun s hs => by cases hs; rfl)
      · intro listed a' w' hw hd K hK
        have hv25 : a'.tmps.getD 25 undef = .bool true := (hw.at_ 14 25 rfl (hd ⟨14, .data⟩ (by simp) rfl))
        have hv30 : a'.tmps.getD 30 undef = .bool true := (hw.at_ 19 30 rfl (hd ⟨19, .data⟩ (by simp) rfl))
        refine step_free rfl ?_
        unfold Oper.wp
        simp only [execOp]
        go_simp
        exact hK _ _ (Below.refl _ _) (fun s hs => by cases hs; rfl)
      · intro listed a' w' hw hd K hK
        refine step_free rfl ?_
        apply wp_move
        exact hK _ _ (Below.refl _ _) (fun s hs => by cases hs; exact (hw.at_ 20 31 rfl (hd ⟨20, .data⟩ (by simp) rfl)))
      · intro listed a' w' hw hd K hK
        have hgd : a'.tmps.getD 32 undef = .bool true := (hw.at_ 21 32 rfl (hd ⟨21, .guard⟩ (by simp) rfl))
        have hv5 := hw.kept 5 (by kernel_rfl)
        obtain ⟨k0, k1, k2, k3, k4⟩ := KO.out.below hw.below
        refine step_guarded (j := 21) (b := true) (s := 32) rfl rfl (by rw [hw.size]; exact Nat.lt_of_lt_of_eq (show 32 < 40 by omega) rfl) hgd ?_
        unfold Oper.wp
        simp only [execOp]
        go_simp
        exact hK _ _ (Below.refl _ _) (fun s hs => by cases hs; rfl)
      · intro listed a' w' hw hd K hK
        have hgd : a'.tmps.getD 32 undef = .bool true := (hw.at_ 21 32 rfl (hd ⟨21, .guard⟩ (by simp) rfl))
        have hv2 := hw.kept 2 (by kernel_rfl)
        obtain ⟨k0, k1, k2, k3, k4⟩ := KV.out.below hw.below
        refine step_guarded (j := 21) (b := true) (s := 32) rfl rfl (by rw [hw.size]; exact Nat.lt_of_lt_of_eq (show 32 < 40 by omega) rfl) hgd ?_
        unfold Oper.wp
        simp only [execOp]
        go_simp
        exact hK _ _ (Below.refl _ _) (fun s hs => by cases hs; rfl)
      · intro listed a' w' hw hd K hK
        have hgd : a'.tmps.getD 32 undef = .bool true := (hw.at_ 21 32 rfl (hd ⟨21, .guard⟩ (by simp) rfl))
        have hv33 : a'.tmps.getD 33 undef = vwV (r, (x, y)) E n e' D m d' := (hw.at_ 22 33 rfl (hd ⟨22, .data⟩ (by simp) rfl))
        have hv34 : a'.tmps.getD 34 undef = vwV (r, (x, y)) A n c A' m c' := (hw.at_ 23 34 rfl (hd ⟨23, .data⟩ (by simp) rfl))
        refine step_guarded (j := 21) (b := true) (s := 32) rfl rfl (by rw [hw.size]; exact Nat.lt_of_lt_of_eq (show 32 < 40 by omega) rfl) hgd ?_
        unfold Oper.wp
        simp only [execOp]
        go_simp
        refine (HSv.out w' (VO.out.on hw.below) (VV.out.on hw.below)).mono ?_
        rintro e w2 ⟨rfl, hb2⟩
        exact hK _ _ hb2.out (fun s hs => by cases hs; rfl)
      · intro listed a' w' hw hd K hK
        have hv32 : a'.tmps.getD 32 undef = .bool true := (hw.at_ 21 32 rfl (hd ⟨21, .data⟩ (by simp) rfl))
        have hv35 : a'.tmps.getD 35 undef = .bool true := (hw.at_ 24 35 rfl (hd ⟨24, .data⟩ (by simp) rfl))
        refine step_free rfl ?_
        unfold Oper.wp
        simp only [execOp]
        go_simp
        exact hK _ _ (Below.refl _ _) (fun s hs => by cases hs; rfl)
      · intro listed a' w' hw hd K hK
        refine step_free rfl ?_
        apply wp_move
        exact hK _ _ (Below.refl _ _) (fun s hs => by cases hs; exact (hw.at_ 25 36 rfl (hd ⟨25, .data⟩ (by simp) rfl)))
      · intro listed a' w' hw hd K hK
        have hgd : a'.tmps.getD 37 undef = .bool true := (hw.at_ 26 37 rfl (hd ⟨26, .guard⟩ (by simp) rfl))
        refine step_guarded (j := 26) (b := true) (s := 37) rfl rfl (by rw [hw.size]; exact Nat.lt_of_lt_of_eq (show 37 < 40 by omega) rfl) hgd ?_
        unfold Oper.wp
        simp only [execOp]
        go_simp
        refine (awake4_any w').mono ?_
        rintro e w2 ⟨rfl, hb2⟩
        exact hK _ _ hb2.out (fun s hs => by cases hs; rfl)
      · intro listed a' w' hw hd K hK
        have hv37 : a'.tmps.getD 37 undef = .bool true := (hw.at_ 26 37 rfl (hd ⟨26, .data⟩ (by simp) rfl))
        have hv38 : a'.tmps.getD 38 undef = .bool true := (hw.at_ 27 38 rfl (hd ⟨27, .data⟩ (by simp) rfl))
        refine step_free rfl ?_
        unfold Oper.wp
        simp only [execOp]
        go_simp
        exact hK _ _ (Below.refl _ _) (fun s hs => by cases hs; rfl)
      · intro listed a' w' hw hd K hK
        refine step_free rfl ?_
        apply wp_assign
        exact hK _ _ (Below.refl _ _) (fun s hs => by cases hs; exact (hw.at_ 28 39 rfl (hd ⟨28, .data⟩ (by simp) rfl)))
    · intro listed a' w' hw hall
      have hk4 : a'.tmps.getD 4 undef = .bool true := hw.at_ 29 4 rfl (hall 29 (Nat.lt_of_lt_of_eq (show 29 < 30 by omega) rfl))
      have hbF : Hid (Below w.heap.size w w') := Lib.hid (btr BD.out hw.below)
      have hp := hw.puts [11, 12, 13, 14, 15, 16, 17, 18, 19, 20, 21, 22, 23, 24, 25, 26, 27, 28, 29, 30, 31, 32, 33, 34, 35, 36, 37, 38, 39, 4] (by kernel_rfl)
      clear hw hall
      rw [hp]
      simp only [List.foldl_cons, List.foldl_nil, hk4]
      generalize a'.tmps.getD 11 undef = u11
      generalize a'.tmps.getD 12 undef = u12
      generalize a'.tmps.getD 13 undef = u13
      generalize a'.tmps.getD 14 undef = u14
      generalize a'.tmps.getD 15 undef = u15
      generalize a'.tmps.getD 16 undef = u16
      generalize a'.tmps.getD 17 undef = u17
      generalize a'.tmps.getD 18 undef = u18
      generalize a'.tmps.getD 19 undef = u19
      generalize a'.tmps.getD 20 undef = u20
      generalize a'.tmps.getD 21 undef = u21
      generalize a'.tmps.getD 22 undef = u22
      generalize a'.tmps.getD 23 undef = u23
      generalize a'.tmps.getD 24 undef = u24
      generalize a'.tmps.getD 25 undef = u25
      generalize a'.tmps.getD 26 undef = u26
      generalize a'.tmps.getD 27 undef = u27
      generalize a'.tmps.getD 28 undef = u28
      generalize a'.tmps.getD 29 undef = u29
      generalize a'.tmps.getD 30 undef = u30
      generalize a'.tmps.getD 31 undef = u31
      generalize a'.tmps.getD 32 undef = u32
      generalize a'.tmps.getD 33 undef = u33
      generalize a'.tmps.getD 34 undef = u34
      generalize a'.tmps.getD 35 undef = u35
      generalize a'.tmps.getD 36 undef = u36
      generalize a'.tmps.getD 37 undef = u37
      generalize a'.tmps.getD 38 undef = u38
      generalize a'.tmps.getD 39 undef = u39
      clear hp hk4
      simp only [Act.put, List.setIfInBounds_toArray, List.set_cons_succ, List.set_cons_zero]
      go_wp2
      go_ret
      exact ⟨rfl, hbF⟩
end Go.Proofs.Ytgkldjolnbnehaa
