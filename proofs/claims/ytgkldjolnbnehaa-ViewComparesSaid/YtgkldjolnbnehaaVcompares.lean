/-
  The statement ViewCompares' walk: whatever views, it answers true, and leaves all that was there as it was. No condition but that the views are views.
-/
import Derived.Test.YtgkldjolnbnehaaVawake
import Derived.Test.YtgkldjolnbnehaaGa
namespace Go.Proofs.Ytgkldjolnbnehaa
set_option maxRecDepth 20000
open Go.RowKit

def ComV (l : List Life) (w : World) (v : Value) : Prop := ∃ E q e', v = .slice E q e' ∧ Lst w 300 E q e' l
theorem ComV.mono {l : List Life} {w w' : World} {v : Value} (hb : Below w.heap.size w w') (h : ComV l w v) : ComV l w' v := by
  obtain ⟨E, q, e', e, hl⟩ := h
  exact ⟨E, q, e', e, hl.on hb⟩
theorem Vm.light {W : World} {n c m c' : Nat} {A A' : Option Addr} {ms : List Life} {ss : List Nat} (h : Vm W 9223372036854775807 A n c A' m c' ms ss) (hh : ¬ (300 < n ∨ 300 < m)) : Vm W 300 A n c A' m c' ms ss :=
  ⟨h.lives, h.len, by omega, h.cap, h.uns, h.nums, h.slen, by omega, h.scap, h.u64⟩
def CmpG (b : Nat) (r x y s u z : Int) (A : Option Addr) (n c : Nat) (A' : Option Addr) (m c' : Nat) (E : Option Addr) (k e' : Nat) (D : Option Addr) (l d' : Nat) (ms ms2 : List Life) (cv : Int) (ds : Bool) (i : Nat) (w : World) (v : Value) : Prop :=
  match i with
  | 0 => v = Value.pointer (some ⟨b, 0, none⟩)
  | 1 => v = nmV (r, (x, y))
  | 2 => v = Value.pointer (some ⟨(b + 1), 0, none⟩)
  | 3 => v = nmV (s, (u, z))
  | 4 => v = .int .i64 cv
  | 5 => v = Value.pointer (some ⟨b, 0, none⟩)
  | 6 => v = nmV (r, (x, y))
  | 7 => v = Value.pointer (some ⟨(b + 1), 0, none⟩)
  | 8 => v = nmV (s, (u, z))
  | 9 => v = .int .i64 cv
  | 10 => v = .bool true
  | 11 => v = .bool true
  | 12 => v = vwV (r, (x, y)) A n c A' m c'
  | 13 => v = vwV (s, (u, z)) E k e' D l d'
  | 14 => v = .bool ds
  | 15 => v = vwV (r, (x, y)) A n c A' m c'
  | 16 => v = vwV (s, (u, z)) E k e' D l d'
  | 17 => v = .bool ds
  | 18 => v = .bool true
  | 19 => v = .bool true
  | 20 => v = .bool true
  | 21 => v = vwV (r, (x, y)) A n c A' m c'
  | 22 => v = vwV (s, (u, z)) E k e' D l d'
  | 23 => ComV (meetL ms ms2) w v
  | 24 => v = vwV (r, (x, y)) A n c A' m c'
  | 25 => v = vwV (s, (u, z)) E k e' D l d'
  | 26 => ComV (meetL ms ms2) w v
  | 27 => v = .bool true
  | 28 => v = .bool true
  | 29 => v = .bool true
  | 30 => v = .bool true
  | 31 => v = .bool true
  | _ => v = .bool true
theorem CmpG.mono {b : Nat} {r x y s u z : Int} {A : Option Addr} {n c : Nat} {A' : Option Addr} {m c' : Nat} {E : Option Addr} {k e' : Nat} {D : Option Addr} {l d' : Nat} {ms ms2 : List Life} {cv : Int} {ds : Bool} {i : Nat} {v : Value} {w w' : World} (hb : Below w.heap.size w w') (h : CmpG b r x y s u z A n c A' m c' E k e' D l d' ms ms2 cv ds i w v) : CmpG b r x y s u z A n c A' m c' E k e' D l d' ms ms2 cv ds i w' v := by
  unfold CmpG at *
  split at h <;> first | exact h | exact ComV.mono hb h
set_option maxHeartbeats 8000000 in
theorem compares4_walk (i : Nm) (A : Option Addr) (ms : List Life) (c : Nat) (A' : Option Addr) (ss : List Nat) (c' : Nat) (j : Nm) (E : Option Addr) (ms2 : List Life) (e' : Nat) (D : Option Addr) (ss2 : List Nat) (d' : Nat) (w : World) (h : Vm w 9223372036854775807 A ms.length c A' ss.length c' ms ss) (h2 : Vm w 9223372036854775807 E ms2.length e' D ss2.length d' ms2 ss2) :
    Calls Try.prog 4 #[vwV i A ms.length c A' ss.length c', vwV j E ms2.length e' D ss2.length d'] w fun e w' => e = .returned (.bool true) ∧ Hid (Below w.heap.size w w') := by
  generalize hn : ms.length = n at *
  generalize hm : ss.length = m at *
  generalize hk : ms2.length = k at *
  generalize hl : ss2.length = l at *
  have mixed : Try.prog.follows .mixedOrders = true := by kernel_rfl
  have B2 := Lib.hid (two_below w (.cells (vwC i A n c A' m c') 30) (.cells (vwC j E k e' D l d') 30))
  obtain ⟨r, x, y⟩ := i
  obtain ⟨s, u, z⟩ := j
  have HB := Lib.hid (box_two w r x y s u z A n c A' m c' E k e' D l d' 30)
  have hle := h.le
  have hsle := h.sle
  have hle2 := h2.le
  have hsle2 := h2.sle
  have HV0 := Lib.hid h
  have HX0 := Lib.hid h2
  clear h h2 hn hm hk hl
  go_enter Try.func4, Try.ntmps4
  obtain ⟨⟨k0, k1, k2, k3, k4⟩, ⟨l0, l1, l2, l3, l4⟩⟩ := HB.out
  go_wp2_with fail
  have HV := Lib.hid (HV0.out.on B2.out)
  have HX := Lib.hid (HX0.out.on B2.out)
  generalize ((w.alloc (.cells (vwC (r, (x, y)) A n c A' m c') 30)).alloc (.cells (vwC (s, (u, z)) E k e' D l d') 30)) = W2 at *
  generalize hB : w.heap.size = b at HB k0 k1 k2 k3 k4 l0 l1 l2 l3 l4 ⊢
  have HBB := Lib.hid hB
  clear hB HV0 HX0 k0 k1 k2 k3 k4 l0 l1 l2 l3 l4
  refine (heavy4_any (r, (x, y)) A n c A' m c' W2 hle hsle).mono ?_
  rintro e W3 ⟨rfl, hb3⟩
  have B3 := Lib.hid (btr B2.out hb3.out)
  have KV3 := Lib.hid (HB.out.1.below hb3.out)
  have KX3 := Lib.hid (HB.out.2.below hb3.out)
  have V3 := Lib.hid (HV.out.on hb3.out)
  have X3 := Lib.hid (HX.out.on hb3.out)
  clear HB HV HX B2 hb3
  by_cases hh : 300 < n ∨ 300 < m
  · rw [decide_eq_true hh]
    go_wp2_with fail
    refine (awake4_any W3).mono ?_
    rintro e W4 ⟨rfl, hb4⟩
    go_wp2
    go_ret
    exact ⟨rfl, Lib.hid (btr B3.out hb4.out)⟩
  · rw [decide_eq_false hh]
    have V3 := Lib.hid (V3.out.light hh)
    clear hh
    obtain ⟨k0, k1, k2, k3, k4⟩ := KX3.out
    go_wp2_with fail
    refine (heavy4_any (s, (u, z)) E k e' D l d' W3 hle2 hsle2).mono ?_
    rintro e W4 ⟨rfl, hb4⟩
    clear k0 k1 k2 k3 k4
    have B4 := Lib.hid (btr B3.out hb4.out)
    have KV4 := Lib.hid (KV3.out.below hb4.out)
    have KX4 := Lib.hid (KX3.out.below hb4.out)
    have V4 := Lib.hid (V3.out.on hb4.out)
    have X4 := Lib.hid (X3.out.on hb4.out)
    clear B3 KV3 KX3 V3 X3 hb4
    by_cases hh : 300 < k ∨ 300 < l
    · rw [decide_eq_true hh]
      go_wp2_with fail
      refine (awake4_any W4).mono ?_
      rintro e W5 ⟨rfl, hb5⟩
      go_wp2
      go_ret
      exact ⟨rfl, Lib.hid (btr B4.out hb5.out)⟩
    · rw [decide_eq_false hh]
      have X4 := Lib.hid (X4.out.light hh)
      clear hh
      go_wp2_with fail
      have KV : Hid (VBox b r x y A n c A' m c' W4.drew) := KV4
      have KX : Hid (VBox (b + 1) s u z E k e' D l d' W4.drew) := KX4
      have VV : Hid (Vm W4.drew 300 A n c A' m c' ms ss) := Lib.hid (V4.out.on (drew_bl (Below.refl _ _)))
      have VX : Hid (Vm W4.drew 300 E k e' D l d' ms2 ss2) := Lib.hid (X4.out.on (drew_bl (Below.refl _ _)))
      have BD : Hid (Below w.heap.size w W4.drew) := Lib.hid (drew_bl B4.out)
      have HC1 := Lib.hid (fun W => vcompare_any (r, (x, y)) (s, (u, z)) W)
      have HC2 := Lib.hid (fun W => rvcompare_any (r, (x, y)) (s, (u, z)) W)
      have HS1 := Lib.hid (fun W (h3 : Vm W 300 A n c A' m c' ms ss) (h5 : Vm W 300 E k e' D l d' ms2 ss2) => vsame_any (r, (x, y)) (s, (u, z)) A n c A' m c' ms ss E k e' D l d' ms2 ss2 W h3 h5 (by omega) (by omega))
      have HS2 := Lib.hid (fun W (h3 : Vm W 300 A n c A' m c' ms ss) (h5 : Vm W 300 E k e' D l d' ms2 ss2) => rsame4_any (r, (x, y)) (s, (u, z)) A n c A' m c' ms ss E k e' D l d' ms2 ss2 W h3 h5 (by omega) (by omega))
      have HK1 := Lib.hid (fun W (h3 : Vm W 300 A n c A' m c' ms ss) (h5 : Vm W 300 E k e' D l d' ms2 ss2) => common_any (r, (x, y)) (s, (u, z)) A n c A' m c' ms ss E k e' D l d' ms2 ss2 W h3 h5 (by omega) (by omega))
      have HK2 := Lib.hid (fun W (h3 : Vm W 300 A n c A' m c' ms ss) (h5 : Vm W 300 E k e' D l d' ms2 ss2) => rcommon_any (r, (x, y)) (s, (u, z)) A n c A' m c' ms ss E k e' D l d' ms2 ss2 W h3 h5 (by omega) (by omega))
      have HEq := Lib.hid (fun W E3 q3 c3 E5 q5 c5 (h3 : Lst W 300 E3 q3 c3 (meetL ms ms2)) (h5 : Lst W 300 E5 q5 c5 (meetL ms ms2)) => requal_any E3 (meetL ms ms2) q3 c3 E5 (meetL ms ms2) q5 c5 W h3.lives h5.lives h3.len h5.len (by have := h3.le; omega) (by have := h5.le; omega))
      rw [decide_eq_true rfl] at HEq
      generalize cmpNm (r, (x, y)) (s, (u, z)) = cv at *
      generalize decide ((⟨(r, (x, y)), ms, ss⟩ : Vw) = ⟨(s, (u, z)), ms2, ss2⟩) = ds at *
      clear KV4 KX4 V4 X4 B4
      refine region_steps (n := 44) (CmpG b r x y s u z A n c A' m c' E k e' D l d' ms ms2 cv ds) (by kernel_rfl) (by kernel_rfl) rfl (fun _ _ _ _ hb h => CmpG.mono hb h) ?_ ?_
      · refine And.intro ?_ (And.intro ?_ (And.intro ?_ (And.intro ?_ (And.intro ?_ (And.intro ?_ (And.intro ?_ (And.intro ?_ (And.intro ?_ (And.intro ?_ (And.intro ?_ (And.intro ?_ (And.intro ?_ (And.intro ?_ (And.intro ?_ (And.intro ?_ (And.intro ?_ (And.intro ?_ (And.intro ?_ (And.intro ?_ (And.intro ?_ (And.intro ?_ (And.intro ?_ (And.intro ?_ (And.intro ?_ (And.intro ?_ (And.intro ?_ (And.intro ?_ (And.intro ?_ (And.intro ?_ (And.intro ?_ (And.intro ?_ (And.intro ?_ (True.intro)))))))))))))))))))))))))))))))))
        · intro listed a' w' hw hd K hK
          have hv2 := hw.kept 2 (by kernel_rfl)
          refine step_free rfl ?_
          unfold Oper.wp
          simp only [execOp]
          go_simp
          exact hK _ _ (Below.refl _ _) (fun s hs => by cases hs; rfl)
        · intro listed a' w' hw hd K hK
          have hv12 : a'.tmps.getD 12 undef = Value.pointer (some ⟨b, 0, none⟩) := (hw.at_ 0 12 rfl (hd ⟨0, .data⟩ (by simp) rfl))
          obtain ⟨k0, k1, k2, k3, k4⟩ := KV.out.below hw.below
          refine step_free rfl ?_
          unfold Oper.wp
          simp only [execOp]
          go_simp
          exact hK _ _ (Below.refl _ _) (fun s hs => by cases hs; rfl)
        · intro listed a' w' hw hd K hK
          have hv3 := hw.kept 3 (by kernel_rfl)
          refine step_free rfl ?_
          unfold Oper.wp
          simp only [execOp]
          go_simp
          exact hK _ _ (Below.refl _ _) (fun s hs => by cases hs; rfl)
        · intro listed a' w' hw hd K hK
          have hv14 : a'.tmps.getD 14 undef = Value.pointer (some ⟨(b + 1), 0, none⟩) := (hw.at_ 2 14 rfl (hd ⟨2, .data⟩ (by simp) rfl))
          obtain ⟨k0, k1, k2, k3, k4⟩ := KX.out.below hw.below
          refine step_free rfl ?_
          unfold Oper.wp
          simp only [execOp]
          go_simp
          exact hK _ _ (Below.refl _ _) (fun s hs => by cases hs; rfl)
        · intro listed a' w' hw hd K hK
          have hv13 : a'.tmps.getD 13 undef = nmV (r, (x, y)) := (hw.at_ 1 13 rfl (hd ⟨1, .data⟩ (by simp) rfl))
          have hv15 : a'.tmps.getD 15 undef = nmV (s, (u, z)) := (hw.at_ 3 15 rfl (hd ⟨3, .data⟩ (by simp) rfl))
          refine step_free rfl ?_
          unfold Oper.wp
          simp only [execOp]
          go_simp
          refine (HC1.out w').mono ?_
          rintro e w2 ⟨rfl, hb2⟩
          exact hK _ _ hb2.out (fun s hs => by cases hs; rfl)
        · intro listed a' w' hw hd K hK
          have hv2 := hw.kept 2 (by kernel_rfl)
          refine step_free rfl ?_
          unfold Oper.wp
          simp only [execOp]
          go_simp
          exact hK _ _ (Below.refl _ _) (fun s hs => by cases hs; rfl)
        · intro listed a' w' hw hd K hK
          have hv17 : a'.tmps.getD 17 undef = Value.pointer (some ⟨b, 0, none⟩) := (hw.at_ 5 17 rfl (hd ⟨5, .data⟩ (by simp) rfl))
          obtain ⟨k0, k1, k2, k3, k4⟩ := KV.out.below hw.below
          refine step_free rfl ?_
          unfold Oper.wp
          simp only [execOp]
          go_simp
          exact hK _ _ (Below.refl _ _) (fun s hs => by cases hs; rfl)
        · intro listed a' w' hw hd K hK
          have hv3 := hw.kept 3 (by kernel_rfl)
          refine step_free rfl ?_
          unfold Oper.wp
          simp only [execOp]
          go_simp
          exact hK _ _ (Below.refl _ _) (fun s hs => by cases hs; rfl)
        · intro listed a' w' hw hd K hK
          have hv19 : a'.tmps.getD 19 undef = Value.pointer (some ⟨(b + 1), 0, none⟩) := (hw.at_ 7 19 rfl (hd ⟨7, .data⟩ (by simp) rfl))
          obtain ⟨k0, k1, k2, k3, k4⟩ := KX.out.below hw.below
          refine step_free rfl ?_
          unfold Oper.wp
          simp only [execOp]
          go_simp
          exact hK _ _ (Below.refl _ _) (fun s hs => by cases hs; rfl)
        · intro listed a' w' hw hd K hK
          have hv18 : a'.tmps.getD 18 undef = nmV (r, (x, y)) := (hw.at_ 6 18 rfl (hd ⟨6, .data⟩ (by simp) rfl))
          have hv20 : a'.tmps.getD 20 undef = nmV (s, (u, z)) := (hw.at_ 8 20 rfl (hd ⟨8, .data⟩ (by simp) rfl))
          refine step_free rfl ?_
          unfold Oper.wp
          simp only [execOp]
          go_simp
          refine (HC2.out w').mono ?_
          rintro e w2 ⟨rfl, hb2⟩
          exact hK _ _ hb2.out (fun s hs => by cases hs; rfl)
        · intro listed a' w' hw hd K hK
          have hv16 : a'.tmps.getD 16 undef = .int .i64 cv := (hw.at_ 4 16 rfl (hd ⟨4, .data⟩ (by simp) rfl))
          have hv21 : a'.tmps.getD 21 undef = .int .i64 cv := (hw.at_ 9 21 rfl (hd ⟨9, .data⟩ (by simp) rfl))
          have e1 : (cv == cv) = true := by simp
          refine step_free rfl ?_
          unfold Oper.wp
          simp only [execOp]
          go_simp
          exact hK _ _ (Below.refl _ _) (fun s hs => by cases hs; rfl)
        · intro listed a' w' hw hd K hK
          refine step_free rfl ?_
          apply wp_move
          exact hK _ _ (Below.refl _ _) (fun s hs => by cases hs; exact (hw.at_ 10 22 rfl (hd ⟨10, .data⟩ (by simp) rfl)))
        · intro listed a' w' hw hd K hK
          have hgd : a'.tmps.getD 23 undef = .bool true := (hw.at_ 11 23 rfl (hd ⟨11, .guard⟩ (by simp) rfl))
          have hv2 := hw.kept 2 (by kernel_rfl)
          obtain ⟨k0, k1, k2, k3, k4⟩ := KV.out.below hw.below
          refine step_guarded (j := 11) (b := true) (s := 23) rfl rfl (by rw [hw.size]; exact Nat.lt_of_lt_of_eq (show 23 < 44 by omega) rfl) hgd ?_
          unfold Oper.wp
          simp only [execOp]
          go_simp
          exact hK _ _ (Below.refl _ _) (fun s hs => by cases hs; rfl)
        · intro listed a' w' hw hd K hK
          have hgd : a'.tmps.getD 23 undef = .bool true := (hw.at_ 11 23 rfl (hd ⟨11, .guard⟩ (by simp) rfl))
          have hv3 := hw.kept 3 (by kernel_rfl)
          obtain ⟨k0, k1, k2, k3, k4⟩ := KX.out.below hw.below
          refine step_guarded (j := 11) (b := true) (s := 23) rfl rfl (by rw [hw.size]; exact Nat.lt_of_lt_of_eq (show 23 < 44 by omega) rfl) hgd ?_
          unfold Oper.wp
          simp only [execOp]
          go_simp
          exact hK _ _ (Below.refl _ _) (fun s hs => by cases hs; rfl)
        · intro listed a' w' hw hd K hK
          have hgd : a'.tmps.getD 23 undef = .bool true := (hw.at_ 11 23 rfl (hd ⟨11, .guard⟩ (by simp) rfl))
          have hv24 : a'.tmps.getD 24 undef = vwV (r, (x, y)) A n c A' m c' := (hw.at_ 12 24 rfl (hd ⟨12, .data⟩ (by simp) rfl))
          have hv25 : a'.tmps.getD 25 undef = vwV (s, (u, z)) E k e' D l d' := (hw.at_ 13 25 rfl (hd ⟨13, .data⟩ (by simp) rfl))
          refine step_guarded (j := 11) (b := true) (s := 23) rfl rfl (by rw [hw.size]; exact Nat.lt_of_lt_of_eq (show 23 < 44 by omega) rfl) hgd ?_
          unfold Oper.wp
          simp only [execOp]
          go_simp
          refine (HS1.out w' (VV.out.on hw.below) (VX.out.on hw.below)).mono ?_
          rintro e w2 ⟨rfl, hb2⟩
          exact hK _ _ hb2.out (fun s hs => by cases hs; rfl)
        · intro listed a' w' hw hd K hK
          have hgd : a'.tmps.getD 23 undef = .bool true := (hw.at_ 11 23 rfl (hd ⟨11, .guard⟩ (by simp) rfl))
          have hv2 := hw.kept 2 (by kernel_rfl)
          obtain ⟨k0, k1, k2, k3, k4⟩ := KV.out.below hw.below
          refine step_guarded (j := 11) (b := true) (s := 23) rfl rfl (by rw [hw.size]; exact Nat.lt_of_lt_of_eq (show 23 < 44 by omega) rfl) hgd ?_
          unfold Oper.wp
          simp only [execOp]
          go_simp
          exact hK _ _ (Below.refl _ _) (fun s hs => by cases hs; rfl)
        · intro listed a' w' hw hd K hK
          have hgd : a'.tmps.getD 23 undef = .bool true := (hw.at_ 11 23 rfl (hd ⟨11, .guard⟩ (by simp) rfl))
          have hv3 := hw.kept 3 (by kernel_rfl)
          obtain ⟨k0, k1, k2, k3, k4⟩ := KX.out.below hw.below
          refine step_guarded (j := 11) (b := true) (s := 23) rfl rfl (by rw [hw.size]; exact Nat.lt_of_lt_of_eq (show 23 < 44 by omega) rfl) hgd ?_
          unfold Oper.wp
          simp only [execOp]
          go_simp
          exact hK _ _ (Below.refl _ _) (fun s hs => by cases hs; rfl)
        · intro listed a' w' hw hd K hK
          have hgd : a'.tmps.getD 23 undef = .bool true := (hw.at_ 11 23 rfl (hd ⟨11, .guard⟩ (by simp) rfl))
          have hv27 : a'.tmps.getD 27 undef = vwV (r, (x, y)) A n c A' m c' := (hw.at_ 15 27 rfl (hd ⟨15, .data⟩ (by simp) rfl))
          have hv28 : a'.tmps.getD 28 undef = vwV (s, (u, z)) E k e' D l d' := (hw.at_ 16 28 rfl (hd ⟨16, .data⟩ (by simp) rfl))
          refine step_guarded (j := 11) (b := true) (s := 23) rfl rfl (by rw [hw.size]; exact Nat.lt_of_lt_of_eq (show 23 < 44 by omega) rfl) hgd ?_
          unfold Oper.wp
          simp only [execOp]
          go_simp
          refine (HS2.out w' (VV.out.on hw.below) (VX.out.on hw.below)).mono ?_
          rintro e w2 ⟨rfl, hb2⟩
          exact hK _ _ hb2.out (fun s hs => by cases hs; rfl)
        · intro listed a' w' hw hd K hK
          have hgd : a'.tmps.getD 23 undef = .bool true := (hw.at_ 11 23 rfl (hd ⟨11, .guard⟩ (by simp) rfl))
          have hv26 : a'.tmps.getD 26 undef = .bool ds := (hw.at_ 14 26 rfl (hd ⟨14, .data⟩ (by simp) rfl))
          have hv29 : a'.tmps.getD 29 undef = .bool ds := (hw.at_ 17 29 rfl (hd ⟨17, .data⟩ (by simp) rfl))
          have e1 : (ds == ds) = true := by simp
          refine step_guarded (j := 11) (b := true) (s := 23) rfl rfl (by rw [hw.size]; exact Nat.lt_of_lt_of_eq (show 23 < 44 by omega) rfl) hgd ?_
          unfold Oper.wp
          simp only [execOp]
          go_simp
          exact hK _ _ (Below.refl _ _) (fun s hs => by cases hs; rfl)
        · intro listed a' w' hw hd K hK
          have hv23 : a'.tmps.getD 23 undef = .bool true := (hw.at_ 11 23 rfl (hd ⟨11, .data⟩ (by simp) rfl))
          have hv30 : a'.tmps.getD 30 undef = .bool true := (hw.at_ 18 30 rfl (hd ⟨18, .data⟩ (by simp) rfl))
          refine step_free rfl ?_
          unfold Oper.wp
          simp only [execOp]
          go_simp
          exact hK _ _ (Below.refl _ _) (fun s hs => by cases hs; rfl)
        · intro listed a' w' hw hd K hK
          refine step_free rfl ?_
          apply wp_move
          exact hK _ _ (Below.refl _ _) (fun s hs => by cases hs; exact (hw.at_ 19 31 rfl (hd ⟨19, .data⟩ (by simp) rfl)))
        · intro listed a' w' hw hd K hK
          have hgd : a'.tmps.getD 32 undef = .bool true := (hw.at_ 20 32 rfl (hd ⟨20, .guard⟩ (by simp) rfl))
          have hv2 := hw.kept 2 (by kernel_rfl)
          obtain ⟨k0, k1, k2, k3, k4⟩ := KV.out.below hw.below
          refine step_guarded (j := 20) (b := true) (s := 32) rfl rfl (by rw [hw.size]; exact Nat.lt_of_lt_of_eq (show 32 < 44 by omega) rfl) hgd ?_
          unfold Oper.wp
          simp only [execOp]
          go_simp
          exact hK _ _ (Below.refl _ _) (fun s hs => by cases hs; rfl)
        · intro listed a' w' hw hd K hK
          have hgd : a'.tmps.getD 32 undef = .bool true := (hw.at_ 20 32 rfl (hd ⟨20, .guard⟩ (by simp) rfl))
          have hv3 := hw.kept 3 (by kernel_rfl)
          obtain ⟨k0, k1, k2, k3, k4⟩ := KX.out.below hw.below
          refine step_guarded (j := 20) (b := true) (s := 32) rfl rfl (by rw [hw.size]; exact Nat.lt_of_lt_of_eq (show 32 < 44 by omega) rfl) hgd ?_
          unfold Oper.wp
          simp only [execOp]
          go_simp
          exact hK _ _ (Below.refl _ _) (fun s hs => by cases hs; rfl)
        · intro listed a' w' hw hd K hK
          have hgd : a'.tmps.getD 32 undef = .bool true := (hw.at_ 20 32 rfl (hd ⟨20, .guard⟩ (by simp) rfl))
          have hv33 : a'.tmps.getD 33 undef = vwV (r, (x, y)) A n c A' m c' := (hw.at_ 21 33 rfl (hd ⟨21, .data⟩ (by simp) rfl))
          have hv34 : a'.tmps.getD 34 undef = vwV (s, (u, z)) E k e' D l d' := (hw.at_ 22 34 rfl (hd ⟨22, .data⟩ (by simp) rfl))
          refine step_guarded (j := 20) (b := true) (s := 32) rfl rfl (by rw [hw.size]; exact Nat.lt_of_lt_of_eq (show 32 < 44 by omega) rfl) hgd ?_
          unfold Oper.wp
          simp only [execOp]
          go_simp
          refine (HK1.out w' (VV.out.on hw.below) (VX.out.on hw.below)).mono ?_
          rintro e w2 ⟨E9, q9, e9, rfl, hl9, hb2⟩
          exact hK _ _ hb2.out (fun s hs => by cases hs; exact ⟨E9, q9, e9, rfl, hl9.out⟩)
        · intro listed a' w' hw hd K hK
          have hgd : a'.tmps.getD 32 undef = .bool true := (hw.at_ 20 32 rfl (hd ⟨20, .guard⟩ (by simp) rfl))
          have hv2 := hw.kept 2 (by kernel_rfl)
          obtain ⟨k0, k1, k2, k3, k4⟩ := KV.out.below hw.below
          refine step_guarded (j := 20) (b := true) (s := 32) rfl rfl (by rw [hw.size]; exact Nat.lt_of_lt_of_eq (show 32 < 44 by omega) rfl) hgd ?_
          unfold Oper.wp
          simp only [execOp]
          go_simp
          exact hK _ _ (Below.refl _ _) (fun s hs => by cases hs; rfl)
        · intro listed a' w' hw hd K hK
          have hgd : a'.tmps.getD 32 undef = .bool true := (hw.at_ 20 32 rfl (hd ⟨20, .guard⟩ (by simp) rfl))
          have hv3 := hw.kept 3 (by kernel_rfl)
          obtain ⟨k0, k1, k2, k3, k4⟩ := KX.out.below hw.below
          refine step_guarded (j := 20) (b := true) (s := 32) rfl rfl (by rw [hw.size]; exact Nat.lt_of_lt_of_eq (show 32 < 44 by omega) rfl) hgd ?_
          unfold Oper.wp
          simp only [execOp]
          go_simp
          exact hK _ _ (Below.refl _ _) (fun s hs => by cases hs; rfl)
        · intro listed a' w' hw hd K hK
          have hgd : a'.tmps.getD 32 undef = .bool true := (hw.at_ 20 32 rfl (hd ⟨20, .guard⟩ (by simp) rfl))
          have hv36 : a'.tmps.getD 36 undef = vwV (r, (x, y)) A n c A' m c' := (hw.at_ 24 36 rfl (hd ⟨24, .data⟩ (by simp) rfl))
          have hv37 : a'.tmps.getD 37 undef = vwV (s, (u, z)) E k e' D l d' := (hw.at_ 25 37 rfl (hd ⟨25, .data⟩ (by simp) rfl))
          refine step_guarded (j := 20) (b := true) (s := 32) rfl rfl (by rw [hw.size]; exact Nat.lt_of_lt_of_eq (show 32 < 44 by omega) rfl) hgd ?_
          unfold Oper.wp
          simp only [execOp]
          go_simp
          refine (HK2.out w' (VV.out.on hw.below) (VX.out.on hw.below)).mono ?_
          rintro e w2 ⟨E9, q9, e9, rfl, hl9, hb2⟩
          exact hK _ _ hb2.out (fun s hs => by cases hs; exact ⟨E9, q9, e9, rfl, hl9.out⟩)
        · intro listed a' w' hw hd K hK
          have hgd : a'.tmps.getD 32 undef = .bool true := (hw.at_ 20 32 rfl (hd ⟨20, .guard⟩ (by simp) rfl))
          have hv35 : ComV (meetL ms ms2) w' (a'.tmps.getD 35 undef) := (hw.at_ 23 35 rfl (hd ⟨23, .data⟩ (by simp) rfl))
          have hv38 : ComV (meetL ms ms2) w' (a'.tmps.getD 38 undef) := (hw.at_ 26 38 rfl (hd ⟨26, .data⟩ (by simp) rfl))
          refine step_guarded (j := 20) (b := true) (s := 32) rfl rfl (by rw [hw.size]; exact Nat.lt_of_lt_of_eq (show 32 < 44 by omega) rfl) hgd ?_
          obtain ⟨E3, q3, c3, e3, h3⟩ := hv35
          obtain ⟨E5, q5, c5, e5, h5⟩ := hv38
          have e3 : a'.tmps.getD 35 undef = .slice E3 q3 c3 := e3
          have e5 : a'.tmps.getD 38 undef = .slice E5 q5 c5 := e5
          unfold Oper.wp
          simp only [execOp]
          go_simp
          refine (HEq.out w' E3 q3 c3 E5 q5 c5 h3 h5).mono ?_
          rintro e w2 ⟨rfl, hb2⟩
          exact hK _ _ hb2.out (fun s hs => by cases hs; rfl)
        · intro listed a' w' hw hd K hK
          have hv32 : a'.tmps.getD 32 undef = .bool true := (hw.at_ 20 32 rfl (hd ⟨20, .data⟩ (by simp) rfl))
          have hv39 : a'.tmps.getD 39 undef = .bool true := (hw.at_ 27 39 rfl (hd ⟨27, .data⟩ (by simp) rfl))
          refine step_free rfl ?_
          unfold Oper.wp
          simp only [execOp]
          go_simp
          exact hK _ _ (Below.refl _ _) (fun s hs => by cases hs; rfl)
        · intro listed a' w' hw hd K hK
          refine step_free rfl ?_
          apply wp_move
          exact hK _ _ (Below.refl _ _) (fun s hs => by cases hs; exact (hw.at_ 28 40 rfl (hd ⟨28, .data⟩ (by simp) rfl)))
        · intro listed a' w' hw hd K hK
          have hgd : a'.tmps.getD 41 undef = .bool true := (hw.at_ 29 41 rfl (hd ⟨29, .guard⟩ (by simp) rfl))
          refine step_guarded (j := 29) (b := true) (s := 41) rfl rfl (by rw [hw.size]; exact Nat.lt_of_lt_of_eq (show 41 < 44 by omega) rfl) hgd ?_
          unfold Oper.wp
          simp only [execOp]
          go_simp
          refine (awake4_any w').mono ?_
          rintro e w2 ⟨rfl, hb2⟩
          exact hK _ _ hb2.out (fun s hs => by cases hs; rfl)
        · intro listed a' w' hw hd K hK
          have hv41 : a'.tmps.getD 41 undef = .bool true := (hw.at_ 29 41 rfl (hd ⟨29, .data⟩ (by simp) rfl))
          have hv42 : a'.tmps.getD 42 undef = .bool true := (hw.at_ 30 42 rfl (hd ⟨30, .data⟩ (by simp) rfl))
          refine step_free rfl ?_
          unfold Oper.wp
          simp only [execOp]
          go_simp
          exact hK _ _ (Below.refl _ _) (fun s hs => by cases hs; rfl)
        · intro listed a' w' hw hd K hK
          refine step_free rfl ?_
          apply wp_assign
          exact hK _ _ (Below.refl _ _) (fun s hs => by cases hs; exact (hw.at_ 31 43 rfl (hd ⟨31, .data⟩ (by simp) rfl)))
      · intro listed a' w' hw hall
        have hk4 : a'.tmps.getD 4 undef = .bool true := hw.at_ 32 4 rfl (hall 32 (Nat.lt_of_lt_of_eq (show 32 < 33 by omega) rfl))
        have hbF : Hid (Below w.heap.size w w') := Lib.hid (btr BD.out hw.below)
        have hp := hw.puts [12, 13, 14, 15, 16, 17, 18, 19, 20, 21, 22, 23, 24, 25, 26, 27, 28, 29, 30, 31, 32, 33, 34, 35, 36, 37, 38, 39, 40, 41, 42, 43, 4] (by kernel_rfl)
        clear hw hall
        rw [hp]
        simp only [List.foldl_cons, List.foldl_nil, hk4]
        generalize a'.tmps.getD 12 undef = u12
        generalize a'.tmps.getD 13 undef = u13
        generalize a'.tmps.getD 14 undef = u14
        generalize a'.tmps.getD 15 undef = u15
        generalize a'.tmps.getD 16 undef = u16
        generalize a'.tmps.getD 17 undef = u17
        generalize a'.tmps.getD 18 undef = u18
        generalize a'.tmps.getD 19 undef = u19
        generalize a'.tmps.getD 20 undef = u20
        generalize a'.tmps.getD 21 undef = u21
        generalize a'.tmps.getD 22 undef = u22
        generalize a'.tmps.getD 23 undef = u23
        generalize a'.tmps.getD 24 undef = u24
        generalize a'.tmps.getD 25 undef = u25
        generalize a'.tmps.getD 26 undef = u26
        generalize a'.tmps.getD 27 undef = u27
        generalize a'.tmps.getD 28 undef = u28
        generalize a'.tmps.getD 29 undef = u29
        generalize a'.tmps.getD 30 undef = u30
        generalize a'.tmps.getD 31 undef = u31
        generalize a'.tmps.getD 32 undef = u32
        generalize a'.tmps.getD 33 undef = u33
        generalize a'.tmps.getD 34 undef = u34
        generalize a'.tmps.getD 35 undef = u35
        generalize a'.tmps.getD 36 undef = u36
        generalize a'.tmps.getD 37 undef = u37
        generalize a'.tmps.getD 38 undef = u38
        generalize a'.tmps.getD 39 undef = u39
        generalize a'.tmps.getD 40 undef = u40
        generalize a'.tmps.getD 41 undef = u41
        generalize a'.tmps.getD 42 undef = u42
        generalize a'.tmps.getD 43 undef = u43
        clear hp hk4
        simp only [Act.put, List.setIfInBounds_toArray, List.set_cons_succ, List.set_cons_zero]
        go_wp2
        go_ret
        exact ⟨rfl, hbF⟩
end Go.Proofs.Ytgkldjolnbnehaa
