/-
  The statement PacketMay's walk: whatever packet, it answers true, and leaves all that was there as it was. No condition.
-/
import Derived.Test.YtlcddfkhklmieaaKawake
import Derived.Test.YtlcddfkhklmieaaKback
import Derived.Test.YtlcddfkhklmieaaGa
namespace Go.Proofs.Ytlcddfkhklmieaa
set_option maxRecDepth 20000
open Go.RowKit

def KMaL (k s t h x y : Int) (z : Nat) (H A P : Option Addr) (nh ch n cap np cp : Nat) (i : Nat) (_ : World) (v : Value) : Prop :=
  match i with
  | 0 => v = .agg #[.int .i64 k, .int .i64 s, .int .u64 t, .int .i64 h, .slice H nh ch, .slice A n cap, .int .i64 x, .int .u64 y, .int .u64 (z : Int), .slice P np cp]
  | 1 => v = .bool true
  | 2 => v = .bool true
  | 3 => v = undef
  | 4 => v = undef
  | 5 => v = undef
  | 6 => v = undef
  | 7 => v = undef
  | 8 => v = .bool true
  | 9 => v = .bool true
  | 10 => v = .bool true
  | 11 => v = .bool true
  | _ => v = .bool true
theorem KMaL.mono {k s t h x y : Int} {z : Nat} {H A P : Option Addr} {nh ch n cap np cp : Nat} {i : Nat} {v : Value} {w w' : World} (_ : Below w.heap.size w w') (hg : KMaL k s t h x y z H A P nh ch n cap np cp i w v) : KMaL k s t h x y z H A P nh ch n cap np cp i w' v := by
  unfold KMaL at *
  exact hg
def KMaN (k s t h x y : Int) (z : Nat) (H A P : Option Addr) (nh ch n cap np cp : Nat) (d1 : Bool) (i : Nat) (_ : World) (v : Value) : Prop :=
  match i with
  | 0 => v = .agg #[.int .i64 k, .int .i64 s, .int .u64 t, .int .i64 h, .slice H nh ch, .slice A n cap, .int .i64 x, .int .u64 y, .int .u64 (z : Int), .slice P np cp]
  | 1 => v = .bool false
  | 2 => v = .bool false
  | 3 => v = .agg #[.int .i64 k, .int .i64 s, .int .u64 t, .int .i64 h, .slice H nh ch, .slice A n cap, .int .i64 x, .int .u64 y, .int .u64 (z : Int), .slice P np cp]
  | 4 => v = .bool d1
  | 5 => v = .agg #[.int .i64 k, .int .i64 s, .int .u64 t, .int .i64 h, .slice H nh ch, .slice A n cap, .int .i64 x, .int .u64 y, .int .u64 (z : Int), .slice P np cp]
  | 6 => v = .bool d1
  | 7 => v = .bool true
  | 8 => v = .bool true
  | 9 => v = .bool true
  | 10 => v = .bool true
  | 11 => v = .bool true
  | _ => v = .bool true
theorem KMaN.mono {k s t h x y : Int} {z : Nat} {H A P : Option Addr} {nh ch n cap np cp : Nat} {d1 : Bool} {i : Nat} {v : Value} {w w' : World} (_ : Below w.heap.size w w') (hg : KMaN k s t h x y z H A P nh ch n cap np cp d1 i w v) : KMaN k s t h x y z H A P nh ch n cap np cp d1 i w' v := by
  unfold KMaN at *
  exact hg
set_option maxHeartbeats 8000000 in
theorem kmays_int (k s t h x y : Int) (z : Nat) (H A P : Option Addr) (nh ch n cap np cp : Nat) (hs : List Hd) (bd : List UInt8) (ps : List Life) (w : World) (hi : PIn w w.heap.size hs bd ps H nh A n cap P np cp) (ht : 0 ≤ t) (hy : 0 ≤ y) :
    Calls Try.prog 3 #[.agg #[.int .i64 k, .int .i64 s, .int .u64 t, .int .i64 h, .slice H nh ch, .slice A n cap, .int .i64 x, .int .u64 y, .int .u64 (z : Int), .slice P np cp]] w fun e w' => e = .returned (.bool true) ∧ Hid (Below w.heap.size w w') := by
  have mixed : Try.prog.follows .mixedOrders = true := by kernel_rfl
  have K1 := Lib.hid (kbox_new (k := k) (s := s) (t := t) (h := h) (x := x) (y := y) (z := (z : Int)) (H := H) (A := A) (P := P) (nh := nh) (ch := ch) (n := n) (cap := cap) (np := np) (cp := cp) (w := w) 31)
  have B1 := Lib.hid (kbelow_box w (.cells #[.int .i64 k, .int .i64 s, .int .u64 t, .int .i64 h, .slice H nh ch, .slice A n cap, .int .i64 x, .int .u64 y, .int .u64 (z : Int), .slice P np cp] 31))
  have HI0 := Lib.hid hi
  have HLG0 := Lib.hid (fun W => long_any k s t h x y z H A P nh ch n cap np cp W)
  have HM10 := Lib.hid (fun (hx : nh ≤ 1000 ∧ np ≤ 300 ∧ n ≤ 65536) W (hb : Below w.heap.size w W) => may_at (k := k) (s := s) (t := t) (h := h) (x := x) (y := y) (z := z) (ch := ch) ((hi.below hb).more hb.size) (Nat.le_refl _) ht hy (by omega) (by omega))
  have HM20 := Lib.hid (fun (hx : nh ≤ 1000 ∧ np ≤ 300 ∧ n ≤ 65536) W (hb : Below w.heap.size w W) => rmay_at (k := k) (s := s) (t := t) (h := h) (x := x) (y := y) (z := z) (ch := ch) ((hi.below hb).more hb.size) (Nat.le_refl _) ht hy (by omega) (by omega))
  generalize decide (mayK ⟨k, (s, t), h, hs, bd, (x, y), z, ps⟩) = d1 at HM10 HM20
  clear hi
  go_enter Try.func3, Try.ntmps3
  go_wp2_with fail
  generalize w.alloc (.cells #[.int .i64 k, .int .i64 s, .int .u64 t, .int .i64 h, .slice H nh ch, .slice A n cap, .int .i64 x, .int .u64 y, .int .u64 (z : Int), .slice P np cp] 31) = W1 at *
  have KF : Hid (KBox w.heap.size k s t h x y (z : Int) H A P nh ch n cap np cp W1.drew) := K1
  have BD : Hid (Below w.heap.size w W1.drew) := Lib.hid ⟨B1.out.os, B1.out.tape, B1.out.output, B1.out.size, B1.out.block⟩
  clear K1 B1 HI0
  by_cases hlg : 1000 < nh ∨ 300 < np ∨ 65536 < n
  · have HLG := HLG0
    rw [decide_eq_true hlg] at HLG
    clear hlg HLG0 HM10 HM20
    refine region_steps (n := 15) (KMaL k s t h x y z H A P nh ch n cap np cp) (by kernel_rfl) (by kernel_rfl) rfl (fun _ _ _ _ hb h => KMaL.mono hb h) ?_ ?_
    · refine And.intro ?_ (And.intro ?_ (And.intro ?_ (And.intro ?_ (And.intro ?_ (And.intro ?_ (And.intro ?_ (And.intro ?_ (And.intro ?_ (And.intro ?_ (And.intro ?_ (And.intro ?_ (And.intro ?_ (True.intro)))))))))))))
      · intro listed a' w' hw hd K hK
        have hv1 := hw.kept 1 (by kernel_rfl)
        obtain ⟨k0, k1, k2, k3, k4, k5, k6, k7, k8, k9⟩ := KF.out.below hw.below
        refine step_free rfl ?_
        unfold Oper.wp
        simp only [execOp]
        go_simp
        exact hK _ _ (Below.refl _ _) (fun s hs => by cases hs; rfl)
      · intro listed a' w' hw hd K hK
        have hv3 : a'.tmps.getD 3 undef = .agg #[.int .i64 k, .int .i64 s, .int .u64 t, .int .i64 h, .slice H nh ch, .slice A n cap, .int .i64 x, .int .u64 y, .int .u64 (z : Int), .slice P np cp] := (hw.at_ 0 3 rfl (hd ⟨0, .data⟩ (by simp) rfl))
        refine step_free rfl ?_
        unfold Oper.wp
        simp only [execOp]
        go_simp
        refine (HLG.out w').mono ?_
        rintro e w2 ⟨rfl, hb2⟩
        exact hK _ _ hb2.out (fun s hs => by cases hs; rfl)
      · intro listed a' w' hw hd K hK
        refine step_free rfl ?_
        apply wp_move
        exact hK _ _ (Below.refl _ _) (fun s hs => by cases hs; exact (hw.at_ 1 4 rfl (hd ⟨1, .data⟩ (by simp) rfl)))
      · intro listed a' w' hw hd K hK
        have hgd : a'.tmps.getD 5 undef = .bool true := (hw.at_ 2 5 rfl (hd ⟨2, .guard⟩ (by simp) rfl))
        refine step_unwanted (j := 2) (b := false) (s := 5) rfl rfl (by rw [hgd]; exact fun h => by cases h) ?_
        exact hK _ _ (Below.refl _ _) (fun s hs => by cases hs; rfl)
      · intro listed a' w' hw hd K hK
        have hgd : a'.tmps.getD 5 undef = .bool true := (hw.at_ 2 5 rfl (hd ⟨2, .guard⟩ (by simp) rfl))
        refine step_unwanted (j := 2) (b := false) (s := 5) rfl rfl (by rw [hgd]; exact fun h => by cases h) ?_
        exact hK _ _ (Below.refl _ _) (fun s hs => by cases hs; rfl)
      · intro listed a' w' hw hd K hK
        have hgd : a'.tmps.getD 5 undef = .bool true := (hw.at_ 2 5 rfl (hd ⟨2, .guard⟩ (by simp) rfl))
        refine step_unwanted (j := 2) (b := false) (s := 5) rfl rfl (by rw [hgd]; exact fun h => by cases h) ?_
        exact hK _ _ (Below.refl _ _) (fun s hs => by cases hs; rfl)
      · intro listed a' w' hw hd K hK
        have hgd : a'.tmps.getD 5 undef = .bool true := (hw.at_ 2 5 rfl (hd ⟨2, .guard⟩ (by simp) rfl))
        refine step_unwanted (j := 2) (b := false) (s := 5) rfl rfl (by rw [hgd]; exact fun h => by cases h) ?_
        exact hK _ _ (Below.refl _ _) (fun s hs => by cases hs; rfl)
      · intro listed a' w' hw hd K hK
        have hgd : a'.tmps.getD 5 undef = .bool true := (hw.at_ 2 5 rfl (hd ⟨2, .guard⟩ (by simp) rfl))
        refine step_unwanted (j := 2) (b := false) (s := 5) rfl rfl (by rw [hgd]; exact fun h => by cases h) ?_
        exact hK _ _ (Below.refl _ _) (fun s hs => by cases hs; rfl)
      · intro listed a' w' hw hd K hK
        have hv5 : a'.tmps.getD 5 undef = .bool true := (hw.at_ 2 5 rfl (hd ⟨2, .data⟩ (by simp) rfl))
        have hv10 : a'.tmps.getD 10 undef = undef := (hw.at_ 7 10 rfl (hd ⟨7, .data⟩ (by simp) rfl))
        refine step_free rfl ?_
        unfold Oper.wp
        simp only [execOp]
        go_simp
        exact hK _ _ (Below.refl _ _) (fun s hs => by cases hs; rfl)
      · intro listed a' w' hw hd K hK
        refine step_free rfl ?_
        apply wp_move
        exact hK _ _ (Below.refl _ _) (fun s hs => by cases hs; exact (hw.at_ 8 11 rfl (hd ⟨8, .data⟩ (by simp) rfl)))
      · intro listed a' w' hw hd K hK
        have hgd : a'.tmps.getD 12 undef = .bool true := (hw.at_ 9 12 rfl (hd ⟨9, .guard⟩ (by simp) rfl))
        refine step_guarded (j := 9) (b := true) (s := 12) rfl rfl (by rw [hw.size]; exact Nat.lt_of_lt_of_eq (show 12 < 15 by omega) rfl) hgd ?_
        unfold Oper.wp
        simp only [execOp]
        go_simp
        refine (awake6_any w').mono ?_
        rintro e w2 ⟨rfl, hb2⟩
        exact hK _ _ hb2.out (fun s hs => by cases hs; rfl)
      · intro listed a' w' hw hd K hK
        have hv12 : a'.tmps.getD 12 undef = .bool true := (hw.at_ 9 12 rfl (hd ⟨9, .data⟩ (by simp) rfl))
        have hv13 : a'.tmps.getD 13 undef = .bool true := (hw.at_ 10 13 rfl (hd ⟨10, .data⟩ (by simp) rfl))
        refine step_free rfl ?_
        unfold Oper.wp
        simp only [execOp]
        go_simp
        exact hK _ _ (Below.refl _ _) (fun s hs => by cases hs; rfl)
      · intro listed a' w' hw hd K hK
        refine step_free rfl ?_
        apply wp_assign
        exact hK _ _ (Below.refl _ _) (fun s hs => by cases hs; exact (hw.at_ 11 14 rfl (hd ⟨11, .data⟩ (by simp) rfl)))
    · intro listed a' w' hw hall
      have hk2 : a'.tmps.getD 2 undef = .bool true := hw.at_ 12 2 rfl (hall 12 (Nat.lt_of_lt_of_eq (show 12 < 13 by omega) rfl))
      have hbF : Hid (Below w.heap.size w w') := Lib.hid (ktr BD.out hw.below)
      have hp := hw.puts [3, 4, 5, 6, 7, 8, 9, 10, 11, 12, 13, 14, 2] (by kernel_rfl)
      clear hw hall
      rw [hp]
      simp only [List.foldl_cons, List.foldl_nil, hk2]
      generalize a'.tmps.getD 3 undef = u3
      generalize a'.tmps.getD 4 undef = u4
      generalize a'.tmps.getD 5 undef = u5
      generalize a'.tmps.getD 6 undef = u6
      generalize a'.tmps.getD 7 undef = u7
      generalize a'.tmps.getD 8 undef = u8
      generalize a'.tmps.getD 9 undef = u9
      generalize a'.tmps.getD 10 undef = u10
      generalize a'.tmps.getD 11 undef = u11
      generalize a'.tmps.getD 12 undef = u12
      generalize a'.tmps.getD 13 undef = u13
      generalize a'.tmps.getD 14 undef = u14
      clear hp hk2
      simp only [Act.put, List.setIfInBounds_toArray, List.set_cons_succ, List.set_cons_zero]
      go_wp2
      go_ret
      exact ⟨rfl, hbF⟩
  · have HLG := HLG0
    rw [decide_eq_false hlg] at HLG
    have HM1 := Lib.hid (HM10.out (by omega))
    have HM2 := Lib.hid (HM20.out (by omega))
    clear hlg HLG0 HM10 HM20
    refine region_steps (n := 15) (KMaN k s t h x y z H A P nh ch n cap np cp d1) (by kernel_rfl) (by kernel_rfl) rfl (fun _ _ _ _ hb h => KMaN.mono hb h) ?_ ?_
    · refine And.intro ?_ (And.intro ?_ (And.intro ?_ (And.intro ?_ (And.intro ?_ (And.intro ?_ (And.intro ?_ (And.intro ?_ (And.intro ?_ (And.intro ?_ (And.intro ?_ (And.intro ?_ (And.intro ?_ (True.intro)))))))))))))
      · intro listed a' w' hw hd K hK
        have hv1 := hw.kept 1 (by kernel_rfl)
        obtain ⟨k0, k1, k2, k3, k4, k5, k6, k7, k8, k9⟩ := KF.out.below hw.below
        refine step_free rfl ?_
        unfold Oper.wp
        simp only [execOp]
        go_simp
        exact hK _ _ (Below.refl _ _) (fun s hs => by cases hs; rfl)
      · intro listed a' w' hw hd K hK
        have hv3 : a'.tmps.getD 3 undef = .agg #[.int .i64 k, .int .i64 s, .int .u64 t, .int .i64 h, .slice H nh ch, .slice A n cap, .int .i64 x, .int .u64 y, .int .u64 (z : Int), .slice P np cp] := (hw.at_ 0 3 rfl (hd ⟨0, .data⟩ (by simp) rfl))
        refine step_free rfl ?_
        unfold Oper.wp
        simp only [execOp]
        go_simp
        refine (HLG.out w').mono ?_
        rintro e w2 ⟨rfl, hb2⟩
        exact hK _ _ hb2.out (fun s hs => by cases hs; rfl)
      · intro listed a' w' hw hd K hK
        refine step_free rfl ?_
        apply wp_move
        exact hK _ _ (Below.refl _ _) (fun s hs => by cases hs; exact (hw.at_ 1 4 rfl (hd ⟨1, .data⟩ (by simp) rfl)))
      · intro listed a' w' hw hd K hK
        have hgd : a'.tmps.getD 5 undef = .bool false := (hw.at_ 2 5 rfl (hd ⟨2, .guard⟩ (by simp) rfl))
        have hv1 := hw.kept 1 (by kernel_rfl)
        obtain ⟨k0, k1, k2, k3, k4, k5, k6, k7, k8, k9⟩ := KF.out.below hw.below
        refine step_guarded (j := 2) (b := false) (s := 5) rfl rfl (by rw [hw.size]; exact Nat.lt_of_lt_of_eq (show 5 < 15 by omega) rfl) hgd ?_
        unfold Oper.wp
        simp only [execOp]
        go_simp
        exact hK _ _ (Below.refl _ _) (fun s hs => by cases hs; rfl)
      · intro listed a' w' hw hd K hK
        have hgd : a'.tmps.getD 5 undef = .bool false := (hw.at_ 2 5 rfl (hd ⟨2, .guard⟩ (by simp) rfl))
        have hv6 : a'.tmps.getD 6 undef = .agg #[.int .i64 k, .int .i64 s, .int .u64 t, .int .i64 h, .slice H nh ch, .slice A n cap, .int .i64 x, .int .u64 y, .int .u64 (z : Int), .slice P np cp] := (hw.at_ 3 6 rfl (hd ⟨3, .data⟩ (by simp) rfl))
        refine step_guarded (j := 2) (b := false) (s := 5) rfl rfl (by rw [hw.size]; exact Nat.lt_of_lt_of_eq (show 5 < 15 by omega) rfl) hgd ?_
        unfold Oper.wp
        simp only [execOp]
        go_simp
        refine (HM1.out w' (ktr BD.out hw.below)).mono ?_
        rintro e w2 ⟨rfl, hb2⟩
        exact hK _ _ hb2.out (fun s hs => by cases hs; rfl)
      · intro listed a' w' hw hd K hK
        have hgd : a'.tmps.getD 5 undef = .bool false := (hw.at_ 2 5 rfl (hd ⟨2, .guard⟩ (by simp) rfl))
        have hv1 := hw.kept 1 (by kernel_rfl)
        obtain ⟨k0, k1, k2, k3, k4, k5, k6, k7, k8, k9⟩ := KF.out.below hw.below
        refine step_guarded (j := 2) (b := false) (s := 5) rfl rfl (by rw [hw.size]; exact Nat.lt_of_lt_of_eq (show 5 < 15 by omega) rfl) hgd ?_
        unfold Oper.wp
        simp only [execOp]
        go_simp
        exact hK _ _ (Below.refl _ _) (fun s hs => by cases hs; rfl)
      · intro listed a' w' hw hd K hK
        have hgd : a'.tmps.getD 5 undef = .bool false := (hw.at_ 2 5 rfl (hd ⟨2, .guard⟩ (by simp) rfl))
        have hv8 : a'.tmps.getD 8 undef = .agg #[.int .i64 k, .int .i64 s, .int .u64 t, .int .i64 h, .slice H nh ch, .slice A n cap, .int .i64 x, .int .u64 y, .int .u64 (z : Int), .slice P np cp] := (hw.at_ 5 8 rfl (hd ⟨5, .data⟩ (by simp) rfl))
        refine step_guarded (j := 2) (b := false) (s := 5) rfl rfl (by rw [hw.size]; exact Nat.lt_of_lt_of_eq (show 5 < 15 by omega) rfl) hgd ?_
        unfold Oper.wp
        simp only [execOp]
        go_simp
        refine (HM2.out w' (ktr BD.out hw.below)).mono ?_
        rintro e w2 ⟨rfl, hb2⟩
        exact hK _ _ hb2.out (fun s hs => by cases hs; rfl)
      · intro listed a' w' hw hd K hK
        have hgd : a'.tmps.getD 5 undef = .bool false := (hw.at_ 2 5 rfl (hd ⟨2, .guard⟩ (by simp) rfl))
        have hv7 : a'.tmps.getD 7 undef = .bool d1 := (hw.at_ 4 7 rfl (hd ⟨4, .data⟩ (by simp) rfl))
        have hv9 : a'.tmps.getD 9 undef = .bool d1 := (hw.at_ 6 9 rfl (hd ⟨6, .data⟩ (by simp) rfl))
        have e1 : (d1 == d1) = true := by simp
        refine step_guarded (j := 2) (b := false) (s := 5) rfl rfl (by rw [hw.size]; exact Nat.lt_of_lt_of_eq (show 5 < 15 by omega) rfl) hgd ?_
        unfold Oper.wp
        simp only [execOp]
        go_simp
        exact hK _ _ (Below.refl _ _) (fun s hs => by cases hs; rfl)
      · intro listed a' w' hw hd K hK
        have hv5 : a'.tmps.getD 5 undef = .bool false := (hw.at_ 2 5 rfl (hd ⟨2, .data⟩ (by simp) rfl))
        have hv10 : a'.tmps.getD 10 undef = .bool true := (hw.at_ 7 10 rfl (hd ⟨7, .data⟩ (by simp) rfl))
        refine step_free rfl ?_
        unfold Oper.wp
        simp only [execOp]
        go_simp
        exact hK _ _ (Below.refl _ _) (fun s hs => by cases hs; rfl)
      · intro listed a' w' hw hd K hK
        refine step_free rfl ?_
        apply wp_move
        exact hK _ _ (Below.refl _ _) (fun s hs => by cases hs; exact (hw.at_ 8 11 rfl (hd ⟨8, .data⟩ (by simp) rfl)))
      · intro listed a' w' hw hd K hK
        have hgd : a'.tmps.getD 12 undef = .bool true := (hw.at_ 9 12 rfl (hd ⟨9, .guard⟩ (by simp) rfl))
        refine step_guarded (j := 9) (b := true) (s := 12) rfl rfl (by rw [hw.size]; exact Nat.lt_of_lt_of_eq (show 12 < 15 by omega) rfl) hgd ?_
        unfold Oper.wp
        simp only [execOp]
        go_simp
        refine (awake6_any w').mono ?_
        rintro e w2 ⟨rfl, hb2⟩
        exact hK _ _ hb2.out (fun s hs => by cases hs; rfl)
      · intro listed a' w' hw hd K hK
        have hv12 : a'.tmps.getD 12 undef = .bool true := (hw.at_ 9 12 rfl (hd ⟨9, .data⟩ (by simp) rfl))
        have hv13 : a'.tmps.getD 13 undef = .bool true := (hw.at_ 10 13 rfl (hd ⟨10, .data⟩ (by simp) rfl))
        refine step_free rfl ?_
        unfold Oper.wp
        simp only [execOp]
        go_simp
        exact hK _ _ (Below.refl _ _) (fun s hs => by cases hs; rfl)
      · intro listed a' w' hw hd K hK
        refine step_free rfl ?_
        apply wp_assign
        exact hK _ _ (Below.refl _ _) (fun s hs => by cases hs; exact (hw.at_ 11 14 rfl (hd ⟨11, .data⟩ (by simp) rfl)))
    · intro listed a' w' hw hall
      have hk2 : a'.tmps.getD 2 undef = .bool true := hw.at_ 12 2 rfl (hall 12 (Nat.lt_of_lt_of_eq (show 12 < 13 by omega) rfl))
      have hbF : Hid (Below w.heap.size w w') := Lib.hid (ktr BD.out hw.below)
      have hp := hw.puts [3, 4, 5, 6, 7, 8, 9, 10, 11, 12, 13, 14, 2] (by kernel_rfl)
      clear hw hall
      rw [hp]
      simp only [List.foldl_cons, List.foldl_nil, hk2]
      generalize a'.tmps.getD 3 undef = u3
      generalize a'.tmps.getD 4 undef = u4
      generalize a'.tmps.getD 5 undef = u5
      generalize a'.tmps.getD 6 undef = u6
      generalize a'.tmps.getD 7 undef = u7
      generalize a'.tmps.getD 8 undef = u8
      generalize a'.tmps.getD 9 undef = u9
      generalize a'.tmps.getD 10 undef = u10
      generalize a'.tmps.getD 11 undef = u11
      generalize a'.tmps.getD 12 undef = u12
      generalize a'.tmps.getD 13 undef = u13
      generalize a'.tmps.getD 14 undef = u14
      clear hp hk2
      simp only [Act.put, List.setIfInBounds_toArray, List.set_cons_succ, List.set_cons_zero]
      go_wp2
      go_ret
      exact ⟨rfl, hbF⟩
theorem kmays_walk (p : Pk) (A0 : Option Addr) (c0 : Nat) (A1 : Option Addr) (c1 : Nat) (A2 : Option Addr) (c2 : Nat) (w : World) (hi : PkIn w w.heap.size p A0 c0 A1 c1 A2 c2) (hk : PkOk p) :
    Calls Try.prog 3 #[pkV p A0 c0 A1 c1 A2 c2] w fun e w' => e = .returned (.bool true) ∧ Hid (Below w.heap.size w w') :=
  kmays_int _ _ _ _ _ _ _ A0 A1 A2 _ c0 _ c1 _ c2 p.heads p.body p.peers w (hi.pin hk) hk.2.1.2.1 hk.2.2.2.2.1.2.1
end Go.Proofs.Ytlcddfkhklmieaa
