/-
  The statement FrameMay's walk: whatever frame, it answers true, and leaves all that was there as it was. Condition: the sum's table stands as it was laid.
-/
import Derived.Test.YtelbhlkojpnmgaaDoorFawake
import Derived.Test.YtelbhlkojpnmgaaDoorFmay
namespace Go.Proofs.YtelbhlkojpnmgaaDoor
set_option maxRecDepth 20000
open Go.RowKit

def FMayG (k s t : Int) (x c p q a e : Nat) (A : Option Addr) (n cap : Nat) (d1 : Bool) (i : Nat) (_ : World) (v : Value) : Prop :=
  match i with
  | 0 => v = .agg #[.int .i64 k, .int .i64 s, .int .i64 t, .int .u64 (x : Int), .int .u64 (c : Int), .int .u64 (p : Int), .int .u64 (q : Int), .int .u64 (a : Int), .int .u64 (e : Int), .slice A n cap]
  | 1 => v = .bool d1
  | 2 => v = .agg #[.int .i64 k, .int .i64 s, .int .i64 t, .int .u64 (x : Int), .int .u64 (c : Int), .int .u64 (p : Int), .int .u64 (q : Int), .int .u64 (a : Int), .int .u64 (e : Int), .slice A n cap]
  | 3 => v = .bool d1
  | 4 => v = .bool true
  | 5 => v = .bool true
  | 6 => v = .bool true
  | 7 => v = .bool true
  | _ => v = .bool true
theorem FMayG.mono {k s t : Int} {x c p q a e : Nat} {A : Option Addr} {n cap : Nat} {d1 : Bool} {i : Nat} {v : Value} {w w' : World} (_ : Below w.heap.size w w') (h : FMayG k s t x c p q a e A n cap d1 i w v) : FMayG k s t x c p q a e A n cap d1 i w' v := by
  unfold FMayG at *
  exact h
set_option maxHeartbeats 4000000 in
theorem fmays_int (k s t : Int) (x c p q a e : Nat) (A : Option Addr) (n cap : Nat) (l : List UInt8) (w : World) (ht : Tab w) (hn : l.length = n) :
    Calls Tryd.prog 3 #[.agg #[.int .i64 k, .int .i64 s, .int .i64 t, .int .u64 (x : Int), .int .u64 (c : Int), .int .u64 (p : Int), .int .u64 (q : Int), .int .u64 (a : Int), .int .u64 (e : Int), .slice A n cap]] w fun e w' => e = .returned (.bool true) ∧ Hid (Below w.heap.size w w') := by
  have mixed : Tryd.prog.follows .mixedOrders = true := by kernel_rfl
  have HM1 := Lib.hid (fun W => show Calls Tryd.prog 10 #[.agg #[.int .i64 k, .int .i64 s, .int .i64 t, .int .u64 (x : Int), .int .u64 (c : Int), .int .u64 (p : Int), .int .u64 (q : Int), .int .u64 (a : Int), .int .u64 (e : Int), .slice A n cap]] W (fun en w' => en = .returned (.bool (decide (mayF ⟨k, s, t, x, c, p, q, a, e, l⟩))) ∧ Hid (Below W.heap.size W w')) from fmay_any ⟨k, s, t, x, c, p, q, a, e, l⟩ A n cap hn W)
  have HM2 := Lib.hid (fun W => show Calls Tryd.prog 11 #[.agg #[.int .i64 k, .int .i64 s, .int .i64 t, .int .u64 (x : Int), .int .u64 (c : Int), .int .u64 (p : Int), .int .u64 (q : Int), .int .u64 (a : Int), .int .u64 (e : Int), .slice A n cap]] W (fun en w' => en = .returned (.bool (decide (mayF ⟨k, s, t, x, c, p, q, a, e, l⟩))) ∧ Hid (Below W.heap.size W w')) from rfmay_any ⟨k, s, t, x, c, p, q, a, e, l⟩ A n cap hn W)
  generalize decide (mayF ⟨k, s, t, x, c, p, q, a, e, l⟩) = d1 at HM1 HM2
  have F1 := Lib.hid (frow_new (k := k) (s := s) (t := t) (i := (x : Int)) (c := (c : Int)) (p := (p : Int)) (q := (q : Int)) (a := (a : Int)) (e := (e : Int)) (A := A) (n := n) (cap := cap) (ty := 25) w)
  have B1 := Lib.hid (fbelow_box w (.cells #[.int .i64 k, .int .i64 s, .int .i64 t, .int .u64 (x : Int), .int .u64 (c : Int), .int .u64 (p : Int), .int .u64 (q : Int), .int .u64 (a : Int), .int .u64 (e : Int), .slice A n cap] 25))
  have HT1 := Lib.hid (ht.below ht.pos B1.out)
  have hpos := ht.pos
  clear ht hn
  go_enter Tryd.func3, Tryd.ntmps3
  go_wp2_with fail
  generalize w.alloc (.cells #[.int .i64 k, .int .i64 s, .int .i64 t, .int .u64 (x : Int), .int .u64 (c : Int), .int .u64 (p : Int), .int .u64 (q : Int), .int .u64 (a : Int), .int .u64 (e : Int), .slice A n cap] 25) = W1 at *
  have KF : Hid (FRow w.heap.size k s t (x : Int) (c : Int) (p : Int) (q : Int) (a : Int) (e : Int) A n cap 25 W1.drew) := F1
  have HT : Hid (Tab W1.drew) := HT1
  have HTP : Hid (0 < W1.drew.heap.size) := Lib.hid (Nat.lt_of_lt_of_le hpos B1.out.size)
  have BD : Hid (Below w.heap.size w W1.drew) := Lib.hid ⟨B1.out.os, B1.out.tape, B1.out.output, B1.out.size, B1.out.block⟩
  clear F1 HT1 B1 hpos
  refine region_steps (n := 11) (FMayG k s t x c p q a e A n cap d1) (by kernel_rfl) (by kernel_rfl) rfl (fun _ _ _ _ hb h => FMayG.mono hb h) ?_ ?_
  · refine And.intro ?_ (And.intro ?_ (And.intro ?_ (And.intro ?_ (And.intro ?_ (And.intro ?_ (And.intro ?_ (And.intro ?_ (And.intro ?_ (True.intro)))))))))
    · intro listed a' w' hw hd K hK
      have hv1 := hw.kept 1 (by kernel_rfl)
      obtain ⟨k0, k1, k2, k3, k4, k5, k6, k7, k8, k9⟩ := (KF.out.below hw.below).box
      refine step_free rfl ?_
      unfold Oper.wp
      simp only [execOp]
      go_simp
      exact hK _ _ (Below.refl _ _) (fun s hs => by cases hs; rfl)
    · intro listed a' w' hw hd K hK
      have hv3 : a'.tmps.getD 3 undef = .agg #[.int .i64 k, .int .i64 s, .int .i64 t, .int .u64 (x : Int), .int .u64 (c : Int), .int .u64 (p : Int), .int .u64 (q : Int), .int .u64 (a : Int), .int .u64 (e : Int), .slice A n cap] := (hw.at_ 0 3 rfl (hd ⟨0, .data⟩ (by simp) rfl))
      refine step_free rfl ?_
      unfold Oper.wp
      simp only [execOp]
      go_simp
      refine (HM1.out w').mono ?_
      rintro e w2 ⟨rfl, hb2⟩
      exact hK _ _ hb2.out (fun s hs => by cases hs; rfl)
    · intro listed a' w' hw hd K hK
      have hv1 := hw.kept 1 (by kernel_rfl)
      obtain ⟨k0, k1, k2, k3, k4, k5, k6, k7, k8, k9⟩ := (KF.out.below hw.below).box
      refine step_free rfl ?_
      unfold Oper.wp
      simp only [execOp]
      go_simp
      exact hK _ _ (Below.refl _ _) (fun s hs => by cases hs; rfl)
    · intro listed a' w' hw hd K hK
      have hv5 : a'.tmps.getD 5 undef = .agg #[.int .i64 k, .int .i64 s, .int .i64 t, .int .u64 (x : Int), .int .u64 (c : Int), .int .u64 (p : Int), .int .u64 (q : Int), .int .u64 (a : Int), .int .u64 (e : Int), .slice A n cap] := (hw.at_ 2 5 rfl (hd ⟨2, .data⟩ (by simp) rfl))
      refine step_free rfl ?_
      unfold Oper.wp
      simp only [execOp]
      go_simp
      refine (HM2.out w').mono ?_
      rintro e w2 ⟨rfl, hb2⟩
      exact hK _ _ hb2.out (fun s hs => by cases hs; rfl)
    · intro listed a' w' hw hd K hK
      have hv4 : a'.tmps.getD 4 undef = .bool d1 := (hw.at_ 1 4 rfl (hd ⟨1, .data⟩ (by simp) rfl))
      have hv6 : a'.tmps.getD 6 undef = .bool d1 := (hw.at_ 3 6 rfl (hd ⟨3, .data⟩ (by simp) rfl))
      have e1 : (d1 == d1) = true := by simp
      refine step_free rfl ?_
      unfold Oper.wp
      simp only [execOp]
      go_simp
      exact hK _ _ (Below.refl _ _) (fun s hs => by cases hs; rfl)
    · intro listed a' w' hw hd K hK
      refine step_free rfl ?_
      apply wp_move
      exact hK _ _ (Below.refl _ _) (fun s hs => by cases hs; exact (hw.at_ 4 7 rfl (hd ⟨4, .data⟩ (by simp) rfl)))
    · intro listed a' w' hw hd K hK
      have hgd : a'.tmps.getD 8 undef = .bool true := (hw.at_ 5 8 rfl (hd ⟨5, .guard⟩ (by simp) rfl))
      refine step_guarded (j := 5) (b := true) (s := 8) rfl rfl (by rw [hw.size]; exact Nat.lt_of_lt_of_eq (show 8 < 11 by omega) rfl) hgd ?_
      unfold Oper.wp
      simp only [execOp]
      go_simp
      refine (awake5_any w' (HT.out.below HTP.out hw.below)).mono ?_
      rintro e w2 ⟨rfl, hb2⟩
      exact hK _ _ hb2.out (fun s hs => by cases hs; rfl)
    · intro listed a' w' hw hd K hK
      have hv8 : a'.tmps.getD 8 undef = .bool true := (hw.at_ 5 8 rfl (hd ⟨5, .data⟩ (by simp) rfl))
      have hv9 : a'.tmps.getD 9 undef = .bool true := (hw.at_ 6 9 rfl (hd ⟨6, .data⟩ (by simp) rfl))
      refine step_free rfl ?_
      unfold Oper.wp
      simp only [execOp]
      go_simp
      exact hK _ _ (Below.refl _ _) (fun s hs => by cases hs; rfl)
    · intro listed a' w' hw hd K hK
      refine step_free rfl ?_
      apply wp_assign
      exact hK _ _ (Below.refl _ _) (fun s hs => by cases hs; exact (hw.at_ 7 10 rfl (hd ⟨7, .data⟩ (by simp) rfl)))
  · intro listed a' w' hw hall
    have hk2 : a'.tmps.getD 2 undef = .bool true := hw.at_ 8 2 rfl (hall 8 (Nat.lt_of_lt_of_eq (show 8 < 9 by omega) rfl))
    have hbF : Hid (Below w.heap.size w w') := Lib.hid (fbtr BD.out hw.below)
    have hp := hw.puts [3, 4, 5, 6, 7, 8, 9, 10, 2] (by kernel_rfl)
    clear hw hall
    rw [hp]
    simp only [List.foldl_cons, List.foldl_nil, hk2]
    generalize a'.tmps.getD 3 undef = u3
    generalize a'.tmps.getD 4 undef = u4
    generalize a'.tmps.getD 5 undef = u5
    generalize a'.tmps.getD 6 undef = u6
    generalize a'.tmps.getD 7 undef = u7
    generalize a'.tmps.getD 8 undef = u8
    generalize a'.tmps.getD 9 undef = u9
    generalize a'.tmps.getD 10 undef = u10
    clear hp hk2
    simp only [Act.put, List.setIfInBounds_toArray, List.set_cons_succ, List.set_cons_zero]
    go_wp2
    go_ret
    exact ⟨rfl, hbF⟩
theorem fmays_walk (f : Fr) (A : Option Addr) (cap : Nat) (w : World) (ht : Tab w) :
    Calls Tryd.prog 3 #[frV f A f.body.length cap] w fun e w' => e = .returned (.bool true) ∧ Hid (Below w.heap.size w w') := fmays_int _ _ _ _ _ _ _ _ _ A _ cap f.body w ht rfl
end Go.Proofs.YtelbhlkojpnmgaaDoor
