/-
  The statements ProcCompares' and ProcOrder's walks: whatever lives, they answer true, and leave all that was there as it was. For lives whose numbers are not below 0.
-/
import Derived.Test.YtadpbcbgmopfaaaPawake
import Derived.Shelf.SlSortCmp.QuietGrown
namespace Go.Proofs.Ytadpbcbgmopfaaa
set_option maxRecDepth 20000
open Go.RowKit

theorem drew_below {w W : World} (h : Below w.heap.size w W) : Below w.heap.size w W.drew := ⟨h.os, h.tape, h.output, h.size, h.block⟩
set_option maxHeartbeats 4000000 in
theorem compares_walk (p q : Life) (w : World) (hp : 0 ≤ p.2) : Calls Try.prog 9 #[lifeV p, lifeV q] w fun e w' => e = .returned (.bool true) ∧ Hid (Below w.heap.size w w') := by
  have HM := Lib.hid (fun W => may_any p hp W)
  have HRM := Lib.hid (fun W => rmay_any p hp W)
  have HC := Lib.hid (fun W => compare_any p q W)
  have HRC := Lib.hid (fun W => rcompare_any p q W)
  have HA := Lib.hid (fun W => awake3_any W)
  have T2 := Lib.hid (two_new w p q)
  have B2 := Lib.hid (two_below w (.cells #[.int .i64 p.1, .int .u64 p.2] 70) (.cells #[.int .i64 q.1, .int .u64 q.2] 70))
  obtain ⟨p1, p2⟩ := p
  obtain ⟨q1, q2⟩ := q
  generalize decide (mayL (p1, p2)) = vm at *
  generalize cmpL (p1, p2) (q1, q2) = vc at *
  go_enter Try.func9, Try.ntmps9
  go_wp2_with fail
  generalize (w.alloc (.cells #[.int .i64 p1, .int .u64 p2] 70)).alloc (.cells #[.int .i64 q1, .int .u64 q2] 70) = W2 at *
  generalize hB : w.heap.size = B at T2 ⊢
  have HB := Lib.hid hB
  clear hB
  obtain ⟨k1, k2, k3, k4⟩ := T2.out
  simp only at k1 k2 k3 k4
  have kk : Hid (Two B (p1, p2) (q1, q2) W2.drew) := T2
  have BB : Hid (Below w.heap.size w W2.drew) := Lib.hid (drew_below B2.out)
  have e1 : (vm == vm) = true := by simp
  have e2 : (vc == vc) = true := by simp
  clear T2 B2
  go_region_held (fun w' => w'.cell? ⟨B, 0, none⟩ = some (.int .i64 p1) ∧ w'.cell? ⟨B, 1, none⟩ = some (.int .u64 p2) ∧ w'.cell? ⟨B + 1, 0, none⟩ = some (.int .i64 q1) ∧ w'.cell? ⟨B + 1, 1, none⟩ = some (.int .u64 q2)) (first | go_keep | exact kk.out)
    (first | (go_at_call 37; refine (HM.out _).mono ?_; rintro e V ⟨rfl, hb⟩; have BB := Lib.hid (btr BB.out hb.out); have kk := Lib.hid (kk.out.below hb.out)) | (go_at_call 38; refine (HRM.out _).mono ?_; rintro e V ⟨rfl, hb⟩; have BB := Lib.hid (btr BB.out hb.out); have kk := Lib.hid (kk.out.below hb.out)) | (go_at_call 39; refine (HC.out _).mono ?_; rintro e V ⟨rfl, hb⟩; have BB := Lib.hid (btr BB.out hb.out); have kk := Lib.hid (kk.out.below hb.out)) | (go_at_call 40; refine (HRC.out _).mono ?_; rintro e V ⟨rfl, hb⟩; have BB := Lib.hid (btr BB.out hb.out); have kk := Lib.hid (kk.out.below hb.out)) | (go_at_call 41; refine (HA.out _).mono ?_; rintro e V ⟨rfl, hb⟩; have BB := Lib.hid (btr BB.out hb.out); have kk := Lib.hid (kk.out.below hb.out)))
  all_goals
    go_wp2
    go_ret
    exact ⟨rfl, BB⟩

/-- Three lives in blocks one behind the other. -/
theorem three_new (w : World) (a b c : Life) (W : World) (h : W = ((w.alloc (.cells #[.int .i64 a.1, .int .u64 a.2] 70)).alloc (.cells #[.int .i64 b.1, .int .u64 b.2] 70)).alloc (.cells #[.int .i64 c.1, .int .u64 c.2] 70)) :
    (W.cell? ⟨w.heap.size, 0, none⟩ = some (.int .i64 a.1) ∧ W.cell? ⟨w.heap.size, 1, none⟩ = some (.int .u64 a.2)) ∧ (W.cell? ⟨w.heap.size + 1, 0, none⟩ = some (.int .i64 b.1) ∧ W.cell? ⟨w.heap.size + 1, 1, none⟩ = some (.int .u64 b.2)) ∧
      (W.cell? ⟨w.heap.size + 1 + 1, 0, none⟩ = some (.int .i64 c.1) ∧ W.cell? ⟨w.heap.size + 1 + 1, 1, none⟩ = some (.int .u64 c.2)) ∧ W.heap.size = w.heap.size + 3 ∧ Below w.heap.size w W := by
  subst h
  obtain ⟨k1, k2, k3, k4⟩ := two_new w a b
  have hb := two_below w (.cells #[.int .i64 a.1, .int .u64 a.2] 70) (.cells #[.int .i64 b.1, .int .u64 b.2] 70)
  have hs : ((w.alloc (.cells #[.int .i64 a.1, .int .u64 a.2] 70)).alloc (.cells #[.int .i64 b.1, .int .u64 b.2] 70)).heap.size = w.heap.size + 1 + 1 := by simp
  generalize (w.alloc (.cells #[.int .i64 a.1, .int .u64 a.2] 70)).alloc (.cells #[.int .i64 b.1, .int .u64 b.2] 70) = W2 at *
  have hn := one_new W2 c.1 c.2
  rw [hs] at hn
  exact ⟨⟨cell_at_old _ k1, cell_at_old _ k2⟩, ⟨cell_at_old _ k3, cell_at_old _ k4⟩, hn, by simp [hs], btr hb ((Below.refl _ _).alloc (Nat.le_refl _) _)⟩
theorem cmpL_eq_left {a b c : Life} (h : cmpL a b = 0) : cmpL b c = cmpL a c := by rw [(cmpL_zero a b).1 h]
theorem cmpL_lt_trans {a b c : Life} (h : cmpL a b < 0) (k : cmpL b c < 0) : cmpL a c = -1 := by
  have h1 := before_trans ((cmpL_lt a b).1 h) ((cmpL_lt b c).1 k)
  unfold cmpL
  rw [if_pos h1]
set_option maxHeartbeats 4000000 in
theorem order_walk (a b c : Life) (w : World) : Calls Try.prog 13 #[lifeV a, lifeV b, lifeV c] w fun e w' => e = .returned (.bool true) ∧ Hid (Below w.heap.size w w') := by
  have HAB := Lib.hid (fun W => compare_g a b W)
  have HBC := Lib.hid (fun W => compare_g b c W)
  have HAC := Lib.hid (fun W => compare_g a c W)
  have HBA := Lib.hid (fun W => compare_any b a W)
  have HA := Lib.hid (fun W => awake3_any W)
  have T3 := three_new w a b c _ rfl
  have F1 := Lib.hid (cmpL_neg a b)
  have F2 := Lib.hid (cmpL_zero a b)
  have F3 := Lib.hid (cmpL_range a b)
  have F4 := Lib.hid (show cmpL a b = 0 → cmpL b c = cmpL a c from cmpL_eq_left)
  have F5 := Lib.hid (show cmpL a b < 0 → cmpL b c < 0 → cmpL a c = -1 from cmpL_lt_trans)
  have he := fun w => eq_run a.1 a.2 b.1 b.2 w
  have hg := fun op x y w => guard_run op x y a.1 a.2 b.1 b.2 w
  obtain ⟨a1, a2⟩ := a
  obtain ⟨b1, b2⟩ := b
  obtain ⟨c1, c2⟩ := c
  simp only at he hg T3
  generalize cmpL (a1, a2) (b1, b2) = x at *
  generalize cmpL (b1, b2) (c1, c2) = y at *
  generalize cmpL (a1, a2) (c1, c2) = z at *
  generalize cmpL (b1, b2) (a1, a2) = x' at *
  generalize hd : decide (((a1, a2) : Life) = (b1, b2)) = d at *
  have F6 : Hid ((x = 0) ↔ d = true) := Lib.hid (by rw [← hd, decide_eq_true_iff]; exact F2.out)
  clear hd F2
  have mixed : Try.prog.follows .mixedOrders = true := by kernel_rfl
  go_enter Try.func13, Try.ntmps13
  go_wp2_with fail
  generalize ((w.alloc (.cells #[.int .i64 a1, .int .u64 a2] 70)).alloc (.cells #[.int .i64 b1, .int .u64 b2] 70)).alloc (.cells #[.int .i64 c1, .int .u64 c2] 70) = W3 at *
  obtain ⟨⟨k1, k2⟩, ⟨k3, k4⟩, ⟨k5, k6⟩, hs, hb3⟩ := T3
  have B3 := Lib.hid hb3
  clear hb3
  generalize hB : w.heap.size = B at k1 k2 k3 k4 k5 k6 hs ⊢
  have HB := Lib.hid hB
  have q1 := fun n os => cell_grown (n := n) (os := os) (a := ⟨B, 0, none⟩) (by simp only; omega) k1
  have q2 := fun n os => cell_grown (n := n) (os := os) (a := ⟨B, 1, none⟩) (by simp only; omega) k2
  have q3 := fun n os => cell_grown (n := n) (os := os) (a := ⟨B + 1, 0, none⟩) (by simp only; omega) k3
  have q4 := fun n os => cell_grown (n := n) (os := os) (a := ⟨B + 1, 1, none⟩) (by simp only; omega) k4
  have q5 := fun n os => cell_grown (n := n) (os := os) (a := ⟨B + 1 + 1, 0, none⟩) (by simp only; omega) k5
  have q6 := fun n os => cell_grown (n := n) (os := os) (a := ⟨B + 1 + 1, 1, none⟩) (by simp only; omega) k6
  clear hB k1 k2 k3 k4 k5 k6 hs
  go_quiet_grown (first | (go_at_call 39; refine Calls.grown_of (HAB.out _)) | (go_at_call 39; refine Calls.grown_of (HBC.out _)) | (go_at_call 39; refine Calls.grown_of (HAC.out _)))
  have k1 := q1 nq osq
  have k2 := q2 nq osq
  have k3 := q3 nq osq
  have k4 := q4 nq osq
  have BV := Lib.hid (btr B3.out (grow_below W3 nq osq))
  clear q1 q2 q3 q4 q5 q6 B3 HAB HBC HAC
  simp only
  generalize Sort.grow (W3.drewN nq) osq = V at *
  go_wp2_with fail
  refine (HBA.out _).mono ?_
  rintro e V1 ⟨rfl, hb1⟩
  have m1 := cell_below k1 hb1.out
  have m2 := cell_below k2 hb1.out
  have m3 := cell_below k3 hb1.out
  have m4 := cell_below k4 hb1.out
  have BV1 := Lib.hid (btr BV.out hb1.out)
  clear k1 k2 k3 k4 hb1 BV
  have hx' := F1.out
  clear F1
  rcases F3.out with hx | hx | hx
  · by_cases hy : y < 0
    · have hz := F5.out (by omega) hy
      have hd : d = false := by
        cases hd : d with
        | false => rfl
        | true => have := F6.out.2 hd; omega
      subst hx hz hd hx'
      clear F3 F4 F5 F6
      go_wp2_with fail
      refine (HA.out _).mono ?_
      rintro e V2 ⟨rfl, hb2⟩
      go_wp2
      go_ret
      exact ⟨rfl, Lib.hid (btr BV1.out hb2.out)⟩
    · have hd : d = false := by
        cases hd : d with
        | false => rfl
        | true => have := F6.out.2 hd; omega
      subst hx hd hx'
      clear F3 F4 F5 F6
      go_wp2_with fail
      refine (HA.out _).mono ?_
      rintro e V2 ⟨rfl, hb2⟩
      go_wp2
      go_ret
      exact ⟨rfl, Lib.hid (btr BV1.out hb2.out)⟩
  · have hyz := F4.out hx
    have hd := F6.out.1 hx
    subst hx hyz hd hx'
    clear F3 F4 F5 F6
    have e1 : (y != y) = false := by simp
    go_wp2_with fail
    refine (HA.out _).mono ?_
    rintro e V2 ⟨rfl, hb2⟩
    go_wp2
    go_ret
    exact ⟨rfl, Lib.hid (btr BV1.out hb2.out)⟩
  · have hd : d = false := by
      cases hd : d with
      | false => rfl
      | true => have := F6.out.2 hd; omega
    subst hx hd hx'
    clear F3 F4 F5 F6
    go_wp2_with fail
    refine (HA.out _).mono ?_
    rintro e V2 ⟨rfl, hb2⟩
    go_wp2
    go_ret
    exact ⟨rfl, Lib.hid (btr BV1.out hb2.out)⟩
end Go.Proofs.Ytadpbcbgmopfaaa
