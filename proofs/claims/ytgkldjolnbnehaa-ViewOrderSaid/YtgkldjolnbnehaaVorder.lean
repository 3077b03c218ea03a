/-
  The statement ViewOrder's walk: whatever names, it answers true, and leaves all that was there as it was. No condition.
-/
import Derived.Test.YtgkldjolnbnehaaVawake
import Derived.Test.YtgkldjolnbnehaaGe
namespace Go.Proofs.Ytgkldjolnbnehaa
set_option maxRecDepth 20000
open Go.RowKit
open Go.Sort (grow)

theorem three_nm (w : World) (a b c : Nm) (t : TypeId) (W : World) (h : W = ((w.alloc (.cells (nmC a) t)).alloc (.cells (nmC b) t)).alloc (.cells (nmC c) t)) :
    NBox w.heap.size a.1 a.2.1 a.2.2 W ∧ NBox (w.heap.size + 1) b.1 b.2.1 b.2.2 W ∧ NBox (w.heap.size + 1 + 1) c.1 c.2.1 c.2.2 W ∧ Below w.heap.size w W := by
  subst h
  have h2 := two2_new w a b t
  have hb := two_below w (.cells (nmC a) t) (.cells (nmC b) t)
  have e : ((w.alloc (.cells (nmC a) t)).alloc (.cells (nmC b) t)).heap.size = w.heap.size + 1 + 1 := by simp
  have h3 := nbox_new ((w.alloc (.cells (nmC a) t)).alloc (.cells (nmC b) t)) c.1 c.2.1 c.2.2 t
  rw [e] at h3
  exact ⟨h2.1.below (below_box _ _), h2.2.below (below_box _ _), h3, btr hb (below_box _ _)⟩
theorem cmpNm_eq_left {a b c : Nm} (h : cmpNm a b = 0) : cmpNm b c = cmpNm a c := by rw [(cmpNm_zero a b).1 h]
theorem cmpNm_lt_trans {a b c : Nm} (h : cmpNm a b < 0) (k : cmpNm b c < 0) : cmpNm a c = -1 := by
  have h1 := beforeNm_trans ((cmpNm_lt a b).1 h) ((cmpNm_lt b c).1 k)
  have h2 := (cmpNm_lt a c).2 h1
  rcases cmpNm_range a c with h3 | h3 | h3 <;> omega
theorem vcompare_e (r x y s u v : Int) (w : World) : Calls Try.prog 19 #[.agg #[.int .u64 r, .int .i64 x, .int .u64 y], .agg #[.int .u64 s, .int .i64 u, .int .u64 v]] w fun e w' => e = .returned (.int .i64 (cmpNm (r, (x, y)) (s, (u, v)))) ∧ Hid (Below w.heap.size w w') := vcompare_any (r, (x, y)) (s, (u, v)) w
set_option maxHeartbeats 8000000 in
theorem order4_walk (a b c : Nm) (w : World) : Calls Try.prog 7 #[nmV a, nmV b, nmV c] w fun e w' => e = .returned (.bool true) ∧ Hid (Below w.heap.size w w') := by
  have HBA := Lib.hid (fun W => vcompare_any b a W)
  have HA := Lib.hid (fun W => awake4_any W)
  have T3 := three_nm w a b c 26 _ rfl
  have F1 := Lib.hid (cmpNm_neg a b)
  have F2 := Lib.hid (cmpNm_zero a b)
  have F3 := Lib.hid (cmpNm_range a b)
  have F4 := Lib.hid (show cmpNm a b = 0 → cmpNm b c = cmpNm a c from cmpNm_eq_left)
  have F5 := Lib.hid (show cmpNm a b < 0 → cmpNm b c < 0 → cmpNm a c = -1 from cmpNm_lt_trans)
  have he := fun w => eqn_run a.1 a.2.1 a.2.2 b.1 b.2.1 b.2.2 w
  have hg := fun op x y w => guardn_run op x y a.1 a.2.1 a.2.2 b.1 b.2.1 b.2.2 w
  obtain ⟨a0, a1, a2⟩ := a
  obtain ⟨b0, b1, b2⟩ := b
  obtain ⟨c0, c1, c2⟩ := c
  simp only at he hg T3
  have mixed : Try.prog.follows .mixedOrders = true := by kernel_rfl
  go_enter Try.func7, Try.ntmps7
  go_wp2_with fail
  generalize ((w.alloc (.cells #[.int .u64 a0, .int .i64 a1, .int .u64 a2] 26)).alloc (.cells #[.int .u64 b0, .int .i64 b1, .int .u64 b2] 26)).alloc (.cells #[.int .u64 c0, .int .i64 c1, .int .u64 c2] 26) = W3 at *
  obtain ⟨N1, N2, N3, hb3⟩ := T3
  have B3 := Lib.hid hb3
  clear hb3
  generalize hB : w.heap.size = B at N1 N2 N3 ⊢
  have HB := Lib.hid hB
  have HN1 := Lib.hid N1
  have HN2 := Lib.hid N2
  have q1 := fun d os => cell_regrown (d := d) (os := os) N1.1
  have q2 := fun d os => cell_regrown (d := d) (os := os) N1.2.1
  have q3 := fun d os => cell_regrown (d := d) (os := os) N1.2.2
  have q4 := fun d os => cell_regrown (d := d) (os := os) N2.1
  have q5 := fun d os => cell_regrown (d := d) (os := os) N2.2.1
  have q6 := fun d os => cell_regrown (d := d) (os := os) N2.2.2
  have q7 := fun d os => cell_regrown (d := d) (os := os) N3.1
  have q8 := fun d os => cell_regrown (d := d) (os := os) N3.2.1
  have q9 := fun d os => cell_regrown (d := d) (os := os) N3.2.2
  clear hB N1 N2 N3
  refine wp_region_quiet_below mixed (by kernel_rfl) ?_
  repeat (quiet_step ((go_at_call 19; refine Calls.regrown_of (vcompare_e _ _ _ _ _ _ _))))
  refine wpQuiet_nil ?_
  intro _ hw'
  obtain ⟨⟨nq, osq⟩, hw''⟩ := hw'
  subst hw''
  have M1 := Lib.hid (HN1.out.below (below_regrown W3 nq osq))
  have M2 := Lib.hid (HN2.out.below (below_regrown W3 nq osq))
  have BV := Lib.hid (btr B3.out (below_regrown W3 nq osq))
  clear q1 q2 q3 q4 q5 q6 q7 q8 q9 B3 HN1 HN2
  generalize cmpNm (a0, (a1, a2)) (b0, (b1, b2)) = x at *
  generalize cmpNm (b0, (b1, b2)) (c0, (c1, c2)) = y at *
  generalize cmpNm (a0, (a1, a2)) (c0, (c1, c2)) = z at *
  generalize cmpNm (b0, (b1, b2)) (a0, (a1, a2)) = x' at *
  generalize hd : decide (((a0, (a1, a2)) : Nm) = (b0, (b1, b2))) = d at *
  have F6 : Hid ((x = 0) ↔ d = true) := Lib.hid (by rw [← hd, decide_eq_true_iff]; exact F2.out)
  clear hd F2
  generalize Sort.grow (redrawn W3 nq) osq = V at *
  obtain ⟨k1, k2, k3⟩ := M1.out
  obtain ⟨k4, k5, k6⟩ := M2.out
  go_wp2_with fail
  refine (HBA.out _).mono ?_
  rintro e V1 ⟨rfl, hb1⟩
  have M3 := Lib.hid (M1.out.below hb1.out)
  have M4 := Lib.hid (M2.out.below hb1.out)
  have BV1 := Lib.hid (btr BV.out hb1.out)
  clear k1 k2 k3 k4 k5 k6 hb1 BV M1 M2
  obtain ⟨k1, k2, k3⟩ := M3.out
  obtain ⟨k4, k5, k6⟩ := M4.out
  have hx' := F1.out
  clear F1
  rcases F3.out with hx | hx | hx
  · by_cases hy : y < 0
    · have hz := F5.out (by omega) hy
      have hd : d = false := by
        cases hd : d with
        | false => rfl
        | true => have := F6.out.2 hd; omega
      subst hx hz hd hx'
      clear F3 F4 F5 F6
      go_wp2_with fail
      refine (HA.out _).mono ?_
      rintro e V2 ⟨rfl, hb2⟩
      go_wp2
      go_ret
      exact ⟨rfl, Lib.hid (btr BV1.out hb2.out)⟩
    · have hd : d = false := by
        cases hd : d with
        | false => rfl
        | true => have := F6.out.2 hd; omega
      subst hx hd hx'
      clear F3 F4 F5 F6
      go_wp2_with fail
      refine (HA.out _).mono ?_
      rintro e V2 ⟨rfl, hb2⟩
      go_wp2
      go_ret
      exact ⟨rfl, Lib.hid (btr BV1.out hb2.out)⟩
  · have hyz := F4.out hx
    have hd := F6.out.1 hx
    subst hx hyz hd hx'
    clear F3 F4 F5 F6
    have e1 : (y != y) = false := by simp
    go_wp2_with fail
    refine (HA.out _).mono ?_
    rintro e V2 ⟨rfl, hb2⟩
    go_wp2
    go_ret
    exact ⟨rfl, Lib.hid (btr BV1.out hb2.out)⟩
  · have hd : d = false := by
      cases hd : d with
      | false => rfl
      | true => have := F6.out.2 hd; omega
    subst hx hd hx'
    clear F3 F4 F5 F6
    go_wp2_with fail
    refine (HA.out _).mono ?_
    rintro e V2 ⟨rfl, hb2⟩
    go_wp2
    go_ret
    exact ⟨rfl, Lib.hid (btr BV1.out hb2.out)⟩
end Go.Proofs.Ytgkldjolnbnehaa
