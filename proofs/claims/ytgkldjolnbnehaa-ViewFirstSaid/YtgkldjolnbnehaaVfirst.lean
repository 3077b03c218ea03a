/-
  The statement ViewFirst's walk: whatever life and view, it answers true, and leaves all that was there as it was. No condition but that the view is a view, and the numbers are unsigned.
-/
import Derived.Test.YtgkldjolnbnehaaVawake
import Derived.Test.YtgkldjolnbnehaaGe
namespace Go.Proofs.Ytgkldjolnbnehaa
set_option maxRecDepth 20000
open Go.RowKit
open Go.Sort (grow)

theorem box_pv (w : World) (p : Life) (r x y : Int) (A : Option Addr) (n c : Nat) (A' : Option Addr) (m c' : Nat) (t : TypeId) :
    PBox w.heap.size p.1 p.2 ((w.alloc (.cells #[.int .i64 p.1, .int .u64 p.2] 24)).alloc (.cells #[.int .u64 r, .int .i64 x, .int .u64 y, .slice A n c, .slice A' m c'] t)) ∧
    VBox (w.heap.size + 1) r x y A n c A' m c' ((w.alloc (.cells #[.int .i64 p.1, .int .u64 p.2] 24)).alloc (.cells #[.int .u64 r, .int .i64 x, .int .u64 y, .slice A n c, .slice A' m c'] t)) := by
  have e : (w.alloc (.cells #[.int .i64 p.1, .int .u64 p.2] 24)).heap.size = w.heap.size + 1 := by simp
  have h2 := vbox_new (w.alloc (.cells #[.int .i64 p.1, .int .u64 p.2] 24)) r x y A n c A' m c' t
  rw [e] at h2
  exact ⟨PBox.below (one_new w p.1 p.2) (below_box _ _), h2⟩
theorem st_one (p : Life) : stL [p] [0] p = 0 := by simp [stL, atN]
theorem has_one (p : Life) : hasL [p] [0] p = true := by simp [hasL]
theorem first_ahead {i : Nm} (p : Life) (h : 0 < i.1) : cmpNm (0, p) i < 0 := (cmpNm_lt _ _).2 (.inl h)
theorem first_may (p : Life) : decide (mayV ⟨(0, p), [p], [0]⟩) = decide (mayNm (0, p)) := by
  obtain ⟨x, y⟩ := p
  rw [mayV_zero, mayNm_zero]
  simp
set_option maxHeartbeats 8000000 in
theorem first_walk (p : Life) (i : Nm) (A : Option Addr) (ms : List Life) (c : Nat) (A' : Option Addr) (ss : List Nat) (c' : Nat) (w : World) (hp0 : 0 ≤ p.2) (hp1 : p.2 < 18446744073709551616) (hi : UNm i) (h : Vm w 9223372036854775807 A ms.length c A' ss.length c' ms ss) :
    Calls Try.prog 8 #[lifeV p, vwV i A ms.length c A' ss.length c'] w fun e w' => e = .returned (.bool true) ∧ Hid (Below w.heap.size w w') := by
  generalize hn : ms.length = n at *
  generalize hm : ss.length = m at *
  have mixed : Try.prog.follows .mixedOrders = true := by kernel_rfl
  have B2 := Lib.hid (two_below w (.cells #[.int .i64 p.1, .int .u64 p.2] 24) (.cells (vwC i A n c A' m c') 30))
  have HF := Lib.hid (fun W => first_any p W ⟨hp0, hp1⟩)
  have HSt := Lib.hid (fun W A1 A2 (hv : Vm W 1 A1 1 1 A2 1 1 [p] [0]) => start_any (0, p) A1 1 1 A2 1 1 [p] [0] p W hv (by omega))
  rw [st_one, has_one] at HSt
  have HMy := Lib.hid (fun W A1 A2 (hv : Vm W 1 A1 1 1 A2 1 1 [p] [0]) => vmay_any (0, p) ⟨hp0, hp1⟩ A1 1 1 A2 1 1 [p] [0] W hv (by omega))
  rw [first_may] at HMy
  have HMi := Lib.hid (fun W => mayid_any (0, p) hp0 W)
  have HC := Lib.hid (fun W => vcompare_any (0, p) i W)
  have HA := Lib.hid (fun W => awake4_any W)
  have HAh := Lib.hid (fun h => first_ahead (i := i) p h)
  have hi0 := hi.1.1
  generalize decide (mayNm (0, p)) = dm at *
  generalize cmpNm (0, p) i = cv at *
  obtain ⟨r, x, y⟩ := i
  simp only at hi0
  have HB := Lib.hid (box_pv w p r x y A n c A' m c' 30)
  have hle := h.le
  have hsle := h.sle
  clear h hn hm hi
  obtain ⟨p1, p2⟩ := p
  try simp only at HB B2
  go_enter Try.func8, Try.ntmps8
  obtain ⟨⟨k5, k6⟩, ⟨k0, k1, k2, k3, k4⟩⟩ := HB.out
  try simp only at k5 k6
  go_wp2_with fail
  generalize ((w.alloc (.cells #[.int .i64 p1, .int .u64 p2] 24)).alloc (.cells (vwC (r, (x, y)) A n c A' m c') 30)) = W2 at *
  generalize hB : w.heap.size = B at HB k0 k1 k2 k3 k4 k5 k6 ⊢
  have HBB := Lib.hid hB
  clear hB k0 k1 k2 k3 k4 k5 k6
  refine (HF.out W2).mono ?_
  rintro e W3 ⟨A1, A2, rfl, hv3, hb3⟩
  have NB := Lib.hid (vbox_new W3 0 p1 p2 A1 1 1 A2 1 1 30)
  have b4 := Lib.hid (below_box W3 (.cells (vwC (0, (p1, p2)) A1 1 1 A2 1 1) 30))
  have B4 := Lib.hid (btr B2.out (btr hb3.out b4.out))
  have KV := Lib.hid (HB.out.2.below (btr hb3.out b4.out))
  have KP := Lib.hid (HB.out.1.below (btr hb3.out b4.out))
  have V4 := Lib.hid (hv3.out.on b4.out)
  clear HB hb3 b4 B2 HF hv3
  obtain ⟨k5, k6⟩ := KP.out
  obtain ⟨f0, f1, f2, f3, f4⟩ := NB.out
  try simp only at k5 k6
  go_wp2_with fail
  generalize hG : W3.heap.size = G at NB f0 f1 f2 f3 f4 ⊢
  generalize W3.alloc (.cells (vwC (0, (p1, p2)) A1 1 1 A2 1 1) 30) = W4 at *
  clear hG f0 f1 f2 f3 f4 k5 k6
  refine (HSt.out W4 A1 A2 V4.out).mono ?_
  rintro e W5 ⟨rfl, hb5⟩
  have B5 := Lib.hid (btr B4.out hb5.out)
  have KV5 := Lib.hid (KV.out.below hb5.out)
  have NB5 := Lib.hid (NB.out.below hb5.out)
  have V5 := Lib.hid (V4.out.on hb5.out)
  clear B4 KV KP NB V4 hb5 HSt
  obtain ⟨k0, k1, k2, k3, k4⟩ := KV5.out
  obtain ⟨f0, f1, f2, f3, f4⟩ := NB5.out
  go_wp2_with fail
  refine (heavy4_any (r, (x, y)) A n c A' m c' W5 hle hsle).mono ?_
  rintro e W6 ⟨rfl, hb6⟩
  have B6 := Lib.hid (btr B5.out hb6.out)
  have KV6 := Lib.hid (KV5.out.below hb6.out)
  have NB6 := Lib.hid (NB5.out.below hb6.out)
  have V6 := Lib.hid (V5.out.on hb6.out)
  clear B5 KV5 NB5 V5 hb6 k0 k1 k2 k3 k4 f0 f1 f2 f3 f4
  obtain ⟨k0, k1, k2, k3, k4⟩ := KV6.out
  obtain ⟨f0, f1, f2, f3, f4⟩ := NB6.out
  by_cases hh : 300 < n ∨ 300 < m
  · rw [decide_eq_true hh]
    go_wp2_with fail
    refine (heavy4_any (r, (x, y)) A n c A' m c' W6 hle hsle).mono ?_
    rintro e W7 ⟨rfl, hb7⟩
    rw [decide_eq_true hh]
    go_wp2_with fail
    refine (HA.out W7).mono ?_
    rintro e W8 ⟨rfl, hb8⟩
    go_wp2
    go_ret
    exact ⟨rfl, Lib.hid (btr B6.out (btr hb7.out hb8.out))⟩
  · rw [decide_eq_false hh]
    clear hh
    by_cases h0 : 0 < r
    · have hcv := HAh.out h0
      have hcv2 : ¬ 0 ≤ cv := by omega
      have hcv3 : decide (0 ≤ cv) = false := decide_eq_false hcv2
      go_wp2_with fail
      refine (HC.out W6).mono ?_
      rintro e W7 ⟨rfl, hb7⟩
      have B7 := Lib.hid (btr B6.out hb7.out)
      have NB7 := Lib.hid (NB6.out.below hb7.out)
      have V7 := Lib.hid (V6.out.on hb7.out)
      clear B6 KV6 NB6 V6 hb7 k0 k1 k2 k3 k4 f0 f1 f2 f3 f4 HC
      obtain ⟨f0, f1, f2, f3, f4⟩ := NB7.out
      have q0 := fun d os => cell_regrown (d := d) (os := os) f0
      have q1 := fun d os => cell_regrown (d := d) (os := os) f1
      have q2 := fun d os => cell_regrown (d := d) (os := os) f2
      have q3 := fun d os => cell_regrown (d := d) (os := os) f3
      have q4 := fun d os => cell_regrown (d := d) (os := os) f4
      have edm : (dm == dm) = true := by simp
      have HMy2 := Lib.hid (fun d os => HMy.out (grow (redrawn W7 d) os) A1 A2 (V7.out.on (below_regrown W7 d os)))
      clear HMy NB7
      go_wp2_with fail
      clear f0 f1 f2 f3 f4 hcv hcv2 hcv3
      refine wp_region_quiet_below mixed (by kernel_rfl) ?_
      repeat (quiet_step ((first | (go_at_call 12; refine Calls.regrown_of (HMy2.out _ _)) | (go_at_call 14; refine Calls.regrown_of (HMi.out _)) | (go_at_call 10; refine Calls.regrown_of (HA.out _)))))
      refine wpQuiet_nil ?_
      intro _ hw'
      obtain ⟨⟨nq, osq⟩, hw''⟩ := hw'
      subst hw''
      go_wp2
      go_ret
      exact ⟨rfl, Lib.hid (btr B7.out (below_regrown _ _ _))⟩
    · obtain rfl : r = 0 := by omega
      clear HC HAh KV6
      have q0 := fun d os => cell_regrown (d := d) (os := os) f0
      have q1 := fun d os => cell_regrown (d := d) (os := os) f1
      have q2 := fun d os => cell_regrown (d := d) (os := os) f2
      have q3 := fun d os => cell_regrown (d := d) (os := os) f3
      have q4 := fun d os => cell_regrown (d := d) (os := os) f4
      have edm : (dm == dm) = true := by simp
      have HMy2 := Lib.hid (fun d os => HMy.out (grow (redrawn W6 d) os) A1 A2 (V6.out.on (below_regrown W6 d os)))
      clear HMy NB6
      go_wp2_with fail
      refine wp_region_quiet_below mixed (by kernel_rfl) ?_
      repeat (quiet_step ((first | (go_at_call 12; refine Calls.regrown_of (HMy2.out _ _)) | (go_at_call 14; refine Calls.regrown_of (HMi.out _)) | (go_at_call 10; refine Calls.regrown_of (HA.out _)))))
      refine wpQuiet_nil ?_
      intro _ hw'
      obtain ⟨⟨nq, osq⟩, hw''⟩ := hw'
      subst hw''
      go_wp2
      go_ret
      exact ⟨rfl, Lib.hid (btr B6.out (below_regrown _ _ _))⟩
end Go.Proofs.Ytgkldjolnbnehaa
