/-
  The program's order of two lives: the closure that it hands to the library, and Compare. No condition.
-/
import Derived.Test.YtadpbcbgmopfaaaPord
namespace Go.Proofs.Ytadpbcbgmopfaaa
set_option maxRecDepth 20000
open Go.RowKit Go.Sort

theorem cell_at_new (w : World) (cs : Array Value) (t : TypeId) (k : Nat) (v : Value) (h : cs[k]? = some v) : (w.alloc (.cells cs t)).cell? ⟨w.heap.size, k, none⟩ = some v := by
  rw [cell_of_row _ _ _ _ _ (0, 0) (heap_alloc_new w _)]; exact h
theorem cell_at_old {w : World} (o : Obj) {a : Addr} {v : Value} (h : w.cell? a = some v) : (w.alloc o).cell? a = some v := (World.cell?_alloc_lt w o a (World.block_lt_of_cell? w a h)).trans h
theorem grow_below (W : World) (n : Nat) (os : Array Obj) : Below W.heap.size W (grow (W.drewN n) os) := by
  refine ⟨rfl, rfl, rfl, by simp [grow, World.drewN], fun k hk => ?_⟩
  simp only [grow, World.drewN]
  rw [Array.getElem?_append_left hk]
set_option maxHeartbeats 1000000 in
theorem order_any (p q : Life) (W : World) :
    Calls Try.prog 97 #[lifeV p, lifeV q] W fun e w' => e = .returned (.int .i64 (cmpL p q)) ∧ ∃ n os, w' = grow (W.drewN n) os := by
  rw [← cmpI_or]
  obtain ⟨p1, p2⟩ := p
  obtain ⟨q1, q2⟩ := q
  simp only
  generalize hc1 : cmpI p1 q1 = c1
  generalize hc2 : cmpI p2 q2 = c2
  have H1 : ∀ w, Calls Try.prog 99 #[.int .i64 p1, .int .i64 q1] w fun e w' => e = .returned (.int .i64 c1) ∧ w' = w := fun w => by rw [← hc1]; exact cmp_i p1 q1 w
  have H2 : ∀ w, Calls Try.prog 100 #[.int .u64 p2, .int .u64 q2] w fun e w' => e = .returned (.int .i64 c2) ∧ w' = w := fun w => by rw [← hc2]; exact cmp_u p2 q2 w
  clear hc1 hc2
  generalize hr : (if c1 = 0 then c2 else c1) = r
  have HR := Lib.hid hr
  clear hr
  have HH1 := Lib.hid H1
  have HH2 := Lib.hid H2
  clear H1 H2
  have k1 := cell_at_old (.cells #[.int .i64 q1, .int .u64 q2] 70) (cell_at_new W #[.int .i64 p1, .int .u64 p2] 70 0 _ rfl)
  have k2 := cell_at_old (.cells #[.int .i64 q1, .int .u64 q2] 70) (cell_at_new W #[.int .i64 p1, .int .u64 p2] 70 1 _ rfl)
  have k3 := cell_at_new (W.alloc (.cells #[.int .i64 p1, .int .u64 p2] 70)) #[.int .i64 q1, .int .u64 q2] 70 0 _ rfl
  have k4 := cell_at_new (W.alloc (.cells #[.int .i64 p1, .int .u64 p2] 70)) #[.int .i64 q1, .int .u64 q2] 70 1 _ rfl
  have kg : Hid (∃ os, (W.alloc (.cells #[.int .i64 p1, .int .u64 p2] 70)).alloc (.cells #[.int .i64 q1, .int .u64 q2] 70) = grow W os) := Lib.hid ⟨_, by rw [alloc_eq_grow, alloc_eq_grow, grow_grow]⟩
  have ks : (W.alloc (.cells #[.int .i64 p1, .int .u64 p2] 70)).heap.size = W.heap.size + 1 := by simp
  rw [ks] at k3 k4
  clear ks
  go_enter Try.func97, Try.ntmps97
  go_wp2_with fail
  generalize (W.alloc (.cells #[.int .i64 p1, .int .u64 p2] 70)).alloc (.cells #[.int .i64 q1, .int .u64 q2] 70) = W2 at *
  generalize hB : W.heap.size = B at k1 k2 k3 k4 ⊢
  have HB := Lib.hid hB
  clear hB
  have HO := or_two c1 c2 W2.heap.size (W2.alloc (.cells #[.int .i64 c1, .int .i64 c2] 3)).drew (cell_at_new W2 #[.int .i64 c1, .int .i64 c2] 3 0 _ rfl) (cell_at_new W2 #[.int .i64 c1, .int .i64 c2] 3 1 _ rfl)
  rw [HR.out] at HO
  replace HO := Lib.hid HO
  go_region_held (fun w' => w'.cell? ⟨B, 0, none⟩ = some (.int .i64 p1) ∧ w'.cell? ⟨B, 1, none⟩ = some (.int .u64 p2) ∧ w'.cell? ⟨B + 1, 0, none⟩ = some (.int .i64 q1) ∧ w'.cell? ⟨B + 1, 1, none⟩ = some (.int .u64 q2)) (go_keep)
    (first | (go_at_call 99; refine (HH1.out _).mono ?_; rintro e w1 ⟨rfl, rfl⟩) | (go_at_call 100; refine (HH2.out _).mono ?_; rintro e w1 ⟨rfl, rfl⟩) | (go_at_call 98; refine HO.out.mono ?_; rintro e w1 ⟨rfl, rfl⟩))
  all_goals
    go_wp2
    go_ret
    obtain ⟨os, rfl⟩ := kg.out
    exact ⟨rfl, 1, _, by rw [alloc_eq_grow, grow_grow]; rfl⟩
theorem order_below (p q : Life) (W : World) : Calls Try.prog 97 #[lifeV p, lifeV q] W fun e w' => e = .returned (.int .i64 (cmpL p q)) ∧ Hid (Below W.heap.size W w') :=
  (order_any p q W).mono fun _ _ ⟨he, n, os, hw⟩ => ⟨he, by rw [hw]; exact grow_below W n os⟩
/-- The order, as a value. -/
abbrev orderV : Value := .func (.func 97) #[] #[]
theorem order_is (w : World) : Calls Try.prog 81 #[] w fun e w' => e = .returned orderV ∧ w' = w := by
  go_enter Try.func81, Try.ntmps81
  go_wp2
  go_ret
  exact ⟨rfl, rfl⟩
theorem enters_order : ∀ args w, (callFunc 97 args).run Try.prog w = .ok (.enter 97 args) w := enters_of Try.func97 (by kernel_rfl) rfl
theorem bdl {B : Nat} {w w' : World} (h : RowKit.Below B w.drew w') : RowKit.Below B w w' := ⟨h.os, h.tape, h.output, h.size, h.block⟩
theorem btr {w W W' : World} (h : RowKit.Below w.heap.size w W) (k : RowKit.Below W.heap.size W W') : RowKit.Below w.heap.size w W' := h.trans (k.mono h.size)
theorem btd {w W W' : World} (h : RowKit.Below w.heap.size w W) (k : RowKit.Below W.drew.heap.size W.drew W') : RowKit.Below w.heap.size w W' := btr h (show RowKit.Below W.heap.size W W' from ⟨k.os, k.tape, k.output, k.size, k.block⟩)
theorem grew_below {w w' : World} (h : ∃ n os, w' = Sort.grow (w.drewN n) os) : RowKit.Below w.heap.size w w' := by
  obtain ⟨n, os, rfl⟩ := h
  exact grow_below w n os
theorem grew_one (w : World) (o : Obj) : ∃ n os, w.alloc o = Sort.grow (w.drewN n) os := ⟨0, _, by rw [alloc_eq_grow]; rfl⟩
theorem grew_two (w : World) (o1 o2 : Obj) : ∃ n os, (w.alloc o1).alloc o2 = Sort.grow (w.drewN n) os := ⟨0, _, by rw [alloc_eq_grow, alloc_eq_grow, grow_grow]; rfl⟩
theorem grew_trans {w w1 w2 : World} (h : ∃ n os, w1 = Sort.grow (w.drewN n) os) (k : ∃ n os, w2 = Sort.grow (w1.drewN n) os) : ∃ n os, w2 = Sort.grow (w.drewN n) os := by
  obtain ⟨n, os, rfl⟩ := h
  obtain ⟨m, os', rfl⟩ := k
  exact ⟨n + m, os ++ os', by rw [← World.drewN_drewN, ← grow_grow]; rfl⟩
theorem grew_drew {w w' : World} (h : ∃ n os, w' = Sort.grow (w.drew.drewN n) os) : ∃ n os, w' = Sort.grow (w.drewN n) os := by
  obtain ⟨n, os, rfl⟩ := h
  exact ⟨1 + n, os, by rw [← World.drewN_drewN]; rfl⟩
/-- Two lives in blocks side by side, at B and behind it. -/
def Two (B : Nat) (p q : Life) (w : World) : Prop := w.cell? ⟨B, 0, none⟩ = some (.int .i64 p.1) ∧ w.cell? ⟨B, 1, none⟩ = some (.int .u64 p.2) ∧ w.cell? ⟨B + 1, 0, none⟩ = some (.int .i64 q.1) ∧ w.cell? ⟨B + 1, 1, none⟩ = some (.int .u64 q.2)
theorem cell_below {w w' : World} {a : Addr} {v : Value} (h : w.cell? a = some v) (hb : Below w.heap.size w w') : w'.cell? a = some v := (hb.cell (World.block_lt_of_cell? w a h)).trans h
theorem Two.below {B : Nat} {p q : Life} {w w' : World} (h : Two B p q w) (hb : Below w.heap.size w w') : Two B p q w' := ⟨cell_below h.1 hb, cell_below h.2.1 hb, cell_below h.2.2.1 hb, cell_below h.2.2.2 hb⟩
/-- Two parameters that were boxed. -/
theorem two_new (w : World) (p q : Life) : Two w.heap.size p q ((w.alloc (.cells #[.int .i64 p.1, .int .u64 p.2] 70)).alloc (.cells #[.int .i64 q.1, .int .u64 q.2] 70)) := by
  have e : (w.alloc (.cells #[.int .i64 p.1, .int .u64 p.2] 70)).heap.size = w.heap.size + 1 := by simp
  have k3 := cell_at_new (w.alloc (.cells #[.int .i64 p.1, .int .u64 p.2] 70)) #[.int .i64 q.1, .int .u64 q.2] 70 0 _ rfl
  have k4 := cell_at_new (w.alloc (.cells #[.int .i64 p.1, .int .u64 p.2] 70)) #[.int .i64 q.1, .int .u64 q.2] 70 1 _ rfl
  rw [e] at k3 k4
  exact ⟨cell_at_old _ (cell_at_new w _ _ 0 _ rfl), cell_at_old _ (cell_at_new w _ _ 1 _ rfl), k3, k4⟩
theorem two_below (w : World) (o1 o2 : Obj) : Below w.heap.size w ((w.alloc o1).alloc o2) := ((Below.refl _ w).alloc (Nat.le_refl _) _).alloc (by simp) _
set_option maxHeartbeats 1000000 in
theorem compare_g (p q : Life) (w : World) : Calls Try.prog 39 #[lifeV p, lifeV q] w fun e w' => e = .returned (.int .i64 (cmpL p q)) ∧ ∃ n os, w' = Sort.grow (w.drewN n) os := by
  have HC := Lib.hid (fun W => order_any p q W)
  have T2 := Lib.hid (two_new w p q)
  have B2 := Lib.hid (grew_two w (.cells #[.int .i64 p.1, .int .u64 p.2] 70) (.cells #[.int .i64 q.1, .int .u64 q.2] 70))
  obtain ⟨p1, p2⟩ := p
  obtain ⟨q1, q2⟩ := q
  generalize hr : cmpL (p1, p2) (q1, q2) = r at *
  clear hr
  have eg := enters_order
  go_enter Try.func39, Try.ntmps39
  go_wp2_with fail
  generalize (w.alloc (.cells #[.int .i64 p1, .int .u64 p2] 70)).alloc (.cells #[.int .i64 q1, .int .u64 q2] 70) = W2 at *
  generalize hB : w.heap.size = B at T2 ⊢
  have HB := Lib.hid hB
  clear hB
  obtain ⟨k1, k2, k3, k4⟩ := T2.out
  simp only at k1 k2 k3 k4
  go_region_held (fun w' => w'.cell? ⟨B, 0, none⟩ = some (.int .i64 p1) ∧ w'.cell? ⟨B, 1, none⟩ = some (.int .u64 p2) ∧ w'.cell? ⟨B + 1, 0, none⟩ = some (.int .i64 q1) ∧ w'.cell? ⟨B + 1, 1, none⟩ = some (.int .u64 q2)) (first | go_keep | exact kk.out)
    (first | (go_at_call 81; refine (order_is _).mono ?_; rintro e w1 ⟨rfl, rfl⟩) | (go_at_fn 97; refine (HC.out _).mono ?_; rintro e w1 ⟨rfl, hgr⟩; have kk := Lib.hid ((T2.out).below (bdl (grew_below hgr)))))
  all_goals
    go_wp2
    go_ret
    exact ⟨rfl, grew_trans B2.out (grew_drew hgr)⟩

theorem compare_any (p q : Life) (w : World) : Calls Try.prog 39 #[lifeV p, lifeV q] w fun e w' => e = .returned (.int .i64 (cmpL p q)) ∧ Hid (Below w.heap.size w w') :=
  (compare_g p q w).mono fun _ _ ⟨he, hg⟩ => ⟨he, Lib.hid (grew_below hg)⟩
/-! Whether a life may be; the document's order. -/
set_option maxHeartbeats 1000000 in
theorem may_g (p : Life) (hp : 0 ≤ p.2) (w : World) : Calls Try.prog 37 #[lifeV p] w fun e w' => e = .returned (.bool (decide (mayL p))) ∧ ∃ n os, w' = Sort.grow (w.drewN n) os := by
  obtain ⟨p1, p2⟩ := p
  simp only at hp
  generalize hr : decide (mayL (p1, p2)) = r
  have HR : Hid (decide (1 ≤ p1 ∧ p1 ≤ 10 ∧ 0 < p2) = r) := hr
  clear hr
  go_enter Try.func37, Try.ntmps37
  by_cases h1 : 1 ≤ p1
  · by_cases h2 : p1 ≤ 10
    · by_cases h3 : 0 < p2
      · have e : r = true := by rw [← HR.out]; exact decide_eq_true ⟨h1, h2, h3⟩
        subst e
        go_wp2
        go_ret
        exact ⟨rfl, grew_one w _⟩
      · have e : r = false := by rw [← HR.out]; exact decide_eq_false fun h => h3 h.2.2
        subst e
        go_wp2
        go_ret
        exact ⟨rfl, grew_one w _⟩
    · have e : r = false := by rw [← HR.out]; exact decide_eq_false fun h => h2 h.2.1
      subst e
      go_wp2
      go_ret
      exact ⟨rfl, grew_one w _⟩
  · have e : r = false := by rw [← HR.out]; exact decide_eq_false fun h => h1 h.1
    subst e
    go_wp2
    go_ret
    exact ⟨rfl, grew_one w _⟩
theorem may_any (p : Life) (hp : 0 ≤ p.2) (w : World) : Calls Try.prog 37 #[lifeV p] w fun e w' => e = .returned (.bool (decide (mayL p))) ∧ Hid (Below w.heap.size w w') :=
  (may_g p hp w).mono fun _ _ ⟨he, hg⟩ => ⟨he, Lib.hid (grew_below hg)⟩
set_option maxHeartbeats 1000000 in
theorem rmay_g (p : Life) (hp : 0 ≤ p.2) (w : World) : Calls Try.prog 38 #[lifeV p] w fun e w' => e = .returned (.bool (decide (mayL p))) ∧ ∃ n os, w' = Sort.grow (w.drewN n) os := by
  obtain ⟨p1, p2⟩ := p
  simp only at hp
  generalize hr : decide (mayL (p1, p2)) = r
  have HR : Hid (decide (1 ≤ p1 ∧ p1 ≤ 10 ∧ 0 < p2) = r) := hr
  clear hr
  go_enter Try.func38, Try.ntmps38
  by_cases h1 : 1 ≤ p1
  · by_cases h2 : p1 ≤ 10
    · by_cases h3 : p2 = 0
      · have e : r = false := by rw [← HR.out]; exact decide_eq_false fun h => by omega
        subst e
        go_wp2
        go_ret
        exact ⟨rfl, grew_one w _⟩
      · have e : r = true := by rw [← HR.out]; exact decide_eq_true ⟨h1, h2, by omega⟩
        subst e
        have h4 : (p2 != 0) = true := by simp [h3]
        go_wp2
        go_ret
        exact ⟨rfl, grew_one w _⟩
    · have e : r = false := by rw [← HR.out]; exact decide_eq_false fun h => h2 h.2.1
      subst e
      go_wp2
      go_ret
      exact ⟨rfl, grew_one w _⟩
  · have e : r = false := by rw [← HR.out]; exact decide_eq_false fun h => h1 h.1
    subst e
    go_wp2
    go_ret
    exact ⟨rfl, grew_one w _⟩
theorem rmay_any (p : Life) (hp : 0 ≤ p.2) (w : World) : Calls Try.prog 38 #[lifeV p] w fun e w' => e = .returned (.bool (decide (mayL p))) ∧ Hid (Below w.heap.size w w') :=
  (rmay_g p hp w).mono fun _ _ ⟨he, hg⟩ => ⟨he, Lib.hid (grew_below hg)⟩
set_option maxHeartbeats 1000000 in
theorem before_g (p q : Life) (w : World) : Calls Try.prog 82 #[lifeV p, lifeV q] w fun e w' => e = .returned (.bool (decide (before p q))) ∧ ∃ n os, w' = Sort.grow (w.drewN n) os := by
  obtain ⟨p1, p2⟩ := p
  obtain ⟨q1, q2⟩ := q
  generalize hr : decide (before (p1, p2) (q1, q2)) = r
  have HR : Hid (decide (p1 < q1 ∨ (p1 = q1 ∧ p2 < q2)) = r) := hr
  clear hr
  go_enter Try.func82, Try.ntmps82
  by_cases h1 : p1 < q1
  · have e : r = true := by rw [← HR.out]; exact decide_eq_true (.inl h1)
    subst e
    go_wp2
    go_ret
    exact ⟨rfl, grew_two w _ _⟩
  · by_cases h2 : p1 = q1
    · subst h2
      by_cases h3 : p2 < q2
      · have e : r = true := by rw [← HR.out]; exact decide_eq_true (.inr ⟨rfl, h3⟩)
        subst e
        go_wp2
        go_ret
        exact ⟨rfl, grew_two w _ _⟩
      · have e : r = false := by rw [← HR.out]; exact decide_eq_false fun h => by omega
        subst e
        go_wp2
        go_ret
        exact ⟨rfl, grew_two w _ _⟩
    · have e : r = false := by rw [← HR.out]; exact decide_eq_false fun h => by omega
      subst e
      go_wp2
      go_ret
      exact ⟨rfl, grew_two w _ _⟩
theorem before_any (p q : Life) (w : World) : Calls Try.prog 82 #[lifeV p, lifeV q] w fun e w' => e = .returned (.bool (decide (before p q))) ∧ Hid (Below w.heap.size w w') :=
  (before_g p q w).mono fun _ _ ⟨he, hg⟩ => ⟨he, Lib.hid (grew_below hg)⟩
set_option maxHeartbeats 1000000 in
theorem rcompare_g (p q : Life) (w : World) : Calls Try.prog 40 #[lifeV p, lifeV q] w fun e w' => e = .returned (.int .i64 (cmpL p q)) ∧ ∃ n os, w' = Sort.grow (w.drewN n) os := by
  have HC := Lib.hid (fun W => before_g p q W)
  have HD := Lib.hid (fun W => before_g q p W)
  have T2 := Lib.hid (two_new w p q)
  have B2 := Lib.hid (grew_two w (.cells #[.int .i64 p.1, .int .u64 p.2] 70) (.cells #[.int .i64 q.1, .int .u64 q.2] 70))
  have HL := Lib.hid (show cmpL p q = if before p q then -1 else if before q p then 1 else 0 from rfl)
  obtain ⟨p1, p2⟩ := p
  obtain ⟨q1, q2⟩ := q
  generalize hr : cmpL (p1, p2) (q1, q2) = r at *
  clear hr
  go_enter Try.func40, Try.ntmps40
  go_wp2_with fail
  generalize (w.alloc (.cells #[.int .i64 p1, .int .u64 p2] 70)).alloc (.cells #[.int .i64 q1, .int .u64 q2] 70) = W2 at *
  generalize hB : w.heap.size = B at T2 ⊢
  have HB := Lib.hid hB
  clear hB
  obtain ⟨k1, k2, k3, k4⟩ := T2.out
  simp only at k1 k2 k3 k4
  go_wp2_with fail
  refine (HC.out _).mono ?_
  rintro e W3 ⟨rfl, hgr⟩
  have hb := Lib.hid (grew_below hgr)
  have hgr := Lib.hid hgr
  obtain ⟨m1, m2, m3, m4⟩ := T2.out.below hb.out
  simp only at m1 m2 m3 m4
  have B3 := Lib.hid (grew_trans B2.out hgr.out)
  clear k1 k2 k3 k4 hb hgr
  by_cases h1 : before (p1, p2) (q1, q2)
  · have e : r = -1 := by rw [HL.out, if_pos h1]
    subst e
    rw [decide_eq_true h1]
    clear h1
    go_wp2
    go_ret
    exact ⟨rfl, B3.out⟩
  · have HL2 := HL.out
    rw [if_neg h1] at HL2
    have HL3 := Lib.hid HL2
    rw [decide_eq_false h1]
    clear h1 HL2 HL
    go_wp2_with fail
    refine (HD.out _).mono ?_
    rintro e W4 ⟨rfl, hgr⟩
    have hgr := Lib.hid hgr
    by_cases h1 : before (q1, q2) (p1, p2)
    · have e : r = 1 := by rw [HL3.out, if_pos h1]
      subst e
      rw [decide_eq_true h1]
      clear h1
      go_wp2
      go_ret
      exact ⟨rfl, grew_trans B3.out hgr.out⟩
    · have e : r = 0 := by rw [HL3.out, if_neg h1]
      subst e
      rw [decide_eq_false h1]
      clear h1
      go_wp2
      go_ret
      exact ⟨rfl, grew_trans B3.out hgr.out⟩
theorem rcompare_any (p q : Life) (w : World) : Calls Try.prog 40 #[lifeV p, lifeV q] w fun e w' => e = .returned (.int .i64 (cmpL p q)) ∧ Hid (Below w.heap.size w w') :=
  (rcompare_g p q w).mono fun _ _ ⟨he, hg⟩ => ⟨he, Lib.hid (grew_below hg)⟩
end Go.Proofs.Ytadpbcbgmopfaaa
