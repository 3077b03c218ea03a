/-
  The document's Sorted: one by one, each put where it belongs. For lists of at most 2^38 lives.
-/
import Derived.Test.YtadpbcbgmopfaaaPref
import Derived.Shelf.SlSortCmp.QuietGrown
namespace Go.Proofs.Ytadpbcbgmopfaaa
set_option maxRecDepth 20000
open Go.RowKit
open Go.Sort (grow)

theorem wpQuiet_skip2 {P : Program} {ops : Array Oper} {C : World → Prop} {Q : Act → Prop} {o : Oper} {rest : List Oper} {a : Act} (hw : Region.wanted o (yielded ops a.tmps) = false) (h : wpQuiet P ops C Q rest (a.put o.dst undef)) : wpQuiet P ops C Q (o :: rest) a := by
  unfold wpQuiet
  rw [hw]
  exact h
theorem ins_at (x : Life) : ∀ (S : List Life) (j : Nat), j ≤ S.length → (∀ i, i < j → before (atL S i) x) → (j < S.length → ¬ before (atL S j) x) → S.takeWhile (fun q => decide (before q x)) = S.take j ∧ S.dropWhile (fun q => decide (before q x)) = S.drop j
  | [], j, hj, _, _ => by simp at hj; subst hj; simp
  | a :: S, 0, _, _, h2 => by
    have : ¬ before a x := h2 (by simp)
    simp [this]
  | a :: S, j + 1, hj, h1, h2 => by
    have ha : before a x := h1 0 (Nat.succ_pos _)
    obtain ⟨e1, e2⟩ := ins_at x S j (by simpa using hj) (fun i hi => h1 (i + 1) (by omega)) (fun h => h2 (by simpa using h))
    simp [ha, e1, e2]
theorem ins_new {x : Life} {S : List Life} {j : Nat} (hx : x ∉ S) (hj : j ≤ S.length) (h1 : ∀ i, i < j → before (atL S i) x) (h2 : j < S.length → ¬ before (atL S j) x) : insL x S = S.take j ++ [x] ++ S.drop j := by
  obtain ⟨e1, e2⟩ := ins_at x S j hj h1 h2
  unfold insL
  rw [if_neg hx, e1, e2]
  simp
theorem setL_take_succ (l : List Life) (k : Nat) (hk : k < l.length) : setL (l.take (k + 1)) = insL (atL l k) (setL (l.take k)) := by
  rw [List.take_add_one, List.getElem?_eq_getElem hk, atL_lt hk]
  exact setL_snoc (l.take k) l[k]
theorem OwnP.base0 {w : World} {base n cap : Nat} {A : Option Addr} {l : List Life} (h : OwnP w base A n cap l) : ∀ k, blockOf A = some k → base ≤ k := fun k e => by
  rcases h.form with ⟨rfl, _⟩ | ⟨g, rfl, hg, _⟩
  · cases e
  · obtain rfl : g = k := by simpa [blockOf] using e
    exact hg
set_option maxHeartbeats 4000000 in
theorem rsorted_any (A : Option Addr) (l : List Life) (n c : Nat) (w : World) (h : Lives w w.heap.size A l) (hn : l.length = n) (hb : n ≤ 274877906944) :
    Calls Try.prog 45 #[.slice A n c] w fun e w' => ∃ A' c' m, e = .returned (.slice A' m c') ∧ Hid (OwnP w' w.heap.size A' m c' (setL l)) ∧ Hid (m ≤ n) ∧ Hid (Below w.heap.size w w') := by
  have HL := Lib.hid h
  have HN := Lib.hid hn
  have mixed : Try.prog.follows .mixedOrders = true := by kernel_rfl
  clear h hn
  go_enter Try.func45, Try.ntmps45
  go_wp2
  go_loopw [3, 4] (fun s i wr => ∃ k : Nat, ∃ A' c' t, k ≤ n ∧ t ≤ k ∧ s = .slice A' t c' ∧ i = .int .i64 k ∧ Hid (OwnP wr w.heap.size A' t c' (setL (l.take k))) ∧ Hid (Below w.heap.size w wr)) (fun _ i _ => n - (intOf i).toNat)
  case atStart => exact ⟨0, none, 0, 0, Nat.zero_le _, Nat.le_refl _, rfl, rfl, Lib.hid OwnP.nil_, Lib.hid (Below.refl _ _)⟩
  case round =>
    obtain ⟨k, A2, c2, t, hk, htk, rfl, rfl, ho, hbw⟩ := hrel
    by_cases hlt : k < n
    · obtain ⟨b, off, rfl, hbb, h1, h2⟩ := (HL.out.below hbw.out).at_ (k := k) (by rw [HN.out]; exact hlt)
      have g0 : (0 : Int) ≤ (k : Int) := by omega
      have g1 : (k : Int) < (n : Int) := by omega
      have HT := Lib.hid (setL_take_succ l k (by rw [HN.out]; exact hlt))
      generalize setL (l.take k) = S at *
      generalize atL l k = x at *
      have HBf := Lib.hid (fun y W => before_g y x W)
      have HHas := Lib.hid (rhas_any A2 S t c2 x wr ho.out.lives ho.out.len (by omega))
      have HbW := Lib.hid (show b < wr.heap.size from Nat.lt_of_lt_of_le hbb hbw.out.size)
      obtain ⟨x1, x2⟩ := x
      simp only at h1 h2
      clear hbb
      go_wp2_with fail
      refine HHas.out.mono ?_
      rintro e W2 ⟨rfl, hb2⟩
      have ho2 := Lib.hid (ho.out.on hb2.out)
      have hbw2 := Lib.hid (btr hbw.out hb2.out)
      have k1 := Lib.hid (cell_below h1 hb2.out)
      have k2 := Lib.hid (cell_below h2 hb2.out)
      have hbW2 := Lib.hid (Nat.lt_of_lt_of_le HbW.out hb2.out.size)
      clear h1 h2 HHas ho hbw hb2 HbW
      by_cases hx : ((x1, x2) : Life) ∈ S
      · rw [decide_eq_true hx]
        have HS := Lib.hid (show setL (l.take (k + 1)) = S by rw [HT.out]; unfold insL; rw [if_pos hx])
        clear hx HT
        go_wp2
        go_roundw
        case rel => exact ⟨k + 1, A2, c2, t, by omega, by omega, rfl, by go_num, Lib.hid (by rw [HS.out]; exact ho2.out), hbw2⟩
        case measure => simp [intOf]; omega
      · rw [decide_eq_false hx]
        have HX := Lib.hid hx
        have HLen := Lib.hid ho2.out.len
        have HCap := Lib.hid ho2.out.cap_le
        clear hx
        obtain ⟨k0, hk0⟩ : ∃ k0, k0 = k := ⟨_, rfl⟩
        subst hk0
        go_wp2
        go_loopw [5] (fun i wr => ∃ j : Nat, j ≤ t ∧ i = .int .i64 j ∧ Hid (Below W2.heap.size W2 wr) ∧ Hid (∀ q, q < j → before (atL S q) (x1, x2))) (fun i _ => t - (intOf i).toNat)
        case atStart => exact ⟨0, Nat.zero_le _, rfl, Lib.hid (Below.refl _ _), Lib.hid fun q hq => absurd hq (Nat.not_lt_zero _)⟩
        case round =>
          obtain ⟨j, hj, rfl, hbj, hlow⟩ := hrel
          have hbw3 : b < wr.heap.size := Nat.lt_of_lt_of_le hbW2.out hbj.out.size
          have q1 := fun n os => cell_grown (n := n) (os := os) (a := ⟨b, off + k0 * 2, none⟩) hbw3 (cell_below k1.out hbj.out)
          have q2 := fun n os => cell_grown (n := n) (os := os) (a := ⟨b, off + k0 * 2 + 1, none⟩) hbw3 (cell_below k2.out hbj.out)
          clear hbw3
          by_cases hjt : j < t
          · obtain ⟨g, off2, rfl, hgb, e1, e2⟩ := (ho2.out.lives.on hbj.out).at_ (k := j) (by rw [HLen.out]; exact hjt)
            have q3 := fun n os => cell_grown (n := n) (os := os) (a := ⟨g, off2 + j * 2, none⟩) hgb e1
            have q4 := fun n os => cell_grown (n := n) (os := os) (a := ⟨g, off2 + j * 2 + 1, none⟩) hgb e2
            have HBj := Lib.hid (HBf.out (atL S j))
            have HXj := Lib.hid (show atL S j = atL S j from rfl)
            clear e1 e2 hgb
            generalize hy : atL S j = y at *
            have HY := Lib.hid hy
            clear hy HXj
            obtain ⟨y1, y2⟩ := y
            simp only at q3 q4
            have g3 : (0 : Int) ≤ (j : Int) := by omega
            have g4 : (j : Int) < (t : Int) := by omega
            by_cases hc : before (y1, y2) (x1, x2)
            · rw [decide_eq_true hc] at HBj
              have HLow := Lib.hid (show ∀ q, q < j + 1 → before (atL S q) (x1, x2) from fun q hq => by
                by_cases e : q = j
                · subst e; rw [HY.out]; exact hc
                · exact hlow.out q (by omega))
              clear hc HBf
              go_wp2_with fail
              go_quiet_grown (first | (go_at_call 82; refine Calls.grown_of (HBj.out _)))
              go_wp2
              go_roundw
              case rel => exact ⟨j + 1, by omega, by go_num, Lib.hid (btr hbj.out (grow_below _ _ _)), HLow⟩
              case measure => simp [intOf]; omega
            · rw [decide_eq_false hc] at HBj
              have HIns := Lib.hid (show setL (l.take (k0 + 1)) = S.take j ++ [(x1, x2)] ++ S.drop j by rw [HT.out]; exact ins_new HX.out (by rw [HLen.out]; omega) hlow.out (fun _ => by rw [HY.out]; exact hc))
              clear hc HBf
              go_wp2_with fail
              go_quiet_grown (first | (go_at_call 82; refine Calls.grown_of (HBj.out _)))
              have B3 := Lib.hid (btr hbj.out (grow_below wr nq osq))
              have p1 := q1 nq osq
              have p2 := q2 nq osq
              clear q1 q2 q3 q4
              simp only
              generalize grow (wr.drewN nq) osq = W4 at *
              rcases ho2.out.form with ⟨h, _, _⟩ | ⟨g2, e, hgb2, hgl2⟩
              cases h
              obtain ⟨rfl, rfl⟩ : g = g2 ∧ off2 = 0 := by simpa using e
              have hcj : ¬ c2 = j := by have := HCap.out; omega
              clear e
              have HDk := Lib.hid (show Lives W4 W4.heap.size (some ⟨g, j * 2, none⟩) (S.drop j) from by simpa using (ho2.out.lives.on B3.out).back j)
              have HDl := Lib.hid (show (S.drop j).length = t - j by rw [List.length_drop, HLen.out])
              have HDc := Lib.hid (show (some (⟨g, j * 2, none⟩ : Addr)) = none → c2 - j = 0 from fun e => by cases e)
              have HTk := Lib.hid (show Lives W4 W4.heap.size (some ⟨g, 0, none⟩) (S.take j) from (ho2.out.lives.on B3.out).front j)
              have HTl := Lib.hid (show (S.take j).length = j by rw [List.length_take, HLen.out]; omega)
              have HTc := Lib.hid (show (some (⟨g, 0, none⟩ : Addr)) = none → c2 = 0 from fun e => by cases e)
              have hcap1 : j ≤ c2 := by have := HCap.out; omega
              all_goals
                have hcap := HCap.out
                have hw4 := Lib.hid (btr hbw2.out B3.out)
                have E4 := Lib.hid ((Below.refl W4.heap.size W4).alloc (Nat.le_refl _) (.cells #[] 70))
                go_wp2_with (at_builtin; refine wpList_appendP rfl _ _ rfl W4.heap.size _ 0 _ [] rfl (by simp) (World.ownsRow_made W4 #[] 0 (Nat.le_refl _) (Nat.zero_le _) (by simp)) _ _ _ W4.heap.size _ rfl (by first | exact HTl.out | (have := HTl.out; omega)) (by first | exact HTc.out | (intro _; rfl)) (HTk.out.below E4.out) (by omega) ?_)
                intro A5 c5 W5 r1 r2 r3
                have B5 := Lib.hid (r2.out.below ((Below.refl W4.heap.size W4).alloc (Nat.le_refl _) _) (by rintro k e; simp [blockOf] at e; omega) (by simp))
                have r1 := Lib.hid (show OwnP W5 W4.heap.size A5 _ c5 _ from r1.out)
                have p3 := cell_below p1 B5.out
                have p4 := cell_below p2 B5.out
                clear r2 r3 E4
                have HN5 := Lib.hid (lives_new W5 [(x1, x2)])
                have E5 := Lib.hid ((Below.refl W5.heap.size W5).alloc (Nat.le_refl _) (.cells (flatP [(x1, x2)]).toArray 70))
                have r5 := Lib.hid (r1.out.on E5.out)
                clear r1
                go_wp2_with (at_builtin; refine wpList_appendP rfl _ _ rfl W4.heap.size _ _ _ _ rfl (btr B5.out E5.out).size r5.out (some ⟨W5.heap.size, 0, none⟩) 1 1 _ [(x1, x2)] rfl rfl (fun e => by cases e) HN5.out (by omega) ?_)
                intro A6 c6 W6 s1 s2 s3
                have B6 := Lib.hid (s2.out.below (btr B5.out E5.out) r5.out.base0 (btr B5.out E5.out).size)
                clear s2 s3 HN5 E5 r5 p3 p4
                go_wp2_with (at_builtin; refine wpList_appendP rfl _ _ rfl W4.heap.size _ _ _ _ rfl B6.out.size s1.out _ _ _ _ _ rfl (by first | exact HDl.out | (have := HDl.out; omega)) (by first | exact HDc.out | (intro _; rfl)) (HDk.out.on B6.out) (by omega) ?_)
                intro A7 c7 W7 u1 u2 u3
                have B7 := Lib.hid (u2.out.below B6.out s1.out.base0 B6.out.size)
                go_wp2
                go_roundw
                exact ⟨k0 + 1, A7, c7, _, by omega, by omega, rfl, by go_num, Lib.hid (by rw [HIns.out]; have X := (show OwnP W7 W4.heap.size A7 _ c7 _ from u1.out).lower hw4.out.size; first | (simpa using X) | (rw [HS1.out]; simpa using X)), Lib.hid (btr hw4.out B7.out)⟩
                simp [intOf]; omega
          · obtain rfl : j = t := by omega
            have g4 : ¬ (j : Int) < (j : Int) := by omega
            have HIns := Lib.hid (show setL (l.take (k0 + 1)) = S.take j ++ [(x1, x2)] ++ S.drop j by rw [HT.out]; exact ins_new HX.out (by rw [HLen.out]; omega) hlow.out (fun h => absurd h (by rw [HLen.out]; omega)))
            clear HBf
            go_wp2_with fail
            refine wp_region_quiet_grown mixed (by kernel_rfl) ?_
            iterate 5 (quiet_step (fail))
            iterate 9 (generalize hact : ({ tmps := _, defers := [] } : Act) = aa; refine wpQuiet_skip2 (by rw [← hact]; kernel_rfl) ?_; subst hact; simp only [Act.put, List.setIfInBounds_toArray, List.set_cons_succ, List.set_cons_zero])
            iterate 1 (quiet_step (fail))
            refine wpQuiet_nil ?_
            intro _ hw'
            obtain ⟨⟨nq, osq⟩, hw''⟩ := hw'
            subst hw''
            have B3 := Lib.hid (btr hbj.out (grow_below wr nq osq))
            have p1 := q1 nq osq
            have p2 := q2 nq osq
            clear q1 q2
            simp only
            generalize grow (wr.drewN nq) osq = W4 at *
            rcases ho2.out.form with ⟨rfl, h0, hc0⟩ | ⟨g2, rfl, hgb2, hgl2⟩
            subst h0 hc0
            have HS0 := List.eq_nil_of_length_eq_zero HLen.out
            have HS1 := Lib.hid HS0
            have HDk := Lib.hid (show Lives W4 W4.heap.size none (S.drop 0) from by rw [HS0]; exact Lives.nil_)
            have HDl := Lib.hid (show (S.drop 0).length = 0 by rw [HS0]; rfl)
            have HDc := Lib.hid (show (none : Option Addr) = none → 0 = 0 from fun _ => rfl)
            have HTk := Lib.hid (show Lives W4 W4.heap.size none (S.take 0) from Lives.nil_)
            have HTl := Lib.hid (show (S.take 0).length = 0 from rfl)
            have HTc := Lib.hid (show (none : Option Addr) = none → 0 = 0 from fun _ => rfl)
            rotate_left
            by_cases hcj : c2 = j
            subst hcj
            have HS0 : S.drop c2 = [] := List.eq_nil_of_length_eq_zero (by rw [List.length_drop, HLen.out]; omega)
            have HS1 := Lib.hid HS0
            have HDk := Lib.hid (show Lives W4 W4.heap.size (some ⟨g2, 0, none⟩) (S.drop c2) from by rw [HS0]; exact Lives.nil_)
            have HDl := Lib.hid (show (S.drop c2).length = 0 by rw [HS0]; rfl)
            have HDc := Lib.hid (show (some (⟨g2, 0, none⟩ : Addr)) = none → 0 = 0 from fun _ => rfl)
            have HTk := Lib.hid (show Lives W4 W4.heap.size (some ⟨g2, 0, none⟩) (S.take c2) from (ho2.out.lives.on B3.out).front c2)
            have HTl := Lib.hid (show (S.take c2).length = c2 by rw [List.length_take, HLen.out]; omega)
            have HTc := Lib.hid (show (some (⟨g2, 0, none⟩ : Addr)) = none → c2 = 0 from fun e => by cases e)
            rotate_left
            have HDk := Lib.hid (show Lives W4 W4.heap.size (some ⟨g2, j * 2, none⟩) (S.drop j) from by simpa using (ho2.out.lives.on B3.out).back j)
            have HDl := Lib.hid (show (S.drop j).length = j - j by rw [List.length_drop, HLen.out])
            have HDc := Lib.hid (show (some (⟨g2, j * 2, none⟩ : Addr)) = none → c2 - j = 0 from fun e => by cases e)
            have HTk := Lib.hid (show Lives W4 W4.heap.size (some ⟨g2, 0, none⟩) (S.take j) from (ho2.out.lives.on B3.out).front j)
            have HTl := Lib.hid (show (S.take j).length = j by rw [List.length_take, HLen.out]; omega)
            have HTc := Lib.hid (show (some (⟨g2, 0, none⟩ : Addr)) = none → c2 = 0 from fun e => by cases e)
            have hcap1 : j ≤ c2 := by have := HCap.out; omega
            all_goals
              have hcap := HCap.out
              have hw4 := Lib.hid (btr hbw2.out B3.out)
              have E4 := Lib.hid ((Below.refl W4.heap.size W4).alloc (Nat.le_refl _) (.cells #[] 70))
              go_wp2_with (at_builtin; refine wpList_appendP rfl _ _ rfl W4.heap.size _ 0 _ [] rfl (by simp) (World.ownsRow_made W4 #[] 0 (Nat.le_refl _) (Nat.zero_le _) (by simp)) _ _ _ W4.heap.size _ rfl (by first | exact HTl.out | (have := HTl.out; omega)) (by first | exact HTc.out | (intro _; rfl)) (HTk.out.below E4.out) (by omega) ?_)
              intro A5 c5 W5 r1 r2 r3
              have B5 := Lib.hid (r2.out.below ((Below.refl W4.heap.size W4).alloc (Nat.le_refl _) _) (by rintro k e; simp [blockOf] at e; omega) (by simp))
              have r1 := Lib.hid (show OwnP W5 W4.heap.size A5 _ c5 _ from r1.out)
              have p3 := cell_below p1 B5.out
              have p4 := cell_below p2 B5.out
              clear r2 r3 E4
              have HN5 := Lib.hid (lives_new W5 [(x1, x2)])
              have E5 := Lib.hid ((Below.refl W5.heap.size W5).alloc (Nat.le_refl _) (.cells (flatP [(x1, x2)]).toArray 70))
              have r5 := Lib.hid (r1.out.on E5.out)
              clear r1
              go_wp2_with (at_builtin; refine wpList_appendP rfl _ _ rfl W4.heap.size _ _ _ _ rfl (btr B5.out E5.out).size r5.out (some ⟨W5.heap.size, 0, none⟩) 1 1 _ [(x1, x2)] rfl rfl (fun e => by cases e) HN5.out (by omega) ?_)
              intro A6 c6 W6 s1 s2 s3
              have B6 := Lib.hid (s2.out.below (btr B5.out E5.out) r5.out.base0 (btr B5.out E5.out).size)
              clear s2 s3 HN5 E5 r5 p3 p4
              go_wp2_with (at_builtin; refine wpList_appendP rfl _ _ rfl W4.heap.size _ _ _ _ rfl B6.out.size s1.out _ _ _ _ _ rfl (by first | exact HDl.out | (have := HDl.out; omega)) (by first | exact HDc.out | (intro _; rfl)) (HDk.out.on B6.out) (by omega) ?_)
              intro A7 c7 W7 u1 u2 u3
              have B7 := Lib.hid (u2.out.below B6.out s1.out.base0 B6.out.size)
              go_wp2
              go_roundw
              exact ⟨k0 + 1, A7, c7, _, by omega, by omega, rfl, by go_num, Lib.hid (by rw [HIns.out]; have X := (show OwnP W7 W4.heap.size A7 _ c7 _ from u1.out).lower hw4.out.size; first | (simpa using X) | (rw [HS1.out]; simpa using X)), Lib.hid (btr hw4.out B7.out)⟩
              simp [intOf]; omega
    · obtain rfl : k = n := by omega
      have g1 : ¬ (k : Int) < (k : Int) := by omega
      have HTk := Lib.hid (show l.take k = l by rw [← HN.out, List.take_length])
      go_wp2
      go_ret
      have ho2 := ho.out
      rw [HTk.out] at ho2
      exact ⟨A2, c2, t, rfl, Lib.hid ho2, Lib.hid htk, hbw⟩
end Go.Proofs.Ytadpbcbgmopfaaa
