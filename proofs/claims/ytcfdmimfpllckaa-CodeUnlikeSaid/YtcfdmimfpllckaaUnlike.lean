/-
  The statement CodeUnlike's walk: whatever two rows of numbers, it answers true, and leaves all that was there as it was. No condition.
-/
import Derived.Test.YtcfdmimfpllckaaAt
namespace Go.Proofs.Ytcfdmimfpllckaa
open Go.RowKit

/-- What the temporaries of the three texts' region hold. -/
def UG (p1 p2 p3 : Nat) (a b c : List UInt8) (i : Nat) (w : World) (v : Value) : Prop :=
  match i with
  | 0 => v = .pointer (some ⟨p1, 0, none⟩) | 1 => BytesV a w v | 2 => v = .string ⟨a.toArray⟩
  | 3 => v = .pointer (some ⟨p2, 0, none⟩) | 4 => BytesV b w v | 5 => v = .string ⟨b.toArray⟩
  | 6 => v = .pointer (some ⟨p3, 0, none⟩) | 7 => BytesV c w v | 8 => v = .string ⟨c.toArray⟩
  | 9 => v = .string ⟨a.toArray⟩ | 10 => v = .string ⟨b.toArray⟩ | _ => v = .string ⟨c.toArray⟩
theorem UG.mono {p1 p2 p3 : Nat} {a b c : List UInt8} {i : Nat} {v : Value} {w w' : World} (hb : Below w.heap.size w w') (h : UG p1 p2 p3 a b c i w v) : UG p1 p2 p3 a b c i w' v := by
  unfold UG at *
  split at h <;> first | exact h | exact BytesV.mono hb h
def SameTo (l m : List Nat) (k : Nat) : Prop := l.take k = m.take k
theorem str_size (L : List UInt8) : (⟨L.toArray⟩ : ByteArray).size = L.length := rfl
theorem str_list (L : List UInt8) : (⟨L.toArray⟩ : ByteArray).toList = L := by rw [ByteArray.toList_eq]
theorem str_take (L : List UInt8) (n : Nat) : ((⟨L.toArray⟩ : ByteArray).extract 0 n).toList = L.take n := by
  rw [ByteArray.toList_eq]
  simp
theorem str_eq (L M : List UInt8) : ((⟨L.toArray⟩ : ByteArray).toList == (⟨M.toArray⟩ : ByteArray).toList) = decide (L = M) := by
  rw [str_list, str_list, Bool.eq_iff_iff]
  simp
theorem same_next {l m : List Nat} {k : Nat} (h : SameTo l m k) (e : l.getD k 0 = m.getD k 0) (h1 : k < l.length) (h2 : k < m.length) : SameTo l m (k + 1) := by
  unfold SameTo at *
  rw [List.take_add_one, List.take_add_one, h, List.getElem?_eq_getElem h1, List.getElem?_eq_getElem h2]
  simp [List.getD, h1, h2] at e
  rw [e]
set_option maxRecDepth 100000 in
set_option maxHeartbeats 3200000 in
theorem unlike_walk (A1 A2 : Option Addr) (l m : List Nat) (c1 c2 : Nat) (w : World) (h1 : Nums w w.heap.size A1 l) (h2 : Nums w w.heap.size A2 m) (hl : AllU64 l) (hm : AllU64 m) (hc1 : l.length ≤ c1) :
    Calls Try.prog 11 #[.slice A1 l.length c1, .slice A2 m.length c2] w fun e w' => e = .returned (.bool true) ∧ Hid (Below w.heap.size w w') := by
  have H1 := Lib.hid h1
  have H2 := Lib.hid h2
  have HL := Lib.hid hl
  have HM := Lib.hid hm
  clear h1 h2 hl hm
  generalize hn1 : l.length = n1 at *
  generalize hn2 : m.length = n2 at *
  have HN1 := Lib.hid hn1
  have HN2 := Lib.hid hn2
  clear hn1 hn2
  go_enter Try.func11, Try.ntmps11
  by_cases hb1 : 1000 < n1
  · have hb1' : (1000 : Int) < (n1 : Int) := by omega
    go_wp2_with fail
    refine (awake_any w).mono ?_
    rintro e W1 ⟨rfl, hb⟩
    go_wp2
    go_ret
    exact ⟨rfl, hb⟩
  · have hb1' : ¬ (1000 : Int) < (n1 : Int) := by omega
    by_cases hb2 : 1000 < n2
    · have hb2' : (1000 : Int) < (n2 : Int) := by omega
      go_wp2_with fail
      refine (awake_any w).mono ?_
      rintro e W1 ⟨rfl, hb⟩
      go_wp2
      go_ret
      exact ⟨rfl, hb⟩
    · have hb2' : ¬ (1000 : Int) < (n2 : Int) := by omega
      go_wp2_with fail
      clear hb1' hb2'
      go_loopw [5] (fun i wr => ∃ k : Nat, k ≤ n1 ∧ k ≤ n2 ∧ i = .int .i64 k ∧ Hid (SameTo l m k) ∧ Hid (Below w.heap.size w wr)) (fun i _ => n1 - (intOf i).toNat)
      case atStart => exact ⟨0, by omega, by omega, rfl, Lib.hid rfl, Lib.hid (Below.refl _ _)⟩
      case round =>
        obtain ⟨k, hk1, hk2, rfl, hsame, hbw⟩ := hrel
        have HPL := Lib.hid (fun W p g (h : WS w.heap.size w W p g []) => put_at h A1 l n1 c1 HN1.out H1.out HL.out (by omega) (by decide))
        have HPM := Lib.hid (fun W p g (h : WS w.heap.size w W p g []) => put_at h A2 m n2 c2 HN2.out H2.out HM.out (by omega) (by decide))
        have HPK := Lib.hid (fun W p g (h : WS w.heap.size w W p g []) => put_at h A1 (l.take k) k c1 (by rw [List.length_take, HN1.out]; omega) (H1.out.front k) (fun x hx => HL.out x (List.mem_of_mem_take hx)) (by omega) (by decide))
        by_cases hgo : k < n1 ∧ k < n2 ∧ l.getD k 0 = m.getD k 0
        · obtain ⟨hg1, hg2, hg3⟩ := hgo
          obtain ⟨b1, f1, rfl, hbb1, hc1'⟩ := H1.out (by rw [HN1.out]; omega)
          obtain ⟨b2, f2, rfl, hbb2, hc2'⟩ := H2.out (by rw [HN2.out]; omega)
          have hcell1 := (hbw.out.cell (p := ⟨b1, f1 + k, none⟩) hbb1).trans (hc1' k (by rw [HN1.out]; omega))
          have hcell2 := (hbw.out.cell (p := ⟨b2, f2 + k, none⟩) hbb2).trans (hc2' k (by rw [HN2.out]; omega))
          have HS := Lib.hid (same_next hsame.out hg3 (by rw [HN1.out]; omega) (by rw [HN2.out]; omega))
          rw [← hg3] at hcell2
          generalize l.getD k 0 = x at hcell1 hcell2
          have g0 : (0 : Int) ≤ (k : Int) := by omega
          have g1 : (k : Int) < (n1 : Int) := by omega
          have g2 : (k : Int) < (n2 : Int) := by omega
          clear hc1' hc2' hg3 hsame
          go_wp2_with fail
          go_quiet (fail)
          go_wp2
          go_roundw
          case rel => exact ⟨k + 1, by omega, by omega, by go_num, HS, Lib.hid (below_drewN hbw.out _)⟩
          case measure => simp [intOf]; omega
        · have hcase : (k < n1 ∧ k < n2 ∧ l.getD k 0 ≠ m.getD k 0) ∨ (k < n1 ∧ ¬ k < n2) ∨ (¬ k < n1 ∧ n2 = k) ∨ (¬ k < n1 ∧ ¬ n2 = k) := by
            by_cases q1 : k < n1
            · by_cases q2 : k < n2
              · exact .inl ⟨q1, q2, fun e => hgo ⟨q1, q2, e⟩⟩
              · exact .inr (.inl ⟨q1, q2⟩)
            · by_cases q2 : n2 = k
              · exact .inr (.inr (.inl ⟨q1, q2⟩))
              · exact .inr (.inr (.inr ⟨q1, q2⟩))
          have HQ := Lib.hid (rows_eq (k := k) HL.out HM.out hsame.out (by rw [HN1.out]; omega) (by rw [HN2.out]; omega) (fun q1 q2 e => hgo ⟨by rw [← HN1.out]; exact q1, by rw [← HN2.out]; exact q2, e⟩))
          rw [HN1.out, HN2.out] at HQ
          have hfa := shortsL_front l k
          have hfb := shortsL_front m k
          rw [← show l.take k = m.take k from hsame.out] at hfb
          have LA := Lib.hid (show (shortsL l).length ≤ 70368744177664 by have := shortsL_le l HL.out; rw [HN1.out] at this; omega)
          have LB := Lib.hid (show (shortsL m).length ≤ 70368744177664 by have := shortsL_le m HM.out; rw [HN2.out] at this; omega)
          have LC := Lib.hid (show (shortsL (l.take k)).length ≤ 70368744177664 by have := LA.out; omega)
          have HFA := Lib.hid hfa
          have HFB := Lib.hid hfb
          clear hfa hfb hgo
          rcases hcase with ⟨q1, q2, hne⟩ | ⟨q1, q2⟩ | ⟨q1, q2⟩ | ⟨q1, q2⟩
          have HRA := Lib.hid (rows_apart HL.out HM.out hsame.out (by rw [HN1.out]; omega) (by rw [HN2.out]; omega) hne)
          obtain ⟨b1, f1, rfl, hbb1, hc1'⟩ := H1.out (by rw [HN1.out]; omega)
          obtain ⟨b2, f2, rfl, hbb2, hc2'⟩ := H2.out (by rw [HN2.out]; omega)
          have hcell1 := (hbw.out.cell (p := ⟨b1, f1 + k, none⟩) hbb1).trans (hc1' k (by rw [HN1.out]; omega))
          have hcell2 := (hbw.out.cell (p := ⟨b2, f2 + k, none⟩) hbb2).trans (hc2' k (by rw [HN2.out]; omega))
          generalize l.getD k 0 = x at *
          generalize m.getD k 0 = y at *
          have hne' : ((x : Int) == (y : Int)) = false := by simp; omega
          have g0 : (0 : Int) ≤ (k : Int) := by omega
          have d1 : (k : Int) < (n1 : Int) := by omega
          have d2 : (k : Int) < (n2 : Int) := by omega
          have HE1 := Lib.hid (show ((n1 : Int) == (k : Int)) = false by simp; omega)
          have HYV := Lib.hid (show decide (shortsL l = shortsL m) = false from decide_eq_false (fun e => by have := (HQ.out.2 e).1; omega))
          clear hc1' hc2' hne
          go_wp2_with fail
          go_quiet (fail)
          clear hcell1 hcell2 hne'
          rotate_left
          have d1 : decide ((k : Int) < (n1 : Int)) = true := decide_eq_true (by omega)
          have d2 : decide ((k : Int) < (n2 : Int)) = false := decide_eq_false (by omega)
          have HE1 := Lib.hid (show ((n1 : Int) == (k : Int)) = false by simp; omega)
          have HYV := Lib.hid (show decide (shortsL l = shortsL m) = false from decide_eq_false (fun e => by have := (HQ.out.2 e).1; omega))
          go_wp2_with fail
          go_quiet (fail)
          rotate_left
          have d1 : decide ((k : Int) < (n1 : Int)) = false := decide_eq_false (by omega)
          have HE1 := Lib.hid (show ((n1 : Int) == (k : Int)) = true by simp; omega)
          have HE2 := Lib.hid (show ((n2 : Int) == (k : Int)) = true by simp; omega)
          have HYV := Lib.hid (show decide (shortsL l = shortsL m) = true from decide_eq_true (HQ.out.1 ⟨by omega, by omega⟩))
          have HQ2 := Lib.hid q2
          clear q2
          go_wp2_with fail
          go_quiet (fail)
          rotate_left
          have d1 : decide ((k : Int) < (n1 : Int)) = false := decide_eq_false (by omega)
          have HE1 := Lib.hid (show ((n1 : Int) == (k : Int)) = true by simp; omega)
          have HE2 := Lib.hid (show ((n2 : Int) == (k : Int)) = false by simp; omega)
          have HYV := Lib.hid (show decide (shortsL l = shortsL m) = false from decide_eq_false (fun e => q2 (HQ.out.2 e).2))
          have HQ2 := Lib.hid q2
          clear q2
          go_wp2_with fail
          go_quiet (fail)
          all_goals
            go_wp2_with fail
            refine (new_at (below_drewN hbw.out _) hbw.out.size).mono ?_
            rintro e W1 ⟨p1, rfl, o1, b1, z1⟩
            go_wp2_with fail
            refine (new_at o1.out.below o1.out.size).mono ?_
            rintro e W2 ⟨p2, rfl, o2, b2, z2⟩
            have o1a := Lib.hid (o1.out.later b2.out)
            have n12 : Hid (p1 ≠ p2) := Lib.hid (by have := o1.out.wr.lt; have := z2.out; omega)
            clear o1 b1 z1 b2 z2
            go_wp2_with fail
            refine (new_at o2.out.below o2.out.size).mono ?_
            rintro e W3 ⟨p3, rfl, o3, b3, z3⟩
            have o1b := Lib.hid (o1a.out.later b3.out)
            have o2b := Lib.hid (o2.out.later b3.out)
            have n13 : Hid (p1 ≠ p3 ∧ p2 ≠ p3) := Lib.hid (by have := o1a.out.wr.lt; have := o2.out.wr.lt; have := z3.out; omega)
            clear o1a o2 b3 z3
            go_wp2_with fail
            refine (HPL.out _ _ _ o1b.out).mono ?_
            rintro e W4 ⟨rfl, g1', o14, e14, f14⟩
            have o24 := Lib.hid (o2b.out.beside o1b.out n12.out.symm (fun _ h => by cases h) f14.out)
            have o34 := Lib.hid (o3.out.beside o1b.out n13.out.1.symm (fun _ h => by cases h) f14.out)
            clear o1b o2b o3 e14 f14
            go_wp2_with fail
            refine (HPM.out _ _ _ o24.out).mono ?_
            rintro e W5 ⟨rfl, g2', o25, e25, f25⟩
            have o15 := Lib.hid (o14.out.beside o24.out n12.out (fun _ _ h => by cases h) f25.out)
            have o35 := Lib.hid (o34.out.beside o24.out n13.out.2.symm (fun _ h => by cases h) f25.out)
            clear o14 o24 o34 e25 f25
            go_wp2_with fail
            refine (HPK.out _ _ _ o35.out).mono ?_
            rintro e W6 ⟨rfl, g3', o36, e36, f36⟩
            have o16 := Lib.hid (o15.out.beside o35.out n13.out.1 (fun _ _ h => by cases h) f36.out)
            have o26 := Lib.hid (o25.out.beside o35.out n13.out.2 (fun _ _ h => by cases h) f36.out)
            clear o15 o25 o35 e36 f36 HPL HPM HPK n12 n13
            go_wp2_with fail
            refine region_steps (n := 137) (UG p1 p2 p3 (shortsL l) (shortsL m) (shortsL (l.take k))) (by kernel_rfl) (by kernel_rfl) rfl (fun _ _ _ _ hb h => UG.mono hb h) ?_ ?_
            · refine And.intro ?_ (And.intro ?_ (And.intro ?_ (And.intro ?_ (And.intro ?_ (And.intro ?_ (And.intro ?_ (And.intro ?_ (And.intro ?_ (And.intro ?_ (And.intro ?_ (And.intro ?_ True.intro)))))))))))
              · intro listed a' w' hw hd K hK
                refine step_free rfl ?_
                apply wp_move
                exact hK _ _ (Below.refl _ _) (fun s hs => by cases hs; exact hw.kept 6 (by kernel_rfl))
              · intro listed a' w' hw hd K hK
                refine step_free rfl ?_
                have hv : a'.tmps.getD 59 undef = .pointer (some ⟨p1, 0, none⟩) := (hw.at_ 0 59 rfl (hd ⟨0, .data⟩ (by simp) rfl))
                have hO := Lib.hid (o16.out.later (below_drew_left hw.below))
                unfold Oper.wp
                simp only [execOp]
                go_simp
                refine (wbytes_any p1 g1' (shortsL l) w' hO.out.wr LA.out).mono ?_
                rintro e w2 ⟨A, cap, rfl, ho, hb⟩
                exact hK _ _ hb.out (fun s hs => by cases hs; exact ⟨A, cap, rfl, ho.out.bytes⟩)
              · intro listed a' w' hw hd K hK
                refine step_free rfl ?_
                obtain ⟨A, cap, hv, hb⟩ : BytesV (shortsL l) w' (a'.tmps.getD 60 undef) := (hw.at_ 1 60 rfl (hd ⟨1, .data⟩ (by simp) rfl))
                have C := conv_str cap hb rfl
                unfold Oper.wp
                simp only [execOp]
                go_simp
                exact hK _ _ (Below.refl _ _) (fun s hs => by cases hs; rfl)
              · intro listed a' w' hw hd K hK
                refine step_free rfl ?_
                apply wp_move
                exact hK _ _ (Below.refl _ _) (fun s hs => by cases hs; exact hw.kept 7 (by kernel_rfl))
              · intro listed a' w' hw hd K hK
                refine step_free rfl ?_
                have hv : a'.tmps.getD 62 undef = .pointer (some ⟨p2, 0, none⟩) := (hw.at_ 3 62 rfl (hd ⟨3, .data⟩ (by simp) rfl))
                have hO := Lib.hid (o26.out.later (below_drew_left hw.below))
                unfold Oper.wp
                simp only [execOp]
                go_simp
                refine (wbytes_any p2 g2' (shortsL m) w' hO.out.wr LB.out).mono ?_
                rintro e w2 ⟨A, cap, rfl, ho, hb⟩
                exact hK _ _ hb.out (fun s hs => by cases hs; exact ⟨A, cap, rfl, ho.out.bytes⟩)
              · intro listed a' w' hw hd K hK
                refine step_free rfl ?_
                obtain ⟨A, cap, hv, hb⟩ : BytesV (shortsL m) w' (a'.tmps.getD 63 undef) := (hw.at_ 4 63 rfl (hd ⟨4, .data⟩ (by simp) rfl))
                have C := conv_str cap hb rfl
                unfold Oper.wp
                simp only [execOp]
                go_simp
                exact hK _ _ (Below.refl _ _) (fun s hs => by cases hs; rfl)
              · intro listed a' w' hw hd K hK
                refine step_free rfl ?_
                apply wp_move
                exact hK _ _ (Below.refl _ _) (fun s hs => by cases hs; exact hw.kept 8 (by kernel_rfl))
              · intro listed a' w' hw hd K hK
                refine step_free rfl ?_
                have hv : a'.tmps.getD 65 undef = .pointer (some ⟨p3, 0, none⟩) := (hw.at_ 6 65 rfl (hd ⟨6, .data⟩ (by simp) rfl))
                have hO := Lib.hid (o36.out.later (below_drew_left hw.below))
                unfold Oper.wp
                simp only [execOp]
                go_simp
                refine (wbytes_any p3 g3' (shortsL (l.take k)) w' hO.out.wr LC.out).mono ?_
                rintro e w2 ⟨A, cap, rfl, ho, hb⟩
                exact hK _ _ hb.out (fun s hs => by cases hs; exact ⟨A, cap, rfl, ho.out.bytes⟩)
              · intro listed a' w' hw hd K hK
                refine step_free rfl ?_
                obtain ⟨A, cap, hv, hb⟩ : BytesV (shortsL (l.take k)) w' (a'.tmps.getD 66 undef) := (hw.at_ 7 66 rfl (hd ⟨7, .data⟩ (by simp) rfl))
                have C := conv_str cap hb rfl
                unfold Oper.wp
                simp only [execOp]
                go_simp
                exact hK _ _ (Below.refl _ _) (fun s hs => by cases hs; rfl)
              · intro listed a' w' hw hd K hK
                refine step_free rfl ?_
                apply wp_assign
                exact hK _ _ (Below.refl _ _) (fun s hs => by cases hs; exact (hw.at_ 2 61 rfl (hd ⟨2, .data⟩ (by simp) rfl)))
              · intro listed a' w' hw hd K hK
                refine step_free rfl ?_
                apply wp_assign
                exact hK _ _ (Below.refl _ _) (fun s hs => by cases hs; exact (hw.at_ 5 64 rfl (hd ⟨5, .data⟩ (by simp) rfl)))
              · intro listed a' w' hw hd K hK
                refine step_free rfl ?_
                apply wp_assign
                exact hK _ _ (Below.refl _ _) (fun s hs => by cases hs; exact (hw.at_ 8 67 rfl (hd ⟨8, .data⟩ (by simp) rfl)))
            · intro listed a' w' hw hall
              have h9 : a'.tmps.getD 9 undef = .string ⟨(shortsL l).toArray⟩ := hw.at_ 9 9 rfl (hall 9 (Nat.lt_of_lt_of_eq (show 9 < 12 by omega) rfl))
              have h10 : a'.tmps.getD 10 undef = .string ⟨(shortsL m).toArray⟩ := hw.at_ 10 10 rfl (hall 10 (Nat.lt_of_lt_of_eq (show 10 < 12 by omega) rfl))
              have h11 : a'.tmps.getD 11 undef = .string ⟨(shortsL (l.take k)).toArray⟩ := hw.at_ 11 11 rfl (hall 11 (Nat.lt_of_lt_of_eq (show 11 < 12 by omega) rfl))
              have hbF : Hid (Below w.heap.size w w') := Lib.hid (o16.out.below.trans ((below_drew_left hw.below).mono o16.out.size))
              have hp := hw.puts [59, 60, 61, 62, 63, 64, 65, 66, 67, 9, 10, 11] (by kernel_rfl)
              clear hw hall o16 o26 o36 HL HM H1 H2
              rw [hp]
              simp only [List.foldl_cons, List.foldl_nil, h9, h10, h11]
              generalize a'.tmps.getD 59 undef = u59
              generalize a'.tmps.getD 60 undef = u60
              generalize a'.tmps.getD 61 undef = u61
              generalize a'.tmps.getD 62 undef = u62
              generalize a'.tmps.getD 63 undef = u63
              generalize a'.tmps.getD 64 undef = u64
              generalize a'.tmps.getD 65 undef = u65
              generalize a'.tmps.getD 66 undef = u66
              generalize a'.tmps.getD 67 undef = u67
              clear hp h9 h10 h11 LA LB LC
              have za := Lib.hid (str_size (shortsL l))
              have zb := Lib.hid (str_size (shortsL m))
              have zc := Lib.hid (str_size (shortsL (l.take k)))
              have ya := Lib.hid (fun n => str_take (shortsL l) n)
              have yb := Lib.hid (fun n => str_take (shortsL m) n)
              have yab := Lib.hid (str_eq (shortsL l) (shortsL m))
              have yc := Lib.hid (str_list (shortsL (l.take k)))
              generalize (⟨(shortsL l).toArray⟩ : ByteArray) = sa at *
              generalize (⟨(shortsL m).toArray⟩ : ByteArray) = sb at *
              generalize (⟨(shortsL (l.take k)).toArray⟩ : ByteArray) = sc at *
              have v1 : sc.size ≤ sa.size := by rw [za.out, zc.out]; exact HFA.out.2
              have v2 : sc.size ≤ sb.size := by rw [zb.out, zc.out]; exact HFB.out.2
              have v3 : ((sa.extract 0 sc.size).toList == sc.toList) = true := by rw [ya.out, yc.out, zc.out, HFA.out.1]; simp
              have v4 : ((sb.extract 0 sc.size).toList == sc.toList) = true := by rw [yb.out, yc.out, zc.out, HFB.out.1]; simp
              have w1 : decide (sa.size < sc.size) = false := decide_eq_false (by omega)
              have w2 : decide (sb.size < sc.size) = false := decide_eq_false (by omega)
              have v3n : (sa.extract 0 sc.size).toList = sc.toList := by simpa using v3
              have v4n : (sb.extract 0 sc.size).toList = sc.toList := by simpa using v4
              obtain ⟨n, hn⟩ : ∃ n : Nat, n = min sa.size sb.size := ⟨_, rfl⟩
              have emin : (if sb.size < sa.size then (sb.size : Int) else (sa.size : Int)) = (n : Int) := by rw [hn]; split <;> omega
              have m1 : n ≤ sa.size := by omega
              have m2 : n ≤ sb.size := by omega
              have HN := Lib.hid hn
              clear hn
              go_wp2_with fail
              clear v1 v2 v3 v4 v3n v4n emin w1 w2
              have yv : (sa.toList == sb.toList) = _ := yab.out.trans HYV.out
              have e1 := HE1.out
              try have e2 := HE2.out
              first
                | (have y1 : ((sa.extract 0 n).toList == (sb.extract 0 n).toList) = false := by
                    rw [ya.out, yb.out, HN.out, za.out, zb.out]
                    simpa using HRA.out)
                | skip
              go_quiet (fail)
              go_wp2_with fail
              refine (awake_any _).mono ?_
              rintro e W9 ⟨rfl, hb9⟩
              go_wp2
              go_ret
              exact ⟨rfl, Lib.hid ((below_drewN hbF.out _).trans (hb9.out.mono hbF.out.size))⟩
end Go.Proofs.Ytcfdmimfpllckaa
