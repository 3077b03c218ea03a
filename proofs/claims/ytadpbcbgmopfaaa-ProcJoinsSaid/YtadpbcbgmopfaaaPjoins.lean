/-
  The statement ProcJoins' walk: whatever lists, it answers true, and leaves all that was there as it was. No condition but that the lists are lists.
-/
import Derived.Test.YtadpbcbgmopfaaaPrkept
import Derived.Test.YtadpbcbgmopfaaaPawake
namespace Go.Proofs.Ytadpbcbgmopfaaa
set_option maxRecDepth 20000
open Go.RowKit

theorem kept_true (a b : List Life) : setL (a.filter fun p => decide (p ∈ b) == true) = meetL a b := by simp [meetL]
theorem kept_false (a b : List Life) : setL (a.filter fun p => decide (p ∈ b) == false) = minusL a b := by
  unfold minusL
  congr 1
  apply List.filter_congr
  intro p _
  cases decide (p ∈ b) <;> rfl
theorem flat_le : ∀ (ls : List (List Life)) (N : Nat), (∀ l, l ∈ ls → l.length ≤ N) → ls.flatten.length ≤ ls.length * N
  | [], N, _ => by simp
  | l :: ls, N, h => by
    have h1 := flat_le ls N (fun x hx => h x (List.mem_cons_of_mem _ hx))
    have h2 := h l (by simp)
    rw [List.flatten_cons, List.length_append, List.length_cons, Nat.add_mul]
    omega
theorem light_all {ls : List (List Life)} (h : heavyB ls = false) : ls.length ≤ 20 ∧ ls.flatten.length ≤ 6000 := by
  have h1 : ls.length ≤ 20 := by
    unfold heavyB at h
    rw [Bool.or_eq_false_iff] at h
    have := of_decide_eq_false h.2
    omega
  refine ⟨h1, ?_⟩
  have := flat_le ls 300 (fun l hl => by
    obtain ⟨k, hk, e⟩ := List.getElem_of_mem hl
    have := light_at h k hk
    have e2 : listAt ls k = ls[k] := by simp [listAt, List.getD, hk]
    rw [e2, e] at this
    exact this)
  have : ls.length * 300 ≤ 20 * 300 := Nat.mul_le_mul_right _ h1
  omega
theorem unionls_lst {W : World} {A : Option Addr} {ls : List (List Life)} {n c : Nat} (h : ListsP W W.heap.size A ls) (hn : ls.length = n) (hb : n ≤ 20) (hs : ls.flatten.length ≤ 6000) :
    Calls Try.prog 53 #[.slice A n c] W fun e w' => ∃ A' c' m, e = .returned (.slice A' m c') ∧ Hid (Lst w' 6000 A' m c' (setL ls.flatten)) ∧ Hid (Below W.heap.size W w') := by
  refine (union_any A ls n c W h hn (by omega) (by omega)).mono ?_
  rintro e w' ⟨A', c', rfl, hv, hA, hc, hb⟩
  exact ⟨A', c', _, rfl, Lib.hid ⟨hv.out, rfl, Nat.le_trans (setL_length _) hs, hA.out⟩, hb⟩
theorem equal_lst {W : World} {N1 N2 n1 c1 n2 c2 : Nat} {A1 A2 : Option Addr} {a b : List Life} (h1 : Lst W N1 A1 n1 c1 a) (h2 : Lst W N2 A2 n2 c2 b) (e : a = b) (hN : N1 ≤ 1099511627776) :
    Calls Try.prog 44 #[.slice A1 n1 c1, .slice A2 n2 c2] W fun e w' => e = .returned (.bool true) ∧ Hid (Below W.heap.size W w') := by
  subst e
  exact requal_true' h1.lives h2.lives h1.len h2.len (Nat.le_trans h1.le hN)
theorem equal_rs {W : World} {N1 N2 n1 c1 n2 c2 : Nat} {A1 A2 : Option Addr} {a b : List Life} {r : Bool} (h1 : Lst W N1 A1 n1 c1 a) (h2 : Lst W N2 A2 n2 c2 b) (e : decide (a = b) = r) (hN1 : N1 ≤ 1099511627776) (hN2 : N2 ≤ 1099511627776) :
    Calls Try.prog 44 #[.slice A1 n1 c1, .slice A2 n2 c2] W fun e w' => e = .returned (.bool r) ∧ Hid (Below W.heap.size W w') := by
  rw [← e]
  exact requal_any A1 a n1 c1 A2 b n2 c2 W h1.lives h2.lives h1.len h2.len (Nat.le_trans h1.le hN1) (Nat.le_trans h2.le hN2)
theorem same_rs {W : World} {N1 N2 n1 c1 n2 c2 : Nat} {A1 A2 : Option Addr} {a b : List Life} {r : Bool} (h1 : Lst W N1 A1 n1 c1 a) (h2 : Lst W N2 A2 n2 c2 b) (hN1 : N1 ≤ 1099511627776) (hN2 : N2 ≤ 1099511627776) (e : decide (setL a = setL b) = r) :
    Calls Try.prog 58 #[.slice A1 n1 c1, .slice A2 n2 c2] W fun e w' => e = .returned (.bool r) ∧ Hid (Below W.heap.size W w') := by
  rw [← e]
  exact same_lst h1 h2 hN1 hN2
set_option maxHeartbeats 8000000 in
theorem joins_walk (A1 A2 A3 : Option Addr) (a b : List Life) (ls : List (List Life)) (c1 c2 c3 : Nat) (w : World) (h1 : Lives w w.heap.size A1 a) (h2 : Lives w w.heap.size A2 b) (h3 : ListsP w w.heap.size A3 ls) (hA1 : A1 = none → c1 = 0) (hA2 : A2 = none → c2 = 0) (m1 : a.length ≤ 9223372036854775807) (m2 : b.length ≤ 9223372036854775807) (m3 : ls.length ≤ 9223372036854775807) :
    Calls Try.prog 11 #[.slice A1 a.length c1, .slice A2 b.length c2, .slice A3 ls.length c3] w fun e w' => e = .returned (.bool true) ∧ Hid (Below w.heap.size w w') := by
  have ha0 := Lib.hid (show Lst w 9223372036854775807 A1 a.length c1 a from ⟨h1, rfl, m1, hA1⟩)
  have hb0 := Lib.hid (show Lst w 9223372036854775807 A2 b.length c2 b from ⟨h2, rfl, m2, hA2⟩)
  have HH := Lib.hid (heavy_any (some ⟨w.heap.size, 0, none⟩) [a, b] 2 2 _ (lists_two ha0.out hb0.out) rfl (by omega))
  have BW := Lib.hid ((Below.refl w.heap.size w).alloc (Nat.le_refl _) (.cells #[.slice A1 a.length c1, .slice A2 b.length c2] 74))
  have hd0 := Lib.hid (h3.on BW.out)
  have HH3 := Lib.hid (heavy_any A3 ls ls.length c3 _ hd0.out rfl m3)
  clear h1 h2 h3 hA1 hA2
  have HLa := Lib.hid (show heavyB [a, b] = false → a.length ≤ 300 from fun h => light_at h 0 (by simp))
  have HLb := Lib.hid (show heavyB [a, b] = false → b.length ≤ 300 from fun h => light_at h 1 (by simp))
  have HLd := Lib.hid (show heavyB ls = false → ls.length ≤ 20 ∧ ls.flatten.length ≤ 6000 from fun h => light_all h)
  generalize hn1 : a.length = n1 at *
  generalize hn2 : b.length = n2 at *
  generalize hn3 : ls.length = n3 at *
  have HN3 := Lib.hid hn3
  clear hn1 hn2 hn3 m1 m2 m3
  go_enter Try.func11, Try.ntmps11
  go_wp2_with fail
  refine HH.out.mono ?_
  rintro e V0 ⟨rfl, rfl⟩
  clear HH
  cases hv : heavyB [a, b] with
  | true =>
    clear hv
    go_wp2_with fail
    refine (awake3_any _).mono ?_
    rintro e V1 ⟨rfl, hb1⟩
    go_wp2
    go_ret
    exact ⟨rfl, Lib.hid (btr BW.out hb1.out)⟩
  | false =>
    have ha := Lib.hid (show Lst _ 300 A1 n1 c1 a from ⟨(ha0.out.on BW.out).lives, ha0.out.len, HLa.out hv, ha0.out.cap⟩)
    have hb := Lib.hid (show Lst _ 300 A2 n2 c2 b from ⟨(hb0.out.on BW.out).lives, hb0.out.len, HLb.out hv, hb0.out.cap⟩)
    clear hv HLa HLb ha0 hb0
    go_wp2_with fail
    refine HH3.out.mono ?_
    rintro e V1 ⟨rfl, rfl⟩
    clear HH3
    cases hv : heavyB ls with
    | true =>
      clear hv
      go_wp2_with fail
      refine (awake3_any _).mono ?_
      rintro e V1 ⟨rfl, hb1⟩
      go_wp2
      go_ret
      exact ⟨rfl, Lib.hid (btr BW.out hb1.out)⟩
    | false =>
      obtain ⟨hl20, hl6⟩ := HLd.out hv
      have HL6 := Lib.hid hl6
      clear hv HLd hl6
      have HTot := Lib.hid (show lenUpTo ls n3 = ls.flatten.length by unfold lenUpTo; rw [← HN3.out, List.take_length])
      have HBd := Lib.hid (fun k (hk : k ≤ n3) => Nat.le_trans (lenUpTo_le ls k (by rw [HN3.out]; exact hk)) HL6.out)
      generalize w.alloc (.cells #[.slice A1 n1 c1, .slice A2 n2 c2] 74) = V at *
      go_wp2
      go_loopw [7, 8] (fun s i wr => ∃ k : Nat, ∃ A' c', k ≤ n3 ∧ s = .slice A' (lenUpTo ls k) c' ∧ i = .int .i64 k ∧ Hid (OwnP wr V.heap.size A' (lenUpTo ls k) c' (ls.take k).flatten) ∧ Hid (Below V.heap.size V wr)) (fun _ i _ => n3 - (intOf i).toNat)
      case atStart => exact ⟨0, none, 0, Nat.zero_le _, by simp [lenUpTo], rfl, Lib.hid (by simpa [lenUpTo] using OwnP.nil_), Lib.hid (Below.refl _ _)⟩
      case round =>
        obtain ⟨k, A4, c4, hk, rfl, rfl, ho2, hb2⟩ := hrel
        by_cases hlt2 : k < n3
        · obtain ⟨g, off, rfl, hgg, hc⟩ := hd0.out.below hb2.out (by rw [HN3.out]; omega)
          obtain ⟨A', cap, hc1, hl1, hA1⟩ := hc k (by rw [HN3.out]; exact hlt2)
          have g0 : (0 : Int) ≤ (k : Int) := by omega
          have g1 : (k : Int) < (n3 : Int) := by omega
          have hle := lenUpTo_succ ls k (by rw [HN3.out]; exact hlt2)
          have hl2 := HBd.out (k + 1) (by omega)
          have HE := Lib.hid hle
          have HF := Lib.hid (take_flat_succ ls k (by rw [HN3.out]; exact hlt2))
          rw [hle] at hl2
          have HX := Lib.hid hl1
          have HA := Lib.hid hA1
          clear hc hle hl1 hA1
          generalize hxs : listAt ls k = xs at *
          clear hxs
          generalize hm : xs.length = m at *
          have HM := Lib.hid hm
          clear hm
          generalize lenUpTo ls k = t at *
          go_wp2_with (at_builtin; refine wpList_appendP rfl _ _ rfl V.heap.size A4 t c4 (ls.take k).flatten rfl hb2.out.size ho2.out A' m cap V.heap.size xs rfl HM.out HA.out HX.out (by omega) ?_)
          intro A3 c3 W3 h1 h2 h3
          go_wp2
          go_roundw
          case rel => exact ⟨k + 1, A3, c3, by omega, by rw [HE.out], by go_num, Lib.hid (by rw [HE.out, HF.out]; exact h1.out), Lib.hid (h2.out.below hb2.out (ho2.out.base) hb2.out.size)⟩
          case measure => simp [intOf]; omega
        · obtain rfl : k = n3 := by omega
          have g1 : ¬ (k : Int) < (k : Int) := by omega
          have HTk := Lib.hid (show ls.take k = ls by rw [← HN3.out, List.take_length])
          have ho := ho2.out
          rw [HTk.out] at ho
          have hz0 := Lib.hid (show Lst wr 6000 A4 (lenUpTo ls k) c4 ls.flatten from ⟨ho.lives, ho.len, HBd.out k (Nat.le_refl _), ho.none_cap⟩)
          have ha0 := Lib.hid (ha.out.on hb2.out)
          have hb0 := Lib.hid (hb.out.on hb2.out)
          have hd1 := Lib.hid (hd0.out.on hb2.out)
          have BW0 := Lib.hid (btr BW.out hb2.out)
          have F1 := Lib.hid (kept_true a b)
          have F2 := Lib.hid (kept_false a b)
          generalize hrs : decide (setL a = setL b) = rs
          have HRS := Lib.hid hrs
          clear hrs ho2 ho HTk BW ha hb hd0 hb2 HBd HTot
          generalize lenUpTo ls k = t at *
          have E0 := Lib.hid ((Below.refl wr.heap.size wr).alloc (Nat.le_refl _) (.cells #[] 70))
          go_wp2_with (at_builtin; refine wpList_appendP rfl _ _ rfl wr.heap.size _ 0 _ [] rfl (by simp) (World.ownsRow_made wr #[] 0 (Nat.le_refl _) (Nat.zero_le _) (by simp)) A1 n1 c1 wr.heap.size a rfl ha0.out.len ha0.out.cap (ha0.out.lives.below E0.out) (by have := ha0.out.le; omega) ?_)
          intro A5 c5 W5 r1 r2 r3
          have q0 := Lib.hid (r2.out.below E0.out (by rintro k e; simp [blockOf] at e; omega) E0.out.size)
          have hx0 := Lib.hid (show Lst W5 300 A5 n1 c5 a from by
            have r1 := (show OwnP W5 wr.heap.size A5 n1 c5 a from by simpa using r1.out)
            exact ⟨r1.lives, r1.len, ha0.out.le, r1.none_cap⟩)
          have E5 := Lib.hid ((Below.refl W5.heap.size W5).alloc (Nat.le_refl _) (.cells #[] 70))
          clear r1 r2 r3
          go_wp2_with (at_builtin; refine wpList_appendP rfl _ _ rfl W5.heap.size _ 0 _ [] rfl (by simp) (World.ownsRow_made W5 #[] 0 (Nat.le_refl _) (Nat.zero_le _) (by simp)) A2 n2 c2 W5.heap.size b rfl hb0.out.len hb0.out.cap ((hb0.out.on q0.out).lives.below E5.out) (by have := hb0.out.le; omega) ?_)
          intro A6 c6 V6 r1 r2 r3
          have q5 := Lib.hid (r2.out.below E5.out (by rintro k e; simp [blockOf] at e; omega) E5.out.size)
          have hy := Lib.hid (show Lst V6 300 A6 n2 c6 b from by
            have r1 := (show OwnP V6 W5.heap.size A6 n2 c6 b from by simpa using r1.out)
            exact ⟨r1.lives, r1.len, hb0.out.le, r1.none_cap⟩)
          have hx := Lib.hid (hx0.out.on q5.out)
          have ha := Lib.hid (ha0.out.on (btr q0.out q5.out))
          have hb := Lib.hid (hb0.out.on (btr q0.out q5.out))
          have hz := Lib.hid (hz0.out.on (btr q0.out q5.out))
          have hd := Lib.hid (hd1.out.on (btr q0.out q5.out))
          have BW := Lib.hid (btr BW0.out (btr q0.out q5.out))
          clear r1 r2 r3 q0 q5 hx0 ha0 hb0 hz0 hd1 BW0 E0 E5
          go_wp2_with fail
          refine (union_lst hx.out hy.out (by omega)).mono ?_
          rintro e V11 ⟨B11, d11, t11, rfl, hu11, q11⟩
          have ha11 := Lib.hid (ha.out.on q11.out)
          have hb11 := Lib.hid (hb.out.on q11.out)
          have hx11 := Lib.hid (hx.out.on q11.out)
          have hy11 := Lib.hid (hy.out.on q11.out)
          have hz11 := Lib.hid (hz.out.on q11.out)
          have hd11 := Lib.hid (hd.out.on q11.out)
          have BW11 := Lib.hid (btr BW.out q11.out)
          clear ha hb hx hy hz hd BW q11
          go_wp2_with fail
          refine (rboth_lst ha11.out hb11.out (by omega)).mono ?_
          rintro e V12 ⟨B12, d12, t12, rfl, hv12, q12⟩
          have ha12 := Lib.hid (ha11.out.on q12.out)
          have hb12 := Lib.hid (hb11.out.on q12.out)
          have hx12 := Lib.hid (hx11.out.on q12.out)
          have hy12 := Lib.hid (hy11.out.on q12.out)
          have hz12 := Lib.hid (hz11.out.on q12.out)
          have hd12 := Lib.hid (hd11.out.on q12.out)
          have hu12 := Lib.hid (hu11.out.on q12.out)
          have BW12 := Lib.hid (btr BW11.out q12.out)
          clear ha11 hb11 hx11 hy11 hz11 hd11 hu11 BW11 q12
          go_wp2_with fail
          refine (rsorted_lst' hv12.out (by omega)).mono ?_
          rintro e V13 ⟨B13, d13, t13, rfl, hs13, q13⟩
          have ha13 := Lib.hid (ha12.out.on q13.out)
          have hb13 := Lib.hid (hb12.out.on q13.out)
          have hx13 := Lib.hid (hx12.out.on q13.out)
          have hy13 := Lib.hid (hy12.out.on q13.out)
          have hz13 := Lib.hid (hz12.out.on q13.out)
          have hd13 := Lib.hid (hd12.out.on q13.out)
          have hu13 := Lib.hid (hu12.out.on q13.out)
          have BW13 := Lib.hid (btr BW12.out q13.out)
          clear ha12 hb12 hx12 hy12 hz12 hd12 hu12 hv12 BW12 q13
          go_wp2_with fail
          refine (equal_lst hu13.out hs13.out rfl (by omega)).mono ?_
          rintro e V14 ⟨rfl, q14⟩
          have ha14 := Lib.hid (ha13.out.on q14.out)
          have hb14 := Lib.hid (hb13.out.on q14.out)
          have hx14 := Lib.hid (hx13.out.on q14.out)
          have hy14 := Lib.hid (hy13.out.on q14.out)
          have hz14 := Lib.hid (hz13.out.on q14.out)
          have hd14 := Lib.hid (hd13.out.on q14.out)
          have BW14 := Lib.hid (btr BW13.out q14.out)
          clear ha13 hb13 hx13 hy13 hz13 hd13 hu13 hs13 BW13 q14
          go_wp2_with fail
          refine (unionls_lst hd14.out HN3.out hl20 HL6.out).mono ?_
          rintro e V15 ⟨B15, d15, t15, rfl, hu15, q15⟩
          have ha15 := Lib.hid (ha14.out.on q15.out)
          have hb15 := Lib.hid (hb14.out.on q15.out)
          have hx15 := Lib.hid (hx14.out.on q15.out)
          have hy15 := Lib.hid (hy14.out.on q15.out)
          have hz15 := Lib.hid (hz14.out.on q15.out)
          have hd15 := Lib.hid (hd14.out.on q15.out)
          have BW15 := Lib.hid (btr BW14.out q15.out)
          clear ha14 hb14 hx14 hy14 hz14 hd14 BW14 q15
          go_wp2_with fail
          refine (rsorted_lst' hz15.out (by omega)).mono ?_
          rintro e V16 ⟨B16, d16, t16, rfl, hs16, q16⟩
          have ha16 := Lib.hid (ha15.out.on q16.out)
          have hb16 := Lib.hid (hb15.out.on q16.out)
          have hx16 := Lib.hid (hx15.out.on q16.out)
          have hy16 := Lib.hid (hy15.out.on q16.out)
          have hu16 := Lib.hid (hu15.out.on q16.out)
          have BW16 := Lib.hid (btr BW15.out q16.out)
          clear ha15 hb15 hx15 hy15 hu15 hz15 hd15 BW15 q16
          go_wp2_with fail
          refine (equal_lst hu16.out hs16.out rfl (by omega)).mono ?_
          rintro e V17 ⟨rfl, q17⟩
          have ha17 := Lib.hid (ha16.out.on q17.out)
          have hb17 := Lib.hid (hb16.out.on q17.out)
          have hx17 := Lib.hid (hx16.out.on q17.out)
          have hy17 := Lib.hid (hy16.out.on q17.out)
          have BW17 := Lib.hid (btr BW16.out q17.out)
          clear ha16 hb16 hx16 hy16 hu16 hs16 BW16 q17
          go_wp2_with fail
          refine (meet_lst hx17.out hy17.out (by omega) (by omega)).mono ?_
          rintro e V18 ⟨B18, d18, t18, rfl, hu18, q18⟩
          have ha18 := Lib.hid (ha17.out.on q18.out)
          have hb18 := Lib.hid (hb17.out.on q18.out)
          have hx18 := Lib.hid (hx17.out.on q18.out)
          have hy18 := Lib.hid (hy17.out.on q18.out)
          have BW18 := Lib.hid (btr BW17.out q18.out)
          clear ha17 hb17 hx17 hy17 BW17 q18
          go_wp2_with fail
          refine (rkept_any true ha18.out hb18.out (by omega) (by omega)).mono ?_
          rintro e V19 ⟨B19, d19, t19, rfl, hs19, q19⟩
          have ha19 := Lib.hid (ha18.out.on q19.out)
          have hb19 := Lib.hid (hb18.out.on q19.out)
          have hx19 := Lib.hid (hx18.out.on q19.out)
          have hy19 := Lib.hid (hy18.out.on q19.out)
          have hu19 := Lib.hid (hu18.out.on q19.out)
          have BW19 := Lib.hid (btr BW18.out q19.out)
          clear ha18 hb18 hx18 hy18 hu18 BW18 q19
          go_wp2_with fail
          refine (equal_lst hu19.out hs19.out F1.out.symm (by omega)).mono ?_
          rintro e V20 ⟨rfl, q20⟩
          have ha20 := Lib.hid (ha19.out.on q20.out)
          have hb20 := Lib.hid (hb19.out.on q20.out)
          have hx20 := Lib.hid (hx19.out.on q20.out)
          have hy20 := Lib.hid (hy19.out.on q20.out)
          have BW20 := Lib.hid (btr BW19.out q20.out)
          clear ha19 hb19 hx19 hy19 hu19 hs19 BW19 q20
          go_wp2_with fail
          refine (minus_lst hx20.out hy20.out (by omega) (by omega)).mono ?_
          rintro e V21 ⟨B21, d21, t21, rfl, hu21, q21⟩
          have ha21 := Lib.hid (ha20.out.on q21.out)
          have hb21 := Lib.hid (hb20.out.on q21.out)
          have hx21 := Lib.hid (hx20.out.on q21.out)
          have hy21 := Lib.hid (hy20.out.on q21.out)
          have BW21 := Lib.hid (btr BW20.out q21.out)
          clear ha20 hb20 hx20 hy20 BW20 q21
          go_wp2_with fail
          refine (rkept_any false ha21.out hb21.out (by omega) (by omega)).mono ?_
          rintro e V22 ⟨B22, d22, t22, rfl, hs22, q22⟩
          have ha22 := Lib.hid (ha21.out.on q22.out)
          have hb22 := Lib.hid (hb21.out.on q22.out)
          have hx22 := Lib.hid (hx21.out.on q22.out)
          have hy22 := Lib.hid (hy21.out.on q22.out)
          have hu22 := Lib.hid (hu21.out.on q22.out)
          have BW22 := Lib.hid (btr BW21.out q22.out)
          clear ha21 hb21 hx21 hy21 hu21 BW21 q22
          go_wp2_with fail
          refine (equal_lst hu22.out hs22.out F2.out.symm (by omega)).mono ?_
          rintro e V23 ⟨rfl, q23⟩
          have ha23 := Lib.hid (ha22.out.on q23.out)
          have hb23 := Lib.hid (hb22.out.on q23.out)
          have hx23 := Lib.hid (hx22.out.on q23.out)
          have hy23 := Lib.hid (hy22.out.on q23.out)
          have BW23 := Lib.hid (btr BW22.out q23.out)
          clear ha22 hb22 hx22 hy22 hu22 hs22 BW22 q23
          go_wp2_with fail
          refine (rsorted_lst' ha23.out (by omega)).mono ?_
          rintro e V24 ⟨B24, d24, t24, rfl, hu24, q24⟩
          have ha24 := Lib.hid (ha23.out.on q24.out)
          have hb24 := Lib.hid (hb23.out.on q24.out)
          have hx24 := Lib.hid (hx23.out.on q24.out)
          have hy24 := Lib.hid (hy23.out.on q24.out)
          have BW24 := Lib.hid (btr BW23.out q24.out)
          clear ha23 hb23 hx23 hy23 BW23 q24
          go_wp2_with fail
          refine (rsorted_lst' hb24.out (by omega)).mono ?_
          rintro e V25 ⟨B25, d25, t25, rfl, hv25, q25⟩
          have ha25 := Lib.hid (ha24.out.on q25.out)
          have hb25 := Lib.hid (hb24.out.on q25.out)
          have hx25 := Lib.hid (hx24.out.on q25.out)
          have hy25 := Lib.hid (hy24.out.on q25.out)
          have hu25 := Lib.hid (hu24.out.on q25.out)
          have BW25 := Lib.hid (btr BW24.out q25.out)
          clear ha24 hb24 hx24 hy24 hu24 BW24 q25
          go_wp2_with fail
          refine (equal_rs hu25.out hv25.out HRS.out (by omega) (by omega)).mono ?_
          rintro e V26 ⟨rfl, q26⟩
          have ha26 := Lib.hid (ha25.out.on q26.out)
          have hb26 := Lib.hid (hb25.out.on q26.out)
          have hx26 := Lib.hid (hx25.out.on q26.out)
          have hy26 := Lib.hid (hy25.out.on q26.out)
          have BW26 := Lib.hid (btr BW25.out q26.out)
          clear ha25 hb25 hx25 hy25 hu25 hv25 BW25 q26
          go_wp2_with fail
          refine (same_rs hx26.out hy26.out (by omega) (by omega) HRS.out).mono ?_
          rintro e V27 ⟨rfl, q27⟩
          have ha27 := Lib.hid (ha26.out.on q27.out)
          have hb27 := Lib.hid (hb26.out.on q27.out)
          have hx27 := Lib.hid (hx26.out.on q27.out)
          have hy27 := Lib.hid (hy26.out.on q27.out)
          have BW27 := Lib.hid (btr BW26.out q27.out)
          clear ha26 hb26 hx26 hy26 BW26 q27
          have ers : (rs == rs) = true := by simp
          go_wp2_with fail
          refine (equal_lst hx27.out ha27.out rfl (by omega)).mono ?_
          rintro e V28 ⟨rfl, q28⟩
          have ha28 := Lib.hid (ha27.out.on q28.out)
          have hb28 := Lib.hid (hb27.out.on q28.out)
          have hx28 := Lib.hid (hx27.out.on q28.out)
          have hy28 := Lib.hid (hy27.out.on q28.out)
          have BW28 := Lib.hid (btr BW27.out q28.out)
          clear ha27 hb27 hx27 hy27 BW27 q28
          go_wp2_with fail
          refine (equal_lst hy28.out hb28.out rfl (by omega)).mono ?_
          rintro e V29 ⟨rfl, q29⟩
          have ha29 := Lib.hid (ha28.out.on q29.out)
          have BW29 := Lib.hid (btr BW28.out q29.out)
          clear ha28 hb28 hx28 hy28 BW28 q29
          go_wp2_with fail
          refine (awake3_any _).mono ?_
          rintro e Z1 ⟨rfl, hb1⟩
          go_wp2
          go_ret
          exact ⟨rfl, Lib.hid (btr BW29.out hb1.out)⟩
end Go.Proofs.Ytadpbcbgmopfaaa
