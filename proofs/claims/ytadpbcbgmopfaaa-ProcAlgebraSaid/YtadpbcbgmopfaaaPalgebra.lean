/-
  The statement ProcAlgebra's walk: whatever three lists, it answers true, and leaves all that was there as it was. No condition but that the lists are lists.
-/
import Derived.Test.YtadpbcbgmopfaaaPlst
import Derived.Test.YtadpbcbgmopfaaaPawake
namespace Go.Proofs.Ytadpbcbgmopfaaa
set_option maxRecDepth 20000
open Go.RowKit

section
variable (a b c : List Life)
theorem alg1 : setL (setL (meetL a b ++ minusL a b)) = setL a := setL_congr fun p => by
  simp only [mem_setL, List.mem_append, mem_meetL, mem_minusL]
  by_cases h1 : p ∈ a <;> by_cases h2 : p ∈ b <;> simp [h1, h2]
theorem alg2 : meetL (meetL a b) (minusL a b) = [] := by
  apply List.eq_nil_iff_forall_not_mem.2
  intro p
  simp only [mem_meetL, mem_minusL]
  rintro ⟨⟨_, h1⟩, _, h2⟩
  exact h2 h1
theorem alg3 : setL (setL (a ++ b)) = setL (setL (b ++ a)) := setL_congr fun p => by
  simp only [mem_setL, List.mem_append]
  exact Or.comm
theorem alg4 : setL (setL (setL (a ++ b) ++ c)) = setL (setL (a ++ setL (b ++ c))) := setL_congr fun p => by
  simp only [mem_setL, List.mem_append]
  exact or_assoc
theorem alg5 : setL (meetL a (setL (b ++ c))) = setL (setL (meetL a b ++ meetL a c)) := setL_congr fun p => by
  simp only [mem_setL, List.mem_append, mem_meetL]
  exact and_or_left
theorem alg6 : setL (minusL a (setL (b ++ c))) = setL (minusL (minusL a b) c) := setL_congr fun p => by
  simp only [mem_setL, List.mem_append, mem_minusL]
  by_cases h1 : p ∈ a <;> by_cases h2 : p ∈ b <;> by_cases h3 : p ∈ c <;> simp [h1, h2, h3]
end
set_option maxHeartbeats 4000000 in
theorem algebra_walk (A1 A2 A3 : Option Addr) (a b d : List Life) (c1 c2 c3 : Nat) (w : World) (h1 : Lives w w.heap.size A1 a) (h2 : Lives w w.heap.size A2 b) (h3 : Lives w w.heap.size A3 d) (hA1 : A1 = none → c1 = 0) (hA2 : A2 = none → c2 = 0) (hA3 : A3 = none → c3 = 0) (m1 : a.length ≤ 9223372036854775807) (m2 : b.length ≤ 9223372036854775807) (m3 : d.length ≤ 9223372036854775807) :
    Calls Try.prog 12 #[.slice A1 a.length c1, .slice A2 b.length c2, .slice A3 d.length c3] w fun e w' => e = .returned (.bool true) ∧ Hid (Below w.heap.size w w') := by
  have ha0 := Lib.hid (show Lst w 9223372036854775807 A1 a.length c1 a from ⟨h1, rfl, m1, hA1⟩)
  have hb0 := Lib.hid (show Lst w 9223372036854775807 A2 b.length c2 b from ⟨h2, rfl, m2, hA2⟩)
  have hd0 := Lib.hid (show Lst w 9223372036854775807 A3 d.length c3 d from ⟨h3, rfl, m3, hA3⟩)
  have HH := Lib.hid (heavy_any (some ⟨w.heap.size, 0, none⟩) [a, b, d] 3 3 _ (lists_three ha0.out hb0.out hd0.out) rfl (by omega))
  have BW := Lib.hid ((Below.refl w.heap.size w).alloc (Nat.le_refl _) (.cells #[.slice A1 a.length c1, .slice A2 b.length c2, .slice A3 d.length c3] 74))
  clear h1 h2 h3 hA1 hA2 hA3
  have F1 := Lib.hid (alg1 a b)
  have F2 := Lib.hid (alg2 a b)
  have F3 := Lib.hid (alg3 a b)
  have F4 := Lib.hid (alg4 a b d)
  have F5 := Lib.hid (alg5 a b d)
  have F6 := Lib.hid (alg6 a b d)
  have HLa := Lib.hid (show heavyB [a, b, d] = false → a.length ≤ 300 from fun h => light_at h 0 (by simp))
  have HLb := Lib.hid (show heavyB [a, b, d] = false → b.length ≤ 300 from fun h => light_at h 1 (by simp))
  have HLd := Lib.hid (show heavyB [a, b, d] = false → d.length ≤ 300 from fun h => light_at h 2 (by simp))
  generalize hn1 : a.length = n1 at *
  generalize hn2 : b.length = n2 at *
  generalize hn3 : d.length = n3 at *
  clear hn1 hn2 hn3 m1 m2 m3
  go_enter Try.func12, Try.ntmps12
  go_wp2_with fail
  refine HH.out.mono ?_
  rintro e V0 ⟨rfl, rfl⟩
  clear HH
  cases hv : heavyB [a, b, d] with
  | true =>
    go_wp2_with fail
    refine (awake3_any _).mono ?_
    rintro e V1 ⟨rfl, hb1⟩
    go_wp2
    go_ret
    exact ⟨rfl, Lib.hid (btr BW.out hb1.out)⟩
  | false =>
    have ha := Lib.hid (show Lst _ 300 A1 n1 c1 a from ⟨(ha0.out.on BW.out).lives, ha0.out.len, HLa.out hv, ha0.out.cap⟩)
    have hb := Lib.hid (show Lst _ 300 A2 n2 c2 b from ⟨(hb0.out.on BW.out).lives, hb0.out.len, HLb.out hv, hb0.out.cap⟩)
    have hd := Lib.hid (show Lst _ 300 A3 n3 c3 d from ⟨(hd0.out.on BW.out).lives, hd0.out.len, HLd.out hv, hd0.out.cap⟩)
    clear hv HLa HLb HLd ha0 hb0 hd0
    go_wp2_with fail
    generalize w.alloc (.cells #[.slice A1 n1 c1, .slice A2 n2 c2, .slice A3 n3 c3] 74) = V at *
    refine (meet_lst ha.out hb.out (by omega) (by omega)).mono ?_
    rintro e V1 ⟨B1, d1, t1, rfl, hx1, q1⟩
    have ha1 := Lib.hid (ha.out.on q1.out)
    have hb1 := Lib.hid (hb.out.on q1.out)
    have hd1 := Lib.hid (hd.out.on q1.out)
    have BW1 := Lib.hid (btr BW.out q1.out)
    clear ha hb hd BW q1
    go_wp2_with fail
    refine (minus_lst ha1.out hb1.out (by omega) (by omega)).mono ?_
    rintro e V2 ⟨B2, d2, t2, rfl, hy2, q2⟩
    have ha2 := Lib.hid (ha1.out.on q2.out)
    have hb2 := Lib.hid (hb1.out.on q2.out)
    have hd2 := Lib.hid (hd1.out.on q2.out)
    have hx2 := Lib.hid (hx1.out.on q2.out)
    have BW2 := Lib.hid (btr BW1.out q2.out)
    clear ha1 hb1 hd1 hx1 BW1 q2
    go_wp2_with fail
    refine (union_lst hx2.out hy2.out (by omega)).mono ?_
    rintro e V3 ⟨B3, d3, t3, rfl, hu3, q3⟩
    have ha3 := Lib.hid (ha2.out.on q3.out)
    have hb3 := Lib.hid (hb2.out.on q3.out)
    have hd3 := Lib.hid (hd2.out.on q3.out)
    have hx3 := Lib.hid (hx2.out.on q3.out)
    have hy3 := Lib.hid (hy2.out.on q3.out)
    have BW3 := Lib.hid (btr BW2.out q3.out)
    clear ha2 hb2 hd2 hx2 hy2 BW2 q3
    go_wp2_with fail
    refine (same_true hu3.out ha3.out (by omega) (by omega) F1.out).mono ?_
    rintro e V4 ⟨rfl, q4⟩
    have ha4 := Lib.hid (ha3.out.on q4.out)
    have hb4 := Lib.hid (hb3.out.on q4.out)
    have hd4 := Lib.hid (hd3.out.on q4.out)
    have hx4 := Lib.hid (hx3.out.on q4.out)
    have hy4 := Lib.hid (hy3.out.on q4.out)
    have BW4 := Lib.hid (btr BW3.out q4.out)
    clear ha3 hb3 hd3 hx3 hy3 hu3 BW3 q4
    go_wp2_with fail
    refine (meet_lst hx4.out hy4.out (by omega) (by omega)).mono ?_
    rintro e V5 ⟨B5, d5, t5, rfl, hz5, q5⟩
    have ha5 := Lib.hid (ha4.out.on q5.out)
    have hb5 := Lib.hid (hb4.out.on q5.out)
    have hd5 := Lib.hid (hd4.out.on q5.out)
    have BW5 := Lib.hid (btr BW4.out q5.out)
    clear ha4 hb4 hd4 hx4 hy4 BW4 q5
    obtain rfl : t5 = 0 := by have := hz5.out.len; rw [F2.out] at this; simpa using this.symm
    clear hz5
    go_wp2_with fail
    refine (union_lst ha5.out hb5.out (by omega)).mono ?_
    rintro e V6 ⟨B6, d6, t6, rfl, hu6, q6⟩
    have ha6 := Lib.hid (ha5.out.on q6.out)
    have hb6 := Lib.hid (hb5.out.on q6.out)
    have hd6 := Lib.hid (hd5.out.on q6.out)
    have BW6 := Lib.hid (btr BW5.out q6.out)
    clear ha5 hb5 hd5 BW5 q6
    go_wp2_with fail
    refine (union_lst hb6.out ha6.out (by omega)).mono ?_
    rintro e V7 ⟨B7, d7, t7, rfl, hv7, q7⟩
    have ha7 := Lib.hid (ha6.out.on q7.out)
    have hb7 := Lib.hid (hb6.out.on q7.out)
    have hd7 := Lib.hid (hd6.out.on q7.out)
    have hu7 := Lib.hid (hu6.out.on q7.out)
    have BW7 := Lib.hid (btr BW6.out q7.out)
    clear ha6 hb6 hd6 hu6 BW6 q7
    go_wp2_with fail
    refine (same_true hu7.out hv7.out (by omega) (by omega) F3.out).mono ?_
    rintro e V8 ⟨rfl, q8⟩
    have ha8 := Lib.hid (ha7.out.on q8.out)
    have hb8 := Lib.hid (hb7.out.on q8.out)
    have hd8 := Lib.hid (hd7.out.on q8.out)
    have BW8 := Lib.hid (btr BW7.out q8.out)
    clear ha7 hb7 hd7 hu7 hv7 BW7 q8
    go_wp2_with fail
    refine (union_lst ha8.out hb8.out (by omega)).mono ?_
    rintro e V9 ⟨B9, d9, t9, rfl, hu9, q9⟩
    have ha9 := Lib.hid (ha8.out.on q9.out)
    have hb9 := Lib.hid (hb8.out.on q9.out)
    have hd9 := Lib.hid (hd8.out.on q9.out)
    have BW9 := Lib.hid (btr BW8.out q9.out)
    clear ha8 hb8 hd8 BW8 q9
    go_wp2_with fail
    refine (union_lst hu9.out hd9.out (by omega)).mono ?_
    rintro e V10 ⟨B10, d10, t10, rfl, hv10, q10⟩
    have ha10 := Lib.hid (ha9.out.on q10.out)
    have hb10 := Lib.hid (hb9.out.on q10.out)
    have hd10 := Lib.hid (hd9.out.on q10.out)
    have BW10 := Lib.hid (btr BW9.out q10.out)
    clear ha9 hb9 hd9 hu9 BW9 q10
    go_wp2_with fail
    refine (union_lst hb10.out hd10.out (by omega)).mono ?_
    rintro e V11 ⟨B11, d11, t11, rfl, hu11, q11⟩
    have ha11 := Lib.hid (ha10.out.on q11.out)
    have hb11 := Lib.hid (hb10.out.on q11.out)
    have hd11 := Lib.hid (hd10.out.on q11.out)
    have hv11 := Lib.hid (hv10.out.on q11.out)
    have BW11 := Lib.hid (btr BW10.out q11.out)
    clear ha10 hb10 hd10 hv10 BW10 q11
    go_wp2_with fail
    refine (union_lst ha11.out hu11.out (by omega)).mono ?_
    rintro e V12 ⟨B12, d12, t12, rfl, hx12, q12⟩
    have ha12 := Lib.hid (ha11.out.on q12.out)
    have hb12 := Lib.hid (hb11.out.on q12.out)
    have hd12 := Lib.hid (hd11.out.on q12.out)
    have hv12 := Lib.hid (hv11.out.on q12.out)
    have BW12 := Lib.hid (btr BW11.out q12.out)
    clear ha11 hb11 hd11 hv11 hu11 BW11 q12
    go_wp2_with fail
    refine (same_true hv12.out hx12.out (by omega) (by omega) F4.out).mono ?_
    rintro e V13 ⟨rfl, q13⟩
    have ha13 := Lib.hid (ha12.out.on q13.out)
    have hb13 := Lib.hid (hb12.out.on q13.out)
    have hd13 := Lib.hid (hd12.out.on q13.out)
    have BW13 := Lib.hid (btr BW12.out q13.out)
    clear ha12 hb12 hd12 hv12 hx12 BW12 q13
    go_wp2_with fail
    refine (union_lst hb13.out hd13.out (by omega)).mono ?_
    rintro e V14 ⟨B14, d14, t14, rfl, hu14, q14⟩
    have ha14 := Lib.hid (ha13.out.on q14.out)
    have hb14 := Lib.hid (hb13.out.on q14.out)
    have hd14 := Lib.hid (hd13.out.on q14.out)
    have BW14 := Lib.hid (btr BW13.out q14.out)
    clear ha13 hb13 hd13 BW13 q14
    go_wp2_with fail
    refine (meet_lst ha14.out hu14.out (by omega) (by omega)).mono ?_
    rintro e V15 ⟨B15, d15, t15, rfl, hz15, q15⟩
    have ha15 := Lib.hid (ha14.out.on q15.out)
    have hb15 := Lib.hid (hb14.out.on q15.out)
    have hd15 := Lib.hid (hd14.out.on q15.out)
    have BW15 := Lib.hid (btr BW14.out q15.out)
    clear ha14 hb14 hd14 hu14 BW14 q15
    go_wp2_with fail
    refine (meet_lst ha15.out hb15.out (by omega) (by omega)).mono ?_
    rintro e V16 ⟨B16, d16, t16, rfl, hx16, q16⟩
    have ha16 := Lib.hid (ha15.out.on q16.out)
    have hb16 := Lib.hid (hb15.out.on q16.out)
    have hd16 := Lib.hid (hd15.out.on q16.out)
    have hz16 := Lib.hid (hz15.out.on q16.out)
    have BW16 := Lib.hid (btr BW15.out q16.out)
    clear ha15 hb15 hd15 hz15 BW15 q16
    go_wp2_with fail
    refine (meet_lst ha16.out hd16.out (by omega) (by omega)).mono ?_
    rintro e V17 ⟨B17, d17, t17, rfl, hy17, q17⟩
    have ha17 := Lib.hid (ha16.out.on q17.out)
    have hb17 := Lib.hid (hb16.out.on q17.out)
    have hd17 := Lib.hid (hd16.out.on q17.out)
    have hz17 := Lib.hid (hz16.out.on q17.out)
    have hx17 := Lib.hid (hx16.out.on q17.out)
    have BW17 := Lib.hid (btr BW16.out q17.out)
    clear ha16 hb16 hd16 hz16 hx16 BW16 q17
    go_wp2_with fail
    refine (union_lst hx17.out hy17.out (by omega)).mono ?_
    rintro e V18 ⟨B18, d18, t18, rfl, hu18, q18⟩
    have ha18 := Lib.hid (ha17.out.on q18.out)
    have hb18 := Lib.hid (hb17.out.on q18.out)
    have hd18 := Lib.hid (hd17.out.on q18.out)
    have hz18 := Lib.hid (hz17.out.on q18.out)
    have BW18 := Lib.hid (btr BW17.out q18.out)
    clear ha17 hb17 hd17 hz17 hx17 hy17 BW17 q18
    go_wp2_with fail
    refine (same_true hz18.out hu18.out (by omega) (by omega) F5.out).mono ?_
    rintro e V19 ⟨rfl, q19⟩
    have ha19 := Lib.hid (ha18.out.on q19.out)
    have hb19 := Lib.hid (hb18.out.on q19.out)
    have hd19 := Lib.hid (hd18.out.on q19.out)
    have BW19 := Lib.hid (btr BW18.out q19.out)
    clear ha18 hb18 hd18 hz18 hu18 BW18 q19
    go_wp2_with fail
    refine (union_lst hb19.out hd19.out (by omega)).mono ?_
    rintro e V20 ⟨B20, d20, t20, rfl, hu20, q20⟩
    have ha20 := Lib.hid (ha19.out.on q20.out)
    have hb20 := Lib.hid (hb19.out.on q20.out)
    have hd20 := Lib.hid (hd19.out.on q20.out)
    have BW20 := Lib.hid (btr BW19.out q20.out)
    clear ha19 hb19 hd19 BW19 q20
    go_wp2_with fail
    refine (minus_lst ha20.out hu20.out (by omega) (by omega)).mono ?_
    rintro e V21 ⟨B21, d21, t21, rfl, hx21, q21⟩
    have ha21 := Lib.hid (ha20.out.on q21.out)
    have hb21 := Lib.hid (hb20.out.on q21.out)
    have hd21 := Lib.hid (hd20.out.on q21.out)
    have BW21 := Lib.hid (btr BW20.out q21.out)
    clear ha20 hb20 hd20 hu20 BW20 q21
    go_wp2_with fail
    refine (minus_lst ha21.out hb21.out (by omega) (by omega)).mono ?_
    rintro e V22 ⟨B22, d22, t22, rfl, hy22, q22⟩
    have ha22 := Lib.hid (ha21.out.on q22.out)
    have hb22 := Lib.hid (hb21.out.on q22.out)
    have hd22 := Lib.hid (hd21.out.on q22.out)
    have hx22 := Lib.hid (hx21.out.on q22.out)
    have BW22 := Lib.hid (btr BW21.out q22.out)
    clear ha21 hb21 hd21 hx21 BW21 q22
    go_wp2_with fail
    refine (minus_lst hy22.out hd22.out (by omega) (by omega)).mono ?_
    rintro e V23 ⟨B23, d23, t23, rfl, hz23, q23⟩
    have ha23 := Lib.hid (ha22.out.on q23.out)
    have hb23 := Lib.hid (hb22.out.on q23.out)
    have hd23 := Lib.hid (hd22.out.on q23.out)
    have hx23 := Lib.hid (hx22.out.on q23.out)
    have BW23 := Lib.hid (btr BW22.out q23.out)
    clear ha22 hb22 hd22 hx22 hy22 BW22 q23
    go_wp2_with fail
    refine (same_true hx23.out hz23.out (by omega) (by omega) F6.out).mono ?_
    rintro e V24 ⟨rfl, q24⟩
    have ha24 := Lib.hid (ha23.out.on q24.out)
    have BW24 := Lib.hid (btr BW23.out q24.out)
    clear ha23 hb23 hd23 hx23 hz23 BW23 q24
    go_wp2_with fail
    refine (awake3_any _).mono ?_
    rintro e Z1 ⟨rfl, hb1⟩
    go_wp2
    go_ret
    exact ⟨rfl, Lib.hid (btr BW24.out hb1.out)⟩
end Go.Proofs.Ytadpbcbgmopfaaa
