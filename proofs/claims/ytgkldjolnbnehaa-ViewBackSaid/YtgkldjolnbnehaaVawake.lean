/-
  The chapter's own example, as the statements of layer 4 ask it: it answers true. No condition.
-/
import Derived.Test.YtgkldjolnbnehaaGe
import Derived.Test.YtgkldjolnbnehaaGa
namespace Go.Proofs.Ytgkldjolnbnehaa
set_option maxRecDepth 20000
open Go.RowKit

theorem sh3 : shortL 3 = [3] := by rw [shortL_last (by decide)]; rfl
theorem sh4 : shortL 4 = [4] := by rw [shortL_last (by decide)]; rfl
theorem sh9 : shortL 9 = [9] := by rw [shortL_last (by decide)]; rfl
def exV : List UInt8 := [3, 1, 1, 2, 5, 2, 6, 1, 4, 9]
theorem ex_view : viewL ⟨fewI, fewM, fewS⟩ = exV := by
  have e1 : idL fewI = shortL 3 ++ (wideL 1 1 ++ shortL 1) := rfl
  have e2 : putsL fewM = (wideL 5 1 ++ shortL 2) ++ ((wideL 6 1 ++ shortL 1) ++ []) := rfl
  have e3 : shortsL fewS = shortL 4 ++ (shortL 9 ++ []) := rfl
  unfold viewL
  simp only
  rw [e1, e2, e3, sh3, sh1, sh2, sh4, sh9]
  rfl
theorem ex_u : UNm fewI := ⟨⟨by decide, by decide⟩, ⟨by decide, by decide⟩⟩
theorem ex_vmay : mayV ⟨fewI, fewM, fewS⟩ := by decide +kernel
theorem ex_st : stL fewM fewS (6, 1) = 9 := by decide +kernel
theorem ex_has : hasL fewM fewS (6, 1) = true := by decide +kernel
set_option maxHeartbeats 2000000 in
theorem awake4_any (w : World) : Calls Try.prog 10 #[] w fun e w' => e = .returned (.bool true) ∧ Hid (Below w.heap.size w w') := by
  have HMy := Lib.hid (fun (W : World) A A' (hv : Vm W 2 A 2 2 A' 2 2 fewM fewS) => vmay_any fewI (by decide) A 2 2 A' 2 2 fewM fewS W hv (by omega))
  rw [decide_eq_true ex_vmay] at HMy
  have HSt := Lib.hid (fun (W : World) A A' (hv : Vm W 2 A 2 2 A' 2 2 fewM fewS) => start_any fewI A 2 2 A' 2 2 fewM fewS (6, 1) W hv (by omega))
  rw [ex_st, ex_has] at HSt
  go_enter Try.func10, Try.ntmps10
  go_wp2_with fail
  refine (wnew_any w).mono ?_
  rintro e W1 ⟨rfl, hW, hb, hz⟩
  have R1 := Lib.hid hW
  have B1 := Lib.hid hb
  clear hW hb hz
  go_wp2_with fail
  refine (few_any W1).mono ?_
  rintro e W2 ⟨A2, A2', rfl, hv2, hb2, hn2⟩
  have R2 := Lib.hid (R1.out.on hb2.out)
  have B2 := Lib.hid (btr B1.out hb2.out)
  have O2 := Lib.hid (fun b e => R1.out.off (b := b) (hn2.out b e))
  clear R1 B1 hb2 hn2
  go_wp2_with fail
  refine (vput_any w.heap.size none [] fewI ex_u A2 2 2 A2' 2 2 fewM fewS W2 R2.out hv2.out (by omega) (fun _ b e => O2.out b (.inl e)) (fun _ b e => O2.out b (.inr e)) (by simp)).mono ?_
  rintro e W3 ⟨rfl, h3⟩
  rw [ex_view] at h3
  obtain ⟨g3, q1, q2, q3⟩ := h3
  rw [List.nil_append] at q1
  have R3 := Lib.hid q1
  have B3 := Lib.hid (show Below w.heap.size w W3 from q3.below B2.out (fun k e => by rcases e with e | e; omega; cases e) B2.out.size)
  clear q1 q2 q3 R2 B2 O2 hv2
  go_wp2_with fail
  refine (few_any W3).mono ?_
  rintro e W4 ⟨A4, A4', rfl, hv4, hb4, -⟩
  have R4 := Lib.hid (R3.out.on hb4.out)
  have B4 := Lib.hid (btr B3.out hb4.out)
  clear R3 B3 hb4
  go_wp2_with fail
  refine (HSt.out W4 A4 A4' hv4.out).mono ?_
  rintro e W5 ⟨rfl, hb5⟩
  have R5 := Lib.hid (R4.out.on hb5.out)
  have B5 := Lib.hid (btr B4.out hb5.out)
  clear R4 B4 hb5 hv4
  go_wp2_with fail
  refine (few_any W5).mono ?_
  rintro e W6 ⟨A6, A6', rfl, hv6, hb6, -⟩
  have R6 := Lib.hid (R5.out.on hb6.out)
  have B6 := Lib.hid (btr B5.out hb6.out)
  clear R5 B5 hb6
  go_wp2_with fail
  refine (HMy.out W6 A6 A6' hv6.out).mono ?_
  rintro e W7 ⟨rfl, hb7⟩
  have R7 := Lib.hid (R6.out.on hb7.out)
  have B7 := Lib.hid (btr B6.out hb7.out)
  clear R6 B6 hb7 hv6
  go_wp2_with fail
  refine (wbytes_any w.heap.size g3 _ W7 R7.out (by decide)).mono ?_
  rintro e W8 ⟨A8, c8, rfl, ho, hb8⟩
  have B8 := Lib.hid (btr B7.out hb8.out)
  have cs : Sem.run Try.prog (convert 45 9 (.slice A8 exV.length c8)) W8 = .ok (.string ⟨#[3, 1, 1, 2, 5, 2, 6, 1, 4, 9]⟩) W8 := conv_str c8 ho.out.bytes rfl
  clear R7 B7 hb8 ho
  go_wp2
  go_ret
  exact ⟨rfl, B8⟩
end Go.Proofs.Ytgkldjolnbnehaa
