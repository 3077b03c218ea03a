/-
  What a Reader's calls answer, and what they leave: the document's, whatever the bytes. For at most 2^46 bytes.
-/
import Derived.Test.YtadpbcbgmopfaaaShort
import Derived.Test.YtadpbcbgmopfaaaWrs
namespace Go.Proofs.Ytadpbcbgmopfaaa
open Go.RowKit

/-- A call that answers v and leaves the Reader so; only the Reader's own struct has turned. -/
def RdE (T : TypeId) (w : World) (q : Nat) (d : Option Nat) (v : Value) (s : RS) (e : Ending) (w' : World) : Prop :=
  e = .returned v ∧ Hid (Rd T w' q d s.l s.bad) ∧ Hid (Only (fun k => k = q) w w')
theorem only_trans {S : Nat → Prop} {a b c : World} (h : Only S a b) (k : Only S b c) : Only S a c := h.trans k fun _ _ h => h

/-! End -/
set_option maxHeartbeats 400000 in
theorem end_any (q : Nat) (d : Option Nat) (s : RS) (w : World) (h : Rd RdT w q d s.l s.bad) :
    Calls Try.prog 32 #[.pointer (some ⟨q, 0, none⟩)] w (RdE RdT w q d (.int .i64 (errOf (rEnd s).bad)) (rEnd s)) := by
  have H := Lib.hid h
  have HL := Lib.hid (left_any q d s.l s.bad s.l.length w h rfl)
  clear h
  by_cases hl : s.l = []
  · have hb : rEnd s = s := by
      obtain ⟨l, b⟩ := s
      simp only at hl
      subst hl
      simp [rEnd]
    rw [hb]
    have h0 : s.l.length = 0 := by rw [hl]; rfl
    rw [h0] at HL
    cases hbad : s.bad with
    | true =>
      have HE := Lib.hid (err_bad q d s.l w (by have := H.out; rwa [hbad] at this))
      have HB := Lib.hid hbad
      clear hbad h0 hb hl
      go_enter Try.func32, Try.ntmps32
      go_wp2_with fail
      refine HL.out.mono ?_
      rintro e w1 ⟨rfl, rfl⟩
      go_wp2_with fail
      refine HE.out.mono ?_
      rintro e w1 ⟨rfl, rfl⟩
      go_wp2
      go_ret
      exact ⟨rfl, H, Only.refl _ _⟩
    | false =>
      have HE := Lib.hid (err_ok q d s.l w (by have := H.out; rwa [hbad] at this))
      have HB := Lib.hid hbad
      clear hbad h0 hb hl
      go_enter Try.func32, Try.ntmps32
      go_wp2_with fail
      refine HL.out.mono ?_
      rintro e w1 ⟨rfl, rfl⟩
      go_wp2_with fail
      refine HE.out.mono ?_
      rintro e w1 ⟨rfl, rfl⟩
      go_wp2
      go_ret
      exact ⟨rfl, H, Only.refl _ _⟩
  · have hb : (rEnd s) = ⟨s.l, true⟩ := by
      obtain ⟨l, b⟩ := s
      simp only at hl
      simp [rEnd, hl]
    rw [hb]
    have h0 : 0 < s.l.length := List.length_pos_iff.2 hl
    have HF := Lib.hid (fail_any q d s.l s.bad w H.out)
    clear hb hl
    generalize s.l.length = n at *
    have h1 : (0 : Int) < (n : Int) := by omega
    go_enter Try.func32, Try.ntmps32
    go_wp2_with fail
    refine HL.out.mono ?_
    rintro e w1 ⟨rfl, rfl⟩
    go_wp2_with fail
    refine HF.out.mono ?_
    rintro e w1 ⟨rfl, h2, h3⟩
    go_wp2_with fail
    refine (err_bad q d s.l w1 h2.out).mono ?_
    rintro e w2 ⟨rfl, rfl⟩
    go_wp2
    go_ret
    exact ⟨rfl, h2, h3⟩

/-! Raw -/
def RawE (w : World) (q : Nat) (d : Option Nat) (s : RS) (n : Int) (e : Ending) (w' : World) : Prop :=
  ∃ A cap, e = .returned (.slice A (rRaw s n).1.length cap) ∧ Hid (Rd RdT w' q d (rRaw s n).2.l (rRaw s n).2.bad) ∧ Hid (Bts w' A cap (rRaw s n).1) ∧ Hid (A = none ∨ blockOf A = d) ∧ Hid (Only (fun k => k = q) w w')
set_option maxHeartbeats 400000 in
theorem raw_any (q : Nat) (d : Option Nat) (s : RS) (n : Int) (w : World) (h : Rd RdT w q d s.l s.bad) :
    Calls Try.prog 31 #[.pointer (some ⟨q, 0, none⟩), .int .i64 n] w (RawE w q d s n) := by
  have H := Lib.hid h
  clear h
  cases hbad : s.bad with
  | true =>
    have HR := Lib.hid (show rRaw s n = ([], ⟨s.l, true⟩) from if_pos (.inl hbad))
    rw [hbad] at H
    have HE := Lib.hid (err_bad q d s.l w H.out)
    clear hbad
    go_enter Try.func31, Try.ntmps31
    go_wp2_with fail
    refine HE.out.mono ?_
    rintro e w1 ⟨rfl, rfl⟩
    go_wp2
    go_ret
    refine ⟨none, 0, by rw [HR.out]; rfl, by rw [HR.out]; exact H, by rw [HR.out]; exact Lib.hid ⟨by simp, by simp, .inl ⟨rfl, rfl⟩⟩, Lib.hid (.inl rfl), Only.refl _ _⟩
  | false =>
    rw [hbad] at H
    have HE := Lib.hid (err_ok q d s.l w H.out)
    by_cases hn : n < 0 ∨ (s.l.length : Int) < n
    · have HR := Lib.hid (show rRaw s n = ([], ⟨s.l, true⟩) from if_pos (.inr hn))
      have HT := Lib.hid (take_no q d s.l false n w H.out hn)
      clear hbad hn
      go_enter Try.func31, Try.ntmps31
      go_wp2_with fail
      refine HE.out.mono ?_
      rintro e w1 ⟨rfl, rfl⟩
      go_wp2_with fail
      refine HT.out.mono ?_
      rintro e w1 ⟨rfl, h2, h3⟩
      go_wp2
      go_ret
      exact ⟨none, 0, by rw [HR.out]; rfl, by rw [HR.out]; exact h2, by rw [HR.out]; exact Lib.hid ⟨by simp, by simp, .inl ⟨rfl, rfl⟩⟩, Lib.hid (.inl rfl), h3⟩
    · have HR := Lib.hid (show rRaw s n = (s.l.take n.toNat, ⟨s.l.drop n.toNat, false⟩) from if_neg (by rw [hbad]; simpa using hn))
      obtain ⟨k, rfl⟩ : ∃ k : Nat, n = k := ⟨n.toNat, by omega⟩
      have HT := Lib.hid (take_ok q d s.l false k w H.out (by omega))
      have HM := Lib.hid (show (s.l.take k).length = k by rw [List.length_take]; omega)
      clear hbad hn
      go_enter Try.func31, Try.ntmps31
      go_wp2_with fail
      refine HE.out.mono ?_
      rintro e w1 ⟨rfl, rfl⟩
      go_wp2_with fail
      refine HT.out.mono ?_
      rintro e w1 ⟨A, rfl, h2, h3, h4, h5⟩
      go_wp2
      go_ret
      exact ⟨A, k, by rw [HR.out]; simp only [Int.toNat_natCast, HM.out]; rfl, by rw [HR.out]; exact h2, by rw [HR.out]; exact h3, Lib.hid (.inr h4.out), h5⟩

/-! Uint -/
set_option maxHeartbeats 400000 in
theorem uint_any (q : Nat) (d : Option Nat) (s : RS) (w : World) (h : Rd RdT w q d s.l s.bad) (hr : s.l.length ≤ 70368744177664) :
    Calls Try.prog 34 #[.pointer (some ⟨q, 0, none⟩)] w (RdE RdT w q d (.int .u64 ((rUint s).1 : Nat)) (rUint s).2) := by
  have H := Lib.hid h
  clear h
  cases hbad : s.bad with
  | true =>
    have HR := Lib.hid (show rUint s = (0, ⟨s.l, true⟩) from if_pos (.inl hbad))
    rw [hbad] at H
    have HE := Lib.hid (err_bad q d s.l w H.out)
    clear hbad
    go_enter Try.func34, Try.ntmps34
    go_wp2_with fail
    refine HE.out.mono ?_
    rintro e w1 ⟨rfl, rfl⟩
    go_wp2
    go_ret
    exact ⟨by rw [HR.out]; rfl, by rw [HR.out]; exact H, Only.refl _ _⟩
  | false =>
    rw [hbad] at H
    have HE := Lib.hid (err_ok q d s.l w H.out)
    have HS := Lib.hid (short_any q d s.l false w H.out hr)
    by_cases hn : (parse s.l).2 = 0
    · have HR := Lib.hid (show rUint s = (0, ⟨s.l, true⟩) from if_pos (.inr hn))
      have HT := Lib.hid (fail_any q d s.l false w H.out)
      rw [hn] at HS
      generalize (parse s.l).1 = x at *
      clear hbad hn
      go_enter Try.func34, Try.ntmps34
      go_wp2_with fail
      refine HE.out.mono ?_
      rintro e w1 ⟨rfl, rfl⟩
      go_wp2_with fail
      refine HS.out.mono ?_
      rintro e w1 ⟨rfl, rfl⟩
      go_wp2_with fail
      refine HT.out.mono ?_
      rintro e w1 ⟨rfl, h2, h3⟩
      go_wp2
      go_ret
      exact ⟨by rw [HR.out]; rfl, by rw [HR.out]; exact h2, h3⟩
    · have HR := Lib.hid (show rUint s = ((parse s.l).1, ⟨s.l.drop (parse s.l).2, false⟩) from if_neg (by rw [hbad]; simpa using hn))
      have HT := Lib.hid (take_ok q d s.l false (parse s.l).2 w H.out (parse_le _))
      generalize (parse s.l).1 = x at *
      generalize (parse s.l).2 = n at *
      have hn' : ¬ (n : Int) = 0 := by omega
      clear hbad hn
      go_enter Try.func34, Try.ntmps34
      go_wp2_with fail
      refine HE.out.mono ?_
      rintro e w1 ⟨rfl, rfl⟩
      go_wp2_with fail
      refine HS.out.mono ?_
      rintro e w1 ⟨rfl, rfl⟩
      go_wp2_with fail
      refine HT.out.mono ?_
      rintro e w1 ⟨A, rfl, h2, h3, h4, h5⟩
      go_wp2
      go_ret
      exact ⟨by rw [HR.out]; rfl, by rw [HR.out]; exact h2, h5⟩

/-! Text -/
def TextE (w : World) (q : Nat) (d : Option Nat) (s : RS) (m : Int) (e : Ending) (w' : World) : Prop :=
  e = .returned (.string ⟨(rText s m).1.toArray⟩) ∧ Hid (Rd RdT w' q d (rText s m).2.l (rText s m).2.bad) ∧ Hid (Only (fun k => k = q) w w')
theorem text_fault {w w' : World} {q : Nat} {d : Option Nat} {s : RS} {m : Int} (h : rText s m = ([], ⟨s.l, true⟩)) (h1 : Hid (Rd RdT w' q d s.l true)) (h2 : Hid (Only (fun k => k = q) w w')) : TextE w q d s m (.returned (.string ⟨#[]⟩)) w' :=
  ⟨by rw [h], by rw [h]; exact h1, h2⟩
theorem text_conv (A : Option Addr) (l : List UInt8) (n x : Nat) (hl : n + x ≤ l.length) (w : World) (h : Bts w A (n + x) (l.take (n + x))) :
    Sem.run Try.prog (convert 27 9 (.slice (if n + x = n then A else A.map (fun a => a.add n)) x x)) w = .ok (.string ⟨((l.drop n).take x).toArray⟩) w := by
  have h1 := (h.back n (by rw [List.length_take]; omega)).bytes
  have e : (l.take (n + x)).drop n = (l.drop n).take x := by rw [List.drop_take, Nat.add_sub_cancel_left]
  rw [e] at h1
  exact conv_str x h1 (by rw [List.length_take, List.length_drop]; omega)
set_option maxHeartbeats 800000 in
theorem text_any (q : Nat) (d : Option Nat) (s : RS) (m : Int) (w : World) (hm1 : -9223372036854775808 ≤ m) (hm2 : m ≤ 9223372036854775807) (h : Rd RdT w q d s.l s.bad) (hr : s.l.length ≤ 70368744177664) :
    Calls Try.prog 35 #[.pointer (some ⟨q, 0, none⟩), .int .i64 m] w (TextE w q d s m) := by
  have H := Lib.hid h
  have HM1 := Lib.hid hm1
  have HM2 := Lib.hid hm2
  clear h hm1 hm2
  cases hbad : s.bad with
  | true =>
    have HR := Lib.hid (show rText s m = ([], ⟨s.l, true⟩) from if_pos (.inl hbad))
    rw [hbad] at H
    have HE := Lib.hid (err_bad q d s.l w H.out)
    clear hbad
    go_enter Try.func35, Try.ntmps35
    go_wp2_with fail
    refine HE.out.mono ?_
    rintro e w1 ⟨rfl, rfl⟩
    go_wp2
    go_ret
    exact text_fault HR.out H (Only.refl _ _)
  | false =>
    rw [hbad] at H
    have HE := Lib.hid (err_ok q d s.l w H.out)
    have HS := Lib.hid (short_any q d s.l false w H.out hr)
    have HF := Lib.hid (fail_any q d s.l false w H.out)
    have HLe := Lib.hid (left_any q d s.l false s.l.length w H.out rfl)
    have HXL := Lib.hid (parse_lt s.l)
    have hng := parse_le s.l
    have HR0 : Hid (((parse s.l).2 = 0 ∨ m < 0 ∨ m < ((parse s.l).1 : Int) ∨ s.l.length < (parse s.l).2 + (parse s.l).1) → rText s m = ([], ⟨s.l, true⟩)) := Lib.hid fun hh => if_pos (.inr hh)
    have HR1 : Hid (¬ ((parse s.l).2 = 0 ∨ m < 0 ∨ m < ((parse s.l).1 : Int) ∨ s.l.length < (parse s.l).2 + (parse s.l).1) → rText s m = ((s.l.drop (parse s.l).2).take (parse s.l).1, ⟨s.l.drop ((parse s.l).2 + (parse s.l).1), false⟩)) := Lib.hid fun hh => if_neg (by rw [hbad]; simpa using hh)
    have HTK := Lib.hid (fun hh => take_ok q d s.l false ((parse s.l).2 + (parse s.l).1) w H.out hh)
    generalize (parse s.l).1 = x at *
    generalize (parse s.l).2 = n at *
    generalize hln : s.l.length = len at *
    have HLN := Lib.hid hln
    clear hbad hln
    by_cases h0 : n = 0
    · have HR := Lib.hid (HR0.out (.inl h0))
      subst h0
      rw [show ((0 : Nat) : Int) = 0 from rfl] at HS
      clear HR0 HR1 HTK
      go_enter Try.func35, Try.ntmps35
      go_wp2_with fail
      refine HE.out.mono ?_
      rintro e w1 ⟨rfl, rfl⟩
      go_wp2_with fail
      refine HS.out.mono ?_
      rintro e w1 ⟨rfl, rfl⟩
      go_wp2_with fail
      refine HF.out.mono ?_
      rintro e w1 ⟨rfl, h2, h3⟩
      go_wp2
      go_ret
      exact text_fault HR.out h2 h3
    · have h0' : ¬ (n : Int) = 0 := by omega
      by_cases h1 : m < 0
      · have HR := Lib.hid (HR0.out (.inr (.inl h1)))
        clear HR0 HR1 HTK h0
        go_enter Try.func35, Try.ntmps35
        go_wp2_with fail
        refine HE.out.mono ?_
        rintro e w1 ⟨rfl, rfl⟩
        go_wp2_with fail
        refine HS.out.mono ?_
        rintro e w1 ⟨rfl, rfl⟩
        go_wp2_with fail
        refine HF.out.mono ?_
        rintro e w1 ⟨rfl, h2, h3⟩
        go_wp2
        go_ret
        exact text_fault HR.out h2 h3
      · have h1' : (0 : Int) ≤ m := by omega
        have em : IntKind.u64.wrap m = m := IntWalk.u64_in _ ⟨h1', by have := HM2.out; omega⟩
        by_cases h2 : m < (x : Int)
        · have HR := Lib.hid (HR0.out (.inr (.inr (.inl h2))))
          clear HR0 HR1 HTK h0
          go_enter Try.func35, Try.ntmps35
          go_wp2_with fail
          refine HE.out.mono ?_
          rintro e w1 ⟨rfl, rfl⟩
          go_wp2_with fail
          refine HS.out.mono ?_
          rintro e w1 ⟨rfl, rfl⟩
          go_wp2_with fail
          refine HF.out.mono ?_
          rintro e w1 ⟨rfl, h3, h4⟩
          go_wp2
          go_ret
          exact text_fault HR.out h3 h4
        · have es : IntKind.u64.wrap ((len : Int) - (n : Int)) = (len : Int) - (n : Int) := IntWalk.u64_in _ (by omega)
          by_cases h3 : len < n + x
          · have HR := Lib.hid (HR0.out (.inr (.inr (.inr h3))))
            have h3' : (len : Int) - (n : Int) < (x : Int) := by omega
            clear HR0 HR1 HTK h0 h3
            go_enter Try.func35, Try.ntmps35
            go_wp2_with fail
            refine HE.out.mono ?_
            rintro e w1 ⟨rfl, rfl⟩
            go_wp2_with fail
            refine HS.out.mono ?_
            rintro e w1 ⟨rfl, rfl⟩
            go_wp2_with fail
            refine HLe.out.mono ?_
            rintro e w1 ⟨rfl, rfl⟩
            go_wp2_with fail
            refine HF.out.mono ?_
            rintro e w1 ⟨rfl, h3, h4⟩
            go_wp2
            go_ret
            exact text_fault HR.out h3 h4
          · have HR := Lib.hid (HR1.out (by omega))
            have HT := Lib.hid (HTK.out (by omega))
            have h3' : ¬ (len : Int) - (n : Int) < (x : Int) := by omega
            have ex : IntKind.i64.wrap (x : Int) = (x : Int) := IntWalk.i64_in _ (by omega)
            have b1 : ((n : Int) == 0) = false := by simpa using h0
            have b2 : decide (m < 0) = false := decide_eq_false h1
            have b3 : decide (m < (x : Int)) = false := decide_eq_false h2
            have b4 : decide ((len : Int) - (n : Int) < (x : Int)) = false := decide_eq_false h3'
            have HXE := Lib.hid (fun (W : World) (A : Option Addr) (h : Bts W A (n + x) (s.l.take (n + x))) => text_conv A s.l n x (by rw [HLN.out]; omega) W h)
            clear HR0 HR1 HTK h0
            go_enter Try.func35, Try.ntmps35
            go_wp2_with fail
            refine HE.out.mono ?_
            rintro e w1 ⟨rfl, rfl⟩
            go_wp2_with fail
            refine HS.out.mono ?_
            rintro e w1 ⟨rfl, rfl⟩
            go_wp2_with fail
            refine HLe.out.mono ?_
            rintro e w1 ⟨rfl, rfl⟩
            go_wp2_with fail
            rw [show (n : Int) + (x : Int) = ((n + x : Nat) : Int) by omega]
            refine HT.out.mono ?_
            rintro e w1 ⟨A, rfl, h3, h4, h5, h6⟩
            have C := HXE.out w1 A h4.out
            clear HXE
            by_cases hx0 : n + x = n
            · rw [if_pos hx0] at C
              obtain rfl : x = 0 := by omega
              clear hx0
              go_wp2
              go_ret
              exact ⟨by rw [HR.out]; rfl, by rw [HR.out]; exact h3, h6⟩
            · rw [if_neg hx0] at C
              go_wp2
              go_ret
              exact ⟨by rw [HR.out]; rfl, by rw [HR.out]; exact h3, h6⟩
end Go.Proofs.Ytadpbcbgmopfaaa
