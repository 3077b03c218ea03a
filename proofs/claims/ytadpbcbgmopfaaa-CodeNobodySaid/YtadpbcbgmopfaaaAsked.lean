/-
  The statements' own asked: whatever is asked of a Reader, what it answers and what it leaves. For at most 2^46 bytes.
-/
import Derived.Test.YtadpbcbgmopfaaaAtr
import Derived.Test.YtadpbcbgmopfaaaClear
import Derived.Test.YtadpbcbgmopfaaaArgs
namespace Go.Proofs.Ytadpbcbgmopfaaa
set_option maxRecDepth 20000
open Go.RowKit

/-! Raw once more, with what it leaves where what it answered is cleared. -/
def TookE2 (T : TypeId) (w : World) (q : Nat) (d : Option Nat) (l : List UInt8) (bad : Bool) (n : Nat) (e : Ending) (w' : World) : Prop :=
  ∃ A, e = .returned (.slice A n n) ∧ Hid (Rd T w' q d (l.drop n) bad) ∧ Hid (Bts w' A n (l.take n)) ∧ Hid (blockOf A = d) ∧ Hid (Only (fun k => k = q) w w') ∧ Hid (∀ W, Cleared A n w' W → Rd T W q d (l.drop n) bad)
theorem took_of2 {T : TypeId} {w : World} {q : Nat} {d : Option Nat} {l : List UInt8} {bad : Bool} {A : Option Addr} {cap m : Nat} (hT : T ≠ 5) (n : Nat) (h1 : w.heap[q]? = some (.cells #[.slice A m cap, .bool bad] T (0, 0))) (h2 : Bts w A cap l) (h3 : blockOf A = d) (hl : l.length = m) (hn : n ≤ m) :
    TookE2 T w q d l bad n (.returned (.slice A n n)) (w.setCell ⟨q, 0, none⟩ (.slice (behind A cap n) (m - n) (cap - n))) := by
  have hne : d ≠ some q := (show Rd T w q d l bad from ⟨A, cap, by rw [hl]; exact h1, h2, h3⟩).ne hT
  have ho : Only (fun k => k = q) w (w.setCell ⟨q, 0, none⟩ (.slice (behind A cap n) (m - n) (cap - n))) := (Only.refl (fun k => k = q) w).setCell (p := ⟨q, 0, none⟩) (.inl rfl) _
  have hk : ∀ k, blockOf A = some k → ¬ k = q := fun k hk e => by subst e; exact hne (h3.symm.trans hk)
  have hq : (w.setCell ⟨q, 0, none⟩ (.slice (behind A cap n) (m - n) (cap - n))).heap[q]? = some (.cells #[.slice (behind A cap n) (l.drop n).length (cap - n), .bool bad] T (0, 0)) := by
    rw [List.length_drop, hl]
    exact block_set2 h1
  have hb := (h2.back n (by omega)).keep ho (fun k e => hk k (by rw [← behind_block (cap := cap) (n := n)]; exact e))
  have h2' := h2.keep ho hk
  refine ⟨A, rfl, ⟨behind A cap n, cap - n, hq, hb, by rw [behind_block]; exact h3⟩, (h2.front n (by omega)).keep ho hk, h3, ho, Lib.hid (fun W hc => ?_)⟩
  refine ⟨behind A cap n, cap - n, (hc.only.block q (lt_of_heap hq) (fun e => hk q e rfl)).trans hq, ?_, by rw [behind_block]; exact h3⟩
  refine ⟨hb.1, hb.2.1, ?_⟩
  rcases h2'.2.2 with ⟨rfl, hcap⟩ | ⟨b, off, cur, rfl, hh, hs, hct⟩
  · exact .inl ⟨by unfold behind; split <;> rfl, by omega⟩
  · obtain ⟨cur', g1, g2, g3⟩ := hc.rest b off cur rfl hh
    right
    by_cases hcn : cap = n
    · refine ⟨b, off, cur', by unfold behind; rw [if_pos hcn], g1, by omega, fun k hk' => ?_⟩
      rw [List.length_drop] at hk'
      have := h2.1
      omega
    · refine ⟨b, off + n, cur', by unfold behind; rw [if_neg hcn]; simp [add_mk], g1, by have := h2.1; omega, fun k hk' => ?_⟩
      rw [List.length_drop] at hk'
      rw [g3 _ (by omega), Nat.add_assoc, hct (n + k) (by omega), at8_drop]
set_option maxHeartbeats 400000 in
theorem take_ok2 (q : Nat) (d : Option Nat) (l : List UInt8) (bad : Bool) (n : Nat) (w : World) (h : Rd RdT w q d l bad) (hn : n ≤ l.length) :
    Calls Try.prog 78 #[.pointer (some ⟨q, 0, none⟩), .int .i64 (n : Int)] w (TookE2 RdT w q d l bad n) := by
  obtain ⟨A, cap, h1, h2, h3⟩ := h
  have HC : w.cell? ⟨q, 0, none⟩ = some (.slice A l.length cap) := by simpa using cell_plain h1 0
  have HF := frozen_plain h1 0
  have hc := h2.1
  have hm := h2.2.1
  unfold maxLen at hm
  generalize hl : l.length = m at *
  have HT := Lib.hid (took_of2 (by decide) n h1 h2 h3 hl hn)
  clear h1 h2 h3 hl
  by_cases hcn : cap = n
  · subst hcn
    have HE := Lib.hid (show behind A cap cap = A from if_pos rfl)
    obtain rfl : cap = m := by omega
    go_enter Try.func78, Try.ntmps78
    go_wp2
    go_ret
    have h := HT.out
    rw [HE.out] at h
    simpa using h
  · have HE := Lib.hid (show behind A cap n = A.map (·.add n) from if_neg hcn)
    go_enter Try.func78, Try.ntmps78
    go_wp2
    go_ret
    have h := HT.out
    rw [HE.out] at h
    exact h
def RawE2 (w : World) (q : Nat) (d : Option Nat) (s : RS) (n : Int) (e : Ending) (w' : World) : Prop :=
  ∃ A cap, e = .returned (.slice A (rRaw s n).1.length cap) ∧ Hid (Rd RdT w' q d (rRaw s n).2.l (rRaw s n).2.bad) ∧ Hid (Bts w' A cap (rRaw s n).1) ∧ Hid (A = none ∨ blockOf A = d) ∧ Hid (Only (fun k => k = q) w w') ∧
    Hid (∀ W, Cleared A (rRaw s n).1.length w' W → Rd RdT W q d (rRaw s n).2.l (rRaw s n).2.bad)
set_option maxHeartbeats 400000 in
theorem raw_any2 (q : Nat) (d : Option Nat) (s : RS) (n : Int) (w : World) (h : Rd RdT w q d s.l s.bad) :
    Calls Try.prog 31 #[.pointer (some ⟨q, 0, none⟩), .int .i64 n] w (RawE2 w q d s n) := by
  have H := Lib.hid h
  clear h
  cases hbad : s.bad with
  | true =>
    have HR := Lib.hid (show rRaw s n = ([], ⟨s.l, true⟩) from if_pos (.inl hbad))
    rw [hbad] at H
    have HE := Lib.hid (err_bad q d s.l w H.out)
    clear hbad
    go_enter Try.func31, Try.ntmps31
    go_wp2_with fail
    refine HE.out.mono ?_
    rintro e w1 ⟨rfl, rfl⟩
    go_wp2
    go_ret
    refine ⟨none, 0, by rw [HR.out]; rfl, by rw [HR.out]; exact H, by rw [HR.out]; exact Lib.hid ⟨by simp, by simp, .inl ⟨rfl, rfl⟩⟩, Lib.hid (.inl rfl), Only.refl _ _, Lib.hid (fun W hc => by rw [HR.out]; exact H.out.keep hc.only (fun e => by cases e) (fun _ _ e => by cases e))⟩
  | false =>
    rw [hbad] at H
    have HE := Lib.hid (err_ok q d s.l w H.out)
    by_cases hn : n < 0 ∨ (s.l.length : Int) < n
    · have HR := Lib.hid (show rRaw s n = ([], ⟨s.l, true⟩) from if_pos (.inr hn))
      have HT := Lib.hid (take_no q d s.l false n w H.out hn)
      clear hbad hn
      go_enter Try.func31, Try.ntmps31
      go_wp2_with fail
      refine HE.out.mono ?_
      rintro e w1 ⟨rfl, rfl⟩
      go_wp2_with fail
      refine HT.out.mono ?_
      rintro e w1 ⟨rfl, h2, h3⟩
      go_wp2
      go_ret
      exact ⟨none, 0, by rw [HR.out]; rfl, by rw [HR.out]; exact h2, by rw [HR.out]; exact Lib.hid ⟨by simp, by simp, .inl ⟨rfl, rfl⟩⟩, Lib.hid (.inl rfl), h3, Lib.hid (fun W hc => by rw [HR.out]; exact h2.out.keep hc.only (fun e => by cases e) (fun _ _ e => by cases e))⟩
    · have HR := Lib.hid (show rRaw s n = (s.l.take n.toNat, ⟨s.l.drop n.toNat, false⟩) from if_neg (by rw [hbad]; simpa using hn))
      obtain ⟨k, rfl⟩ : ∃ k : Nat, n = k := ⟨n.toNat, by omega⟩
      have HT := Lib.hid (take_ok2 q d s.l false k w H.out (by omega))
      have HM := Lib.hid (show (s.l.take k).length = k by rw [List.length_take]; omega)
      clear hbad hn
      go_enter Try.func31, Try.ntmps31
      go_wp2_with fail
      refine HE.out.mono ?_
      rintro e w1 ⟨rfl, rfl⟩
      go_wp2_with fail
      refine HT.out.mono ?_
      rintro e w1 ⟨A, rfl, h2, h3, h4, h5, h6⟩
      go_wp2
      go_ret
      exact ⟨A, k, by rw [HR.out]; simp only [Int.toNat_natCast, HM.out]; rfl, by rw [HR.out]; exact h2, by rw [HR.out]; exact h3, Lib.hid (.inr h4.out), h5, Lib.hid (fun W hc => by rw [HR.out] at hc ⊢; simp only [Int.toNat_natCast, HM.out] at hc; exact h6.out W hc)⟩

/-- The kind of a call: its What modulo nine, as the statements have it. -/
def kind (x : Int) : Nat := (x % 9).toNat
theorem kind_lt (x : Int) : kind x < 9 := by unfold kind; omega
/-- What a Reader that stands so answers to a call, a number and bytes, and how it stands then. -/
def ask (s : RS) (k : Nat) (n : Int) : Nat × List UInt8 × RS :=
  if k = 0 then ((rWide s 1).1, [], (rWide s 1).2) else if k = 1 then ((rWide s 2).1, [], (rWide s 2).2) else if k = 2 then ((rWide s 4).1, [], (rWide s 4).2) else if k = 3 then ((rWide s 8).1, [], (rWide s 8).2)
  else if k = 4 then ((rUint s).1, [], (rUint s).2) else if k = 5 then (0, (rText s n).1, (rText s n).2) else if k = 6 then (0, (rRaw s n).1, (rRaw s n).2)
  else if k = 7 then (0, [], ⟨s.l, true⟩) else ((errOf (rEnd s).bad).toNat, [], rEnd s)
theorem ask_len (s : RS) (k : Nat) (n : Int) : (ask s k n).2.2.l.length ≤ s.l.length := by
  have hw : ∀ j, (rWide s j).2.l.length ≤ s.l.length := fun j => by
    unfold rWide; split
    · exact Nat.le_refl _
    · simp
  have hu : (rUint s).2.l.length ≤ s.l.length := by
    unfold rUint; split
    · exact Nat.le_refl _
    · simp
  have ht : (rText s n).2.l.length ≤ s.l.length := by
    unfold rText; split
    · exact Nat.le_refl _
    · simp
  have hr : (rRaw s n).2.l.length ≤ s.l.length := by
    unfold rRaw; split
    · exact Nat.le_refl _
    · simp
  unfold ask
  split <;> (try exact hw _)
  split <;> (try exact hw _)
  split <;> (try exact hw _)
  split <;> (try exact hw _)
  split <;> (try exact hu)
  split <;> (try exact ht)
  split <;> (try exact hr)
  split <;> exact Nat.le_refl _
theorem tmod9 (x : Int) : x.tmod 9 = x % 9 ∨ x.tmod 9 = x % 9 - 9 := by
  rw [Int.tmod_eq_emod]
  split <;> simp
theorem kind_int (x : Int) : (((x.tmod 9) + 9).tmod 9) = ((kind x : Nat) : Int) := by
  unfold kind
  rcases tmod9 x with h | h <;> rw [h, Int.tmod_eq_emod_of_nonneg (by omega)] <;> omega
theorem kind_emod (x : Int) : x.tmod 9 % 9 = ((kind x : Nat) : Int) ∧ (x.tmod 9 + 9) % 9 = ((kind x : Nat) : Int) ∧ -9 ≤ x.tmod 9 ∧ x.tmod 9 < 9 := by
  unfold kind
  have h0 : 0 ≤ x % 9 ∧ x % 9 < 9 := by omega
  rcases tmod9 x with h | h
  · rw [h]
    generalize x % 9 = y at *
    refine ⟨?_, ?_, ?_, ?_⟩ <;> omega
  · rw [h]
    generalize x % 9 = y at *
    refine ⟨?_, ?_, ?_, ?_⟩ <;> omega
/-- The answer's end. -/
def AskE (w : World) (q : Nat) (d : Option Nat) (a : Nat × List UInt8 × RS) (e : Ending) (w' : World) : Prop :=
  e = .returned (.tuple #[.int .u64 ((a.1 : Nat) : Int), .string ⟨a.2.1.toArray⟩]) ∧ Hid (Rd RdT w' q d a.2.2.l a.2.2.bad) ∧ Hid (Only (fun k => k = q ∨ d = some k) w w')
theorem AskE.of {w w' : World} {q : Nat} {d : Option Nat} {s : RS} (h1 : Hid (Rd RdT w' q d s.l s.bad)) (h2 : Hid (Only (fun k => k = q) w w')) (x : Nat) (l : List UInt8) : AskE w q d (x, l, s) (.returned (.tuple #[.int .u64 (x : Int), .string ⟨l.toArray⟩])) w' :=
  ⟨rfl, h1, Lib.hid (h2.out.weak fun _ _ h => .inl h)⟩
set_option maxHeartbeats 1600000 in
theorem asked_any (q : Nat) (d : Option Nat) (s : RS) (x n : Int) (w : World) (hn : I64 n) (h : Rd RdT w q d s.l s.bad) (hr : s.l.length ≤ 70368744177664) :
    Calls Try.prog 28 #[.pointer (some ⟨q, 0, none⟩), .agg #[.int .i64 x, .int .i64 n]] w (AskE w q d (ask s (kind x) n)) := by
  have HK := Lib.hid (kind_int x)
  have hk9 := kind_lt x
  have H0 := Lib.hid h
  obtain ⟨W1, hW1⟩ : ∃ W1, w.alloc (.cells #[.int .i64 x, .int .i64 n] 54) = W1 := ⟨_, rfl⟩
  have HW := Lib.hid hW1
  have c1 : W1.cell? ⟨w.heap.size, 0, none⟩ = some (.int .i64 x) := by rw [← hW1]; exact cell_plain (heap_alloc_new w _) 0
  have c2 : W1.cell? ⟨w.heap.size, 1, none⟩ = some (.int .i64 n) := by rw [← hW1]; exact cell_plain (heap_alloc_new w _) 1
  have H : Hid (Rd RdT W1 q d s.l s.bad) := Lib.hid (by rw [← hW1]; exact h.keep (S := fun _ => False) ((Only.refl _ _).alloc _) (fun h => h) (fun _ _ h => h))
  have HO : Hid (Only (fun k => k = q) w W1) := Lib.hid (by rw [← hW1]; exact (Only.refl _ _).alloc _)
  clear hW1 h H0
  have hcs : kind x = 0 ∨ kind x = 1 ∨ kind x = 2 ∨ kind x = 3 ∨ kind x = 4 ∨ kind x = 5 ∨ kind x = 6 ∨ kind x = 7 ∨ kind x = 8 := by omega
  obtain ⟨ek1, ek2, b9⟩ := kind_emod x
  clear hk9
  rcases hcs with hk | hk | hk | hk | hk | hk | hk | hk | hk <;> (rw [hk] at ek1 ek2)
  · have HE := Lib.hid (show ask s (kind x) n = ((rWide s 1).1, [], (rWide s 1).2) by rw [hk]; rfl)
    have HC := Lib.hid (ru8_any q d s W1 H.out)
    have hlt := rWide_lt s 1
    have e3 : IntKind.u64.wrap (((rWide s 1).1 : Nat) : Int) = ((rWide s 1).1 : Nat) := IntWalk.u64_in _ (by omega)
    generalize (rWide s 1).1 = v at *
    generalize (rWide s 1).2 = s' at *
    clear hk
    go_enter Try.func28, Try.ntmps28
    go_wp2_with fail
    rw [HW.out]
    refine HC.out.mono ?_
    rintro e w2 ⟨rfl, h1, h2⟩
    have h3 := Lib.hid (only_trans HO.out h2.out)
    go_wp2
    go_ret2
    rw [HE.out]
    exact AskE.of h1 h3 v []
  · have HE := Lib.hid (show ask s (kind x) n = ((rWide s 2).1, [], (rWide s 2).2) by rw [hk]; rfl)
    have HC := Lib.hid (ru16_any q d s W1 H.out)
    have hlt := rWide_lt s 2
    have e3 : IntKind.u64.wrap (((rWide s 2).1 : Nat) : Int) = ((rWide s 2).1 : Nat) := IntWalk.u64_in _ (by omega)
    generalize (rWide s 2).1 = v at *
    generalize (rWide s 2).2 = s' at *
    clear hk
    go_enter Try.func28, Try.ntmps28
    go_wp2_with fail
    rw [HW.out]
    refine HC.out.mono ?_
    rintro e w2 ⟨rfl, h1, h2⟩
    have h3 := Lib.hid (only_trans HO.out h2.out)
    go_wp2
    go_ret2
    rw [HE.out]
    exact AskE.of h1 h3 v []
  · have HE := Lib.hid (show ask s (kind x) n = ((rWide s 4).1, [], (rWide s 4).2) by rw [hk]; rfl)
    have HC := Lib.hid (ru32_any q d s W1 H.out)
    have hlt := rWide_lt s 4
    have e3 : IntKind.u64.wrap (((rWide s 4).1 : Nat) : Int) = ((rWide s 4).1 : Nat) := IntWalk.u64_in _ (by omega)
    generalize (rWide s 4).1 = v at *
    generalize (rWide s 4).2 = s' at *
    clear hk
    go_enter Try.func28, Try.ntmps28
    go_wp2_with fail
    rw [HW.out]
    refine HC.out.mono ?_
    rintro e w2 ⟨rfl, h1, h2⟩
    have h3 := Lib.hid (only_trans HO.out h2.out)
    go_wp2
    go_ret2
    rw [HE.out]
    exact AskE.of h1 h3 v []
  · have HE := Lib.hid (show ask s (kind x) n = ((rWide s 8).1, [], (rWide s 8).2) by rw [hk]; rfl)
    have HC := Lib.hid (ru64_any q d s W1 H.out)
    generalize (rWide s 8).1 = v at *
    generalize (rWide s 8).2 = s' at *
    clear hk
    go_enter Try.func28, Try.ntmps28
    go_wp2_with fail
    rw [HW.out]
    refine HC.out.mono ?_
    rintro e w2 ⟨rfl, h1, h2⟩
    have h3 := Lib.hid (only_trans HO.out h2.out)
    go_wp2
    go_ret2
    rw [HE.out]
    exact AskE.of h1 h3 v []
  · have HE := Lib.hid (show ask s (kind x) n = ((rUint s).1, [], (rUint s).2) by rw [hk]; rfl)
    have HC := Lib.hid (uint_any q d s W1 H.out hr)
    generalize (rUint s).1 = v at *
    generalize (rUint s).2 = s' at *
    clear hk
    go_enter Try.func28, Try.ntmps28
    go_wp2_with fail
    rw [HW.out]
    refine HC.out.mono ?_
    rintro e w2 ⟨rfl, h1, h2⟩
    have h3 := Lib.hid (only_trans HO.out h2.out)
    go_wp2
    go_ret2
    rw [HE.out]
    exact AskE.of h1 h3 v []
  · have HE := Lib.hid (show ask s (kind x) n = (0, (rText s n).1, (rText s n).2) by rw [hk]; rfl)
    have HC := Lib.hid (text_any q d s n W1 hn.1 hn.2 H.out hr)
    clear hk
    go_enter Try.func28, Try.ntmps28
    go_wp2_with fail
    rw [HW.out]
    refine HC.out.mono ?_
    rintro e w2 ⟨rfl, h1, h2⟩
    have h3 := Lib.hid (only_trans HO.out h2.out)
    go_wp2
    go_ret2
    rw [HE.out]
    exact AskE.of h1 h3 0 _
  · have HE := Lib.hid (show ask s (kind x) n = (0, (rRaw s n).1, (rRaw s n).2) by rw [hk]; rfl)
    have HC := Lib.hid (raw_any2 q d s n W1 H.out)
    clear hk
    go_enter Try.func28, Try.ntmps28
    go_wp2_with fail
    rw [HW.out]
    refine HC.out.mono ?_
    rintro e w2 ⟨A, cap, rfl, h1, h2, h3, h4, h5⟩
    have C := conv_str cap h2.out.bytes rfl
    obtain ⟨W3, hcl, hcd⟩ := clear_bts A (rRaw s n).1.length cap _ w2 rfl h2.out
    have h6 := Lib.hid (h5.out W3 hcd.out)
    have h7 : Hid (Only (fun k => k = q ∨ d = some k) w W3) := Lib.hid ((only_trans HO.out h4.out).weak (fun _ _ h => .inl h) |>.trans hcd.out.only fun k _ e => .inr (by
      rcases h3.out with h | h
      · rw [h] at e; cases e
      · rw [← h]; exact e))
    clear h1 h2 h3 h4 h5 hcd
    go_wp2
    go_ret2
    rw [HE.out]
    exact ⟨rfl, h6, h7⟩
  · have HE := Lib.hid (show ask s (kind x) n = (0, [], ⟨s.l, true⟩) by rw [hk]; rfl)
    have HC := Lib.hid (fail_any q d s.l s.bad W1 H.out)
    clear hk
    go_enter Try.func28, Try.ntmps28
    go_wp2_with fail
    rw [HW.out]
    refine HC.out.mono ?_
    rintro e w2 ⟨rfl, h1, h2⟩
    have h3 := Lib.hid (only_trans HO.out h2.out)
    go_wp2
    go_ret2
    rw [HE.out]
    exact AskE.of (s := ⟨s.l, true⟩) h1 h3 0 []
  · have HE := Lib.hid (show ask s (kind x) n = ((errOf (rEnd s).bad).toNat, [], rEnd s) by rw [hk]; rfl)
    have HC := Lib.hid (end_any q d s W1 H.out)
    have he : 0 ≤ errOf (rEnd s).bad ∧ errOf (rEnd s).bad ≤ 3 := by unfold errOf; split <;> omega
    have e3 : IntKind.u64.wrap (errOf (rEnd s).bad) = errOf (rEnd s).bad := IntWalk.u64_in _ (by omega)
    have HN := Lib.hid (show errOf (rEnd s).bad = ((errOf (rEnd s).bad).toNat : Nat) by omega)
    generalize errOf (rEnd s).bad = v at *
    clear hk
    go_enter Try.func28, Try.ntmps28
    go_wp2_with fail
    rw [HW.out]
    refine HC.out.mono ?_
    rintro e w2 ⟨rfl, h1, h2⟩
    have h3 := Lib.hid (only_trans HO.out h2.out)
    go_wp2
    go_ret2
    rw [HE.out]
    have h4 := AskE.of (d := d) h1 h3 v.toNat []
    rw [← HN.out] at h4
    exact h4
end Go.Proofs.Ytadpbcbgmopfaaa
