/-
  Both sides of a window, and what is on its way: what holds of them whatever happens. Pure.
-/
import Derived.Test.YtmkkhknbokfciaaQrow
import Derived.Test.YtmkkhknbokfciaaQtake
import Derived.Test.YtmkkhknbokfciaaQackp
namespace Go.Proofs.Ytmkkhknbokfciaa
open Go.RowKit

/-- Both sides, and what was between them. -/
structure Sd where
  b : Nat
  ls : List (List UInt8)
  g : Nat
  ps : List (List UInt8)
  ts : List (List UInt8)
  ys : List (Nat × List UInt8)
/-- What holds of both sides whatever happened; bs: the bodies. -/
structure Inv7 (bs : List (List UInt8)) (s : Sd) : Prop where
  many : bs.length ≤ 300
  body : ∀ l ∈ bs, bodyS l
  pn : s.ps = bs.take s.ps.length
  base : s.b + s.ls.length = s.ps.length
  ls : s.ls = s.ps.drop s.b
  got : s.ts.length = s.g
  ts : s.ts = s.ps.take s.g
  le : s.g ≤ s.ps.length
  lb : s.b ≤ s.g
  ub : s.g ≤ s.b + 8
  box : s.ls.length ≤ 48
  way : ∀ c ∈ s.ys, 1 ≤ c.1 ∧ c.1 ≤ s.ps.length ∧ c.1 ≤ s.b + 8 ∧ c.2 = bodK s.ps (c.1 - 1)
  wn : s.ys.length ≤ 500
/-- The copies that are due. -/
def dueC (b : Nat) (ls : List (List UInt8)) (d : Nat) : List (Nat × List UInt8) := (List.range d).map fun i => (b + 1 + i, bodK ls i)
theorem dueC_length (b : Nat) (ls : List (List UInt8)) (d : Nat) : (dueC b ls d).length = d := by simp [dueC]
theorem dueC_succ (b : Nat) (ls : List (List UInt8)) (d : Nat) : dueC b ls (d + 1) = dueC b ls d ++ [(b + 1 + d, bodK ls d)] := by simp [dueC, List.range_succ]
theorem dueC_get {b : Nat} {ls : List (List UInt8)} {d i : Nat} (h : i < d) : copK (dueC b ls d) i = (b + 1 + i, bodK ls i) := by
  simp [copK, dueC, List.getD, h]
/-- A copy comes. -/
def comeS (s : Sd) (c : Nat × List UInt8) : Sd := if nextS s.g c.1 then { s with g := c.1, ts := s.ts ++ [c.2] } else s
/-- So much is told. -/
def ackS (s : Sd) (u : Nat) : Sd := { s with b := ackB s.b s.ls u, ls := ackL s.b s.ls u }
theorem mem_take {l : List UInt8} {bs : List (List UInt8)} {k : Nat} (h : l ∈ bs.take k) : l ∈ bs := List.mem_of_mem_take h
namespace Inv7
variable {bs : List (List UInt8)} {s : Sd}
theorem plen (h : Inv7 bs s) : s.ps.length ≤ bs.length := by
  have := congrArg List.length h.pn
  rw [List.length_take] at this
  omega
theorem small (h : Inv7 bs s) : s.ps.length ≤ 300 := Nat.le_trans h.plen h.many
theorem pbody (h : Inv7 bs s) : ∀ l ∈ s.ps, bodyS l := fun l hl => h.body l (by rw [h.pn] at hl; exact mem_take hl)
theorem lbody (h : Inv7 bs s) : ∀ l ∈ s.ls, bodyS l := fun l hl => h.pbody l (by rw [h.ls] at hl; exact List.mem_of_mem_drop hl)
theorem may (h : Inv7 bs s) : mayS s.b s.ls := ⟨h.box, by have := h.small; have := h.base; omega, h.lbody⟩
theorem lk (h : Inv7 bs s) (i : Nat) : bodK s.ls i = bodK s.ps (s.b + i) := by rw [h.ls, bodK_drop]
theorem due (h : Inv7 bs s) : dueS s.b s.ls = min s.ls.length 8 := dueS_may h.may
theorem init (hm : bs.length ≤ 300) (hb : ∀ l ∈ bs, bodyS l) : Inv7 bs ⟨0, [], 0, [], [], []⟩ :=
  ⟨hm, hb, by simp, rfl, rfl, rfl, rfl, Nat.le_refl _, Nat.le_refl _, Nat.zero_le _, by simp, by simp, by simp⟩
theorem push (h : Inv7 bs s) (hp : s.ps.length < bs.length) (hb : s.ls.length < 48) : Inv7 bs { s with ls := s.ls ++ [bodK bs s.ps.length], ps := s.ps ++ [bodK bs s.ps.length] } where
  many := h.many
  body := h.body
  pn := by
    show s.ps ++ [bodK bs s.ps.length] = bs.take (s.ps ++ [bodK bs s.ps.length]).length
    rw [List.length_append]
    show _ = bs.take (s.ps.length + 1)
    rw [take_bodK hp, ← h.pn]
  base := by show s.b + (s.ls ++ _).length = (s.ps ++ _).length; have := h.base; simp; omega
  ls := by
    show s.ls ++ [bodK bs s.ps.length] = (s.ps ++ [bodK bs s.ps.length]).drop s.b
    rw [List.drop_append_of_le_length (by have := h.base; omega), ← h.ls]
  got := h.got
  ts := by
    show s.ts = (s.ps ++ _).take s.g
    rw [List.take_append_of_le_length h.le, ← h.ts]
  le := by show s.g ≤ (s.ps ++ _).length; have := h.le; simp; omega
  lb := h.lb
  ub := h.ub
  box := by show (s.ls ++ _).length ≤ 48; simp; omega
  way := fun c hc => by
    obtain ⟨h1, h2, h3, h4⟩ := h.way c hc
    refine ⟨h1, by show c.1 ≤ (s.ps ++ _).length; simp; omega, h3, ?_⟩
    show c.2 = bodK (s.ps ++ _) (c.1 - 1)
    rw [bodK_left (by omega)]
    exact h4
  wn := h.wn
/-- A copy that may be on its way. -/
def Cop (s : Sd) (c : Nat × List UInt8) : Prop := 1 ≤ c.1 ∧ c.1 ≤ s.ps.length ∧ c.1 ≤ s.b + 8 ∧ c.2 = bodK s.ps (c.1 - 1)
theorem dueCop (h : Inv7 bs s) {i : Nat} (hi : i < dueS s.b s.ls) : Cop s (s.b + 1 + i, bodK s.ls i) := by
  have h1 := h.due
  have h2 := h.base
  refine ⟨by show 1 ≤ s.b + 1 + i; omega, by show s.b + 1 + i ≤ _; omega, by show s.b + 1 + i ≤ _; omega, ?_⟩
  show bodK s.ls i = bodK s.ps (s.b + 1 + i - 1)
  rw [h.lk]
  congr 1
  omega
theorem send (h : Inv7 bs s) {c : Nat × List UInt8} (hc : Cop s c) (hn : s.ys.length < 500) : Inv7 bs { s with ys := s.ys ++ [c] } where
  many := h.many
  body := h.body
  pn := h.pn
  base := h.base
  ls := h.ls
  got := h.got
  ts := h.ts
  le := h.le
  lb := h.lb
  ub := h.ub
  box := h.box
  way := fun d hd => by
    rcases List.mem_append.1 hd with hd | hd
    · exact h.way d hd
    · obtain rfl : d = c := by simpa using hd
      exact hc
  wn := by show (s.ys ++ [c]).length ≤ 500; simp; omega
theorem lose (h : Inv7 bs s) (k : Nat) : Inv7 bs { s with ys := s.ys.take k ++ s.ys.drop (k + 1) } where
  many := h.many
  body := h.body
  pn := h.pn
  base := h.base
  ls := h.ls
  got := h.got
  ts := h.ts
  le := h.le
  lb := h.lb
  ub := h.ub
  box := h.box
  way := fun d hd => by
    rcases List.mem_append.1 hd with hd | hd
    · exact h.way d (List.mem_of_mem_take hd)
    · exact h.way d (List.mem_of_mem_drop hd)
  wn := by show (s.ys.take k ++ s.ys.drop (k + 1)).length ≤ 500; have := h.wn; simp; omega
theorem come (h : Inv7 bs s) {c : Nat × List UInt8} (hc : Cop s c) : Inv7 bs (comeS s c) := by
  unfold comeS
  split
  · rename_i hn
    obtain ⟨h1, h2, h3, h4⟩ := hc
    have hq : c.1 = s.g + 1 := hn.1
    refine ⟨h.many, h.body, h.pn, h.base, h.ls, ?_, ?_, ?_, ?_, ?_, h.box, h.way, h.wn⟩
    · show (s.ts ++ [c.2]).length = c.1
      have := h.got
      simp; omega
    · show s.ts ++ [c.2] = s.ps.take c.1
      rw [hq, take_bodK (by omega), ← h.ts, h4]
      congr 2
      congr 1
      omega
    · exact h2
    · show s.b ≤ c.1; have := h.lb; omega
    · exact h3
  · exact h
theorem ack (h : Inv7 bs s) {u : Nat} (hu : u ≤ s.g) : Inv7 bs (ackS s u) := by
  unfold ackS ackB ackL
  by_cases ho : ackOk s.b s.ls u
  · rw [if_pos ho, if_pos ho]
    have h1 := (dueS_le s.b s.ls).2
    have h2 := h.base
    obtain ⟨ho1, ho2⟩ := ho
    refine ⟨h.many, h.body, h.pn, ?_, ?_, h.got, h.ts, h.le, hu, ?_, ?_, fun c hc => ?_, h.wn⟩
    · show u + (s.ls.drop (u - s.b)).length = s.ps.length
      rw [List.length_drop]; omega
    · show s.ls.drop (u - s.b) = s.ps.drop u
      rw [h.ls, List.drop_drop]
      congr 1
      omega
    · show s.g ≤ u + 8; have := h.ub; omega
    · show (s.ls.drop (u - s.b)).length ≤ 48; have := h.box; rw [List.length_drop]; omega
    · obtain ⟨e1, e2, e3, e4⟩ := h.way c hc
      exact ⟨e1, e2, by show c.1 ≤ u + 8; omega, e4⟩
  · rw [if_neg ho, if_neg ho]
    exact h
end Inv7
end Go.Proofs.Ytmkkhknbokfciaa
