/-
  What a Writer's calls do: each lays its bytes behind what was there, and turns nothing else; Bytes makes new memory. For at most 2^46 bytes.
-/
import Derived.Test.YtadpbcbgmopfaaaMem
namespace Go.Proofs.Ytadpbcbgmopfaaa
open Go.RowKit

/-- A Writer in block p, whose bytes l lie in block g (or nowhere, where there is no room yet). -/
def Wr (w : World) (p : Nat) (g : Option Nat) (l : List UInt8) : Prop :=
  ∃ A cap, w.heap[p]? = some (.cells #[.slice A l.length cap] 35 (0, 0)) ∧ Own8 w 0 A l.length cap l ∧ blockOf A = g
theorem Wr.ne {w : World} {p : Nat} {g : Option Nat} {l : List UInt8} (h : Wr w p g l) : g ≠ some p := by
  obtain ⟨A, cap, h1, h2, h3⟩ := h
  intro e
  obtain ⟨-, cur, hc, _⟩ := h2.block (h3.trans e)
  rw [h1] at hc
  simp at hc
theorem Wr.lt {w : World} {p : Nat} {g : Option Nat} {l : List UInt8} (h : Wr w p g l) : p < w.heap.size := by
  obtain ⟨A, cap, h1, _⟩ := h
  exact lt_of_heap h1
theorem Wr.glt {w : World} {p : Nat} {g : Option Nat} {l : List UInt8} (h : Wr w p g l) : ∀ k, g = some k → k < w.heap.size := by
  obtain ⟨A, cap, h1, h2, h3⟩ := h
  exact fun k e => (h2.lt (h3.trans e)).2
theorem Wr.keep {w w' : World} {p : Nat} {g : Option Nat} {l : List UInt8} {S : Nat → Prop} (h : Wr w p g l) (ho : Only S w w') (h1 : ¬ S p) (h2 : ∀ k, g = some k → ¬ S k) : Wr w' p g l := by
  have hlt := h.lt
  obtain ⟨A, cap, e, ho2, hg⟩ := h
  exact ⟨A, cap, (ho.block p hlt h1).trans e, ho2.keep ho (fun k hk => h2 k (hg.symm.trans hk)), hg⟩
/-- What a Writer's call leaves: xs behind l; only the Writer's own two blocks have turned. -/
def Wrote (w : World) (p : Nat) (g : Option Nat) (l xs : List UInt8) (w' : World) : Prop :=
  ∃ g', Wr w' p g' (l ++ xs) ∧ NewOr w g g' ∧ Only (fun k => k = p ∨ g = some k) w w'
theorem Wrote.trans {w w1 w2 : World} {p : Nat} {g g1 : Option Nat} {l xs ys : List UInt8} (hn : NewOr w g g1) (ho : Only (fun k => k = p ∨ g = some k) w w1) (h : Wrote w1 p g1 (l ++ xs) ys w2) : Wrote w p g l (xs ++ ys) w2 := by
  obtain ⟨g2, h1, h2, h3⟩ := h
  refine ⟨g2, by rw [← List.append_assoc]; exact h1, hn.trans h2 ho.size, ho.trans h3 fun k hk e => ?_⟩
  rcases e with e | e
  · exact .inl e
  · exact .inr (hn.same hk e)
theorem Wrote.same {w : World} {p : Nat} {g : Option Nat} {l : List UInt8} (h : Wr w p g l) : Wrote w p g l [] w := ⟨g, by rw [List.append_nil]; exact h, NewOr.refl _ _, Only.refl _ _⟩
def WroteE (w : World) (p : Nat) (g : Option Nat) (l xs : List UInt8) (e : Ending) (w' : World) : Prop := e = .returned (.tuple #[]) ∧ Wrote w p g l xs w'

theorem frozen_plain {w : World} {b : Nat} {cs : Array Value} {t : TypeId} (h : w.heap[b]? = some (.cells cs t (0, 0))) (k : Nat) : w.frozen? ⟨b, k, none⟩ = false := by
  simp [World.frozen?, h]
theorem cell_plain {w : World} {b : Nat} {cs : Array Value} {t : TypeId} (h : w.heap[b]? = some (.cells cs t (0, 0))) (k : Nat) : w.cell? ⟨b, k, none⟩ = cs[k]? := cell_of_row w b k cs t (0, 0) h
/-- A block of one cell, stored into. -/
theorem block_set1 {w : World} {b : Nat} {v u : Value} {t : TypeId} (h : w.heap[b]? = some (.cells #[v] t (0, 0))) : (w.setCell ⟨b, 0, none⟩ u).heap[b]? = some (.cells #[u] t (0, 0)) := by
  simp [World.setCell, Array.getElem?_modify, h]

set_option maxHeartbeats 400000 in
theorem add_any (p : Nat) (g : Option Nat) (l : List UInt8) (A : Option Addr) (xs : List UInt8) (n cap B : Nat) (w : World) (hw : Wr w p g l) (hn : xs.length = n) (hA : A = none → cap = 0) (hb : Bytes w B A xs) (hr : l.length + n ≤ 70368744177664) :
    Calls Try.prog 68 #[.pointer (some ⟨p, 0, none⟩), .slice A n cap] w (WroteE w p g l xs) := by
  have hne := Lib.hid hw.ne
  obtain ⟨A0, c0, h1, h2, h3⟩ := hw
  have HC := cell_plain h1 0
  simp only [List.getElem?_toArray, List.getElem?_cons_zero] at HC
  have HB := Lib.hid h1
  have HO := Lib.hid h2
  have HG := Lib.hid h3
  have HL := Lib.hid hn
  have HA := Lib.hid hA
  have HX := Lib.hid hb
  generalize hll : l.length = m at HC HB HO hr
  have HM := Lib.hid hll
  clear h1 h2 h3 hn hA hb hll
  go_enter Try.func68, Try.ntmps68
  go_wp2_with (at_builtin; refine wpList_append8 rfl (.tmp 10) (.tmp 11) rfl A0 m c0 l rfl HO.out A n cap B xs rfl HL.out HA.out HX.out (by omega) ?_)
  intro A' cap' w1 hO1 ho1 hn1
  have hnp : ¬ (blockOf A0 = some p) := by rw [HG.out]; exact hne.out
  have hlt : p < w.heap.size := lt_of_heap HB.out
  have hb1 := Lib.hid ((ho1.out.block p hlt hnp).trans HB.out)
  have hc1 : w1.cell? ⟨p, 0, none⟩ = some (.slice A0 m c0) := by
    have := cell_plain hb1.out 0
    simpa using this
  have hf1 : w1.frozen? ⟨p, 0, none⟩ = false := frozen_plain hb1.out 0
  go_wp2
  go_end0
  refine ⟨rfl, blockOf A', ⟨A', cap', ?_, ?_, rfl⟩, ?_, ?_⟩
  · rw [List.length_append, HM.out, HL.out]
    exact block_set1 hb1.out
  · rw [List.length_append, HM.out, HL.out]
    have hO : Only (fun k => k = p) w1 (w1.setCell ⟨p, 0, none⟩ (.slice A' (m + n) cap')) := (Only.refl (fun k => k = p) w1).setCell (p := ⟨p, 0, none⟩) (.inl rfl) _
    refine hO1.out.keep hO fun k hk e => ?_
    subst e
    obtain ⟨-, cur, hcur, _⟩ := hO1.out.block hk
    rw [hb1.out] at hcur
    simp at hcur
  · rw [← HG.out]; exact hn1.out
  · rw [← HG.out]
    exact (ho1.out.weak fun k _ h => .inr h).setCell (.inl (.inl rfl)) _
end Go.Proofs.Ytadpbcbgmopfaaa
