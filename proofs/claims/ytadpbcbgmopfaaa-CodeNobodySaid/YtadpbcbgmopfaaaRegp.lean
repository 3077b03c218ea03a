/-
  A region that draws its order, by what each of its temporaries holds (XRegion): the frame behind it, written out. No condition; nothing here speaks of a program.
-/
import Derived.Test.YtadpbcbgmopfaaaRegion
namespace Go.Proofs.Ytadpbcbgmopfaaa
open Go.RowKit

section
variable {P : Program} {ops : Array Oper} {G : Nat → World → Value → Prop} {a0 a : Act} {w0 w : World} {listed : Array Bool}
/-- All that the region writes lies in these slots. -/
def writesIn (ops : Array Oper) (slots : List Tmp) : Bool := ops.all fun o => match o.dst with | some s => slots.contains s | none => true
theorem puts_tmps (vals : Tmp → Value) : ∀ (slots : List Tmp) (b : Act), (slots.foldl (fun c s => c.put (some s) (vals s)) b).tmps.size = b.tmps.size ∧ (slots.foldl (fun c s => c.put (some s) (vals s)) b).defers = b.defers ∧
    ∀ j, j < b.tmps.size → (slots.foldl (fun c s => c.put (some s) (vals s)) b).tmps.getD j undef = if j ∈ slots then vals j else b.tmps.getD j undef := by
  intro slots
  induction slots with
  | nil => intro b; simp
  | cons s r ih =>
    intro b
    have h := ih (b.put (some s) (vals s))
    have hsz : (b.put (some s) (vals s)).tmps.size = b.tmps.size := by simp [Act.put]
    have hdf : (b.put (some s) (vals s)).defers = b.defers := rfl
    refine ⟨h.1.trans hsz, h.2.1.trans hdf, fun j hj => ?_⟩
    rw [List.foldl_cons, h.2.2 j (by rw [hsz]; exact hj)]
    by_cases hr : j ∈ r
    · rw [if_pos hr, if_pos (by simp [hr])]
    · rw [if_neg hr]
      by_cases hs : j = s
      · subst hs
        rw [if_pos (by simp)]
        simp [Act.put, hj]
      · rw [if_neg (by simp [hr, hs])]
        simp [Act.put, Array.getElem?_setIfInBounds_ne (Ne.symm hs)]
theorem Way.puts (h : Way ops G a0 w0 listed a w) (slots : List Tmp) (hs : writesIn ops slots = true) : a = slots.foldl (fun c s => c.put (some s) (a.tmps.getD s undef)) a0 := by
  have hp := puts_tmps (fun s => a.tmps.getD s undef) slots a0
  have hd := h.defers
  have hz := h.size
  have hold : ∀ j, j ∉ slots → a.tmps.getD j undef = a0.tmps.getD j undef := fun j hj => h.old j fun i o ho => by
    have := Array.all_eq_true_iff_forall_mem.1 hs o (Array.mem_of_getElem? ho)
    intro e
    rw [e] at this
    simp at this
    exact hj this
  generalize hb : slots.foldl (fun c s => c.put (some s) (a.tmps.getD s undef)) a0 = b at hp ⊢
  obtain ⟨t, df⟩ := a
  obtain ⟨t', df'⟩ := b
  have e1 : df = df' := hd.trans hp.2.1.symm
  have e2 : t = t' := by
    apply Array.ext
    · exact hz.trans hp.1.symm
    · intro j h1 h2
      have h3 := hp.2.2 j (by rw [← hp.1]; exact h2)
      have h4 : t'.getD j undef = t.getD j undef := by
        rw [h3]
        by_cases hj : j ∈ slots
        · rw [if_pos hj]
        · rw [if_neg hj]
          exact (hold j hj).symm
      simpa [h1, h2] using h4.symm
  rw [e1, e2]
end
end Go.Proofs.Ytadpbcbgmopfaaa
