/-
  A region that draws its order, in which calls may turn what lies there: like XRegion, with a relation M between worlds and a state I that each operation carries on.
-/
import Derived.Test.YtadpbcbgmopfaaaRegp
namespace Go.Proofs.Ytadpbcbgmopfaaa
open Go.RowKit

section
variable {P : Program} {ops : Array Oper} {Q : Exit → Act → World → Prop} {G : Nat → World → Value → Prop} {M : World → World → Prop} {I : Array Bool → World → Prop} {a0 : Act} {w0 : World}

structure Way2 (M : World → World → Prop) (I : Array Bool → World → Prop) (ops : Array Oper) (G : Nat → World → Value → Prop) (a0 : Act) (w0 : World) (listed : Array Bool) (a : Act) (w : World) : Prop where
  held : M w0 w
  inv : I listed w
  defers : a.defers = a0.defers
  size : a.tmps.size = a0.tmps.size
  old : ∀ s, (∀ (i : Nat) (o : Oper), ops[i]? = some o → o.dst ≠ some s) → a.tmps.getD s undef = a0.tmps.getD s undef
  come : ∀ (i : Nat) (o : Oper) (s : Tmp), ops[i]? = some o → listed.getD i false = true → o.dst = some s → G i w (a.tmps.getD s undef)
  lsize : listed.size = ops.size

theorem way_any2 (hMt : ∀ a b c, M a b → M b c → M a c) (hdep : ∀ (i : Nat) (o : Oper), ops[i]? = some o → ∀ e ∈ o.after, Region.binds .any e = true → e.on < i)
    (hdst : ∀ (i j : Nat) (o o' : Oper) (s : Tmp), ops[i]? = some o → ops[j]? = some o' → o.dst = some s → o'.dst = some s → i = j)
    (hsz : ∀ (i : Nat) (o : Oper) (s : Tmp), ops[i]? = some o → o.dst = some s → s < a0.tmps.size)
    (hmono : ∀ i v w w', M w w' → G i w v → G i w' v)
    (hstep : ∀ (i : Nat) (o : Oper), ops[i]? = some o → ∀ (listed : Array Bool) (a : Act) (w : World), Way2 M I ops G a0 w0 listed a w → listed.getD i false = false → (∀ e ∈ o.after, Region.binds .any e = true → listed.getD e.on false = true) →
      ∀ K : Act → World → Prop, (∀ v w', M w w' → I (listed.setIfInBounds i true) w' → (∀ s, o.dst = some s → G i w' v) → K (a.put o.dst v) w') →
      if Region.wanted o (yielded ops a.tmps) = true then o.wp P a w K Q else K (a.put o.dst undef) w)
    (hfin : ∀ (listed : Array Bool) (a : Act) (w : World), Way2 M I ops G a0 w0 listed a w → (∀ i, i < ops.size → listed.getD i false = true) → Q .normal a w) :
    ∀ (fuel : Nat) (listed : Array Bool) (a : Act) (w : World), listed.size = ops.size → unlisted ops listed ≤ fuel → Way2 M I ops G a0 w0 listed a w → wpAny P .any ops Q fuel listed a w := by
  intro fuel
  induction fuel with
  | zero =>
    intro listed a w hs hu hw
    have hall : ∀ i, i < ops.size → listed.getD i false = true := by
      intro i hi
      cases hl : listed.getD i false with
      | true => rfl
      | false => have := unlisted_set hs hi hl; omega
    refine ⟨?_, hfin listed a w hw hall⟩
    apply List.eq_nil_iff_forall_not_mem.2
    intro i hi
    rw [mem_ready] at hi
    obtain ⟨h1, o, ho, _⟩ := hi
    have hlt := (Array.getElem?_eq_some_iff.1 ho).1
    rw [getD_both (by omega) true false, hall i hlt] at h1
    cases h1
  | succ fuel ih =>
    intro listed a w hs hu hw
    refine ⟨fun hr => hfin listed a w hw (all_listed hs hdep hr), fun i hi => ?_⟩
    rw [mem_ready] at hi
    obtain ⟨h1, o, ho, hdeps⟩ := hi
    have hlt := (Array.getElem?_eq_some_iff.1 ho).1
    have h1' : listed.getD i false = false := by rw [getD_both (by omega) false true]; exact h1
    refine wpOp_step ho fun K hK => ?_
    refine hstep i o ho listed a w hw h1' hdeps K fun v w' hb hinv hg => hK _ _ ?_
    refine ih _ _ _ (by simp [hs]) (by have := unlisted_set hs hlt h1'; omega) ?_
    refine ⟨hMt _ _ _ hw.held hb, hinv, ?_, ?_, fun s hno => ?_, fun j o' s ho' hj hd => ?_, by simp [hs]⟩
    · unfold Act.put; split <;> exact hw.defers
    · unfold Act.put; split
      · simp [hw.size]
      · exact hw.size
    · have hne := hno i o ho
      unfold Act.put
      split
      · rename_i d hd
        have hds : d ≠ s := fun e => hne (by rw [hd, e])
        have : (a.tmps.setIfInBounds d v).getD s undef = a.tmps.getD s undef := by simp [Array.getElem?_setIfInBounds_ne hds]
        simp only
        rw [this]
        exact hw.old s hno
      · exact hw.old s hno
    · by_cases hij : j = i
      · subst hij
        obtain rfl : o' = o := Option.some.inj (ho'.symm.trans ho)
        have hlt2 : s < a.tmps.size := by rw [hw.size]; exact hsz _ _ _ ho hd
        have hv : (a.put o'.dst v).tmps.getD s undef = v := by
          unfold Act.put
          rw [hd]
          simp [hlt2]
        rw [hv]
        exact hg s hd
      · have hj' : listed.getD j false = true := by rwa [getD_set_ne false (Ne.symm hij)] at hj
        have hold := hw.come j o' s ho' hj' hd
        have hv : (a.put o.dst v).tmps.getD s undef = a.tmps.getD s undef := by
          unfold Act.put
          split
          · rename_i d hd2
            have hds : d ≠ s := fun e => hij (hdst j i o' o s ho' ho hd (by rw [hd2, e]))
            simp [Array.getElem?_setIfInBounds_ne hds]
          · rfl
        rw [hv]
        exact hmono _ _ _ _ hb hold
theorem Way2.kept {listed : Array Bool} {a : Act} {w : World} (h : Way2 M I ops G a0 w0 listed a w) (s : Tmp) (hu : unwritten ops s = true) : a.tmps.getD s undef = a0.tmps.getD s undef :=
  h.old s fun i o ho => by
    unfold unwritten at hu
    have := Array.all_eq_true_iff_forall_mem.1 hu o (Array.mem_of_getElem? ho)
    simpa using this
theorem Way2.at_ {listed : Array Bool} {a : Act} {w : World} (h : Way2 M I ops G a0 w0 listed a w) (i : Nat) (s : Tmp) (hi : (ops[i]?).bind (·.dst) = some s) (hl : listed.getD i false = true) : G i w (a.tmps.getD s undef) := by
  cases ho : ops[i]? with
  | none => rw [ho] at hi; cases hi
  | some o => rw [ho] at hi; exact h.come i o s ho hl hi
/-- What is to be shown of one operation. -/
def StepOf2 (P : Program) (ops : Array Oper) (Q : Exit → Act → World → Prop) (M : World → World → Prop) (I : Array Bool → World → Prop) (G : Nat → World → Value → Prop) (a : Act) (w : World) (i : Nat) (o : Oper) : Prop :=
  ∀ (listed : Array Bool) (a' : Act) (w' : World), Way2 M I ops G a w.drew listed a' w' → listed.getD i false = false → (∀ e ∈ o.after, Region.binds .any e = true → listed.getD e.on false = true) →
    ∀ K : Act → World → Prop, (∀ v w'', M w' w'' → I (listed.setIfInBounds i true) w'' → (∀ s, o.dst = some s → G i w'' v) → K (a'.put o.dst v) w'') →
    if Region.wanted o (yielded ops a'.tmps) = true then o.wp P a' w' K Q else K (a'.put o.dst undef) w'
theorem region_steps2 {id : Nat} {a : Act} {w : World} (M : World → World → Prop) (I : Array Bool → World → Prop) (G : Nat → World → Value → Prop) {n : Nat} (hm : P.follows .mixedOrders = true) (ht : tableOk ops n = true) (hn : a.tmps.size = n)
    (hMr : ∀ w, M w w) (hMt : ∀ a b c, M a b → M b c → M a c) (hI0 : I (Array.replicate ops.size false) w.drew)
    (hmono : ∀ i v w w', M w w' → G i w v → G i w' v) (hstep : StepAll (StepOf2 P ops Q M I G a w) ops.toList 0)
    (hfin : ∀ (listed : Array Bool) (a' : Act) (w' : World), Way2 M I ops G a w.drew listed a' w' → (∀ i, i < ops.size → listed.getD i false = true) → Q .normal a' w') :
    (Code.region id ops true).wp P Q a w := by
  refine wp_region_any hm (way_any2 (G := G) (M := M) (I := I) (a0 := a) (w0 := w.drew) hMt (tableOk_dep ht) (tableOk_dst ht) (fun i o s ho hd => by rw [hn]; exact tableOk_size ht i o s ho hd) hmono (fun i o ho => ?_) hfin ops.size _ a _ (by simp) ?_ ?_)
  · have := stepAll_get hstep i o (by rw [Array.getElem?_toList]; exact ho)
    rwa [Nat.zero_add] at this
  · unfold unlisted
    refine Nat.le_trans (List.length_filter_le _ _) (by simp)
  · refine ⟨hMr _, hI0, rfl, rfl, fun _ _ => rfl, fun i o s ho hl _ => ?_, by simp⟩
    have : (Array.replicate ops.size false).getD i false = false := by
      by_cases h : i < ops.size <;> simp [h]
    rw [this] at hl
    cases hl
/-- An operation that is not wanted: its guard did not yield b. -/
theorem step_unwanted {o : Oper} {ops : Array Oper} {j : Nat} {b : Bool} {s : Tmp} {R : Prop} {a : Act} {w : World} {K : Act → World → Prop} (hg : o.guard = some (j, b)) (hj : (ops[j]?).bind (·.dst) = some s) (hv : a.tmps.getD s undef ≠ .bool b) (h : R) :
    if Region.wanted o (yielded ops a.tmps) = true then o.wp P a w K Q else R := by
  have hy : yielded ops a.tmps j ≠ some b := by
    unfold yielded
    rw [hj]
    intro e
    cases hs : a.tmps[s]? with
    | none => simp [hs] at e
    | some v =>
      have e2 : a.tmps.getD s undef = v := by simp [hs]
      rw [e2] at hv
      cases v <;> simp [hs] at e
      rename_i c
      subst e
      exact hv rfl
  have hw : ¬ Region.wanted o (yielded ops a.tmps) = true := by
    unfold Region.wanted
    rw [hg]
    simp [hy]
  rw [if_neg hw]
  exact h
theorem Way2.puts {listed : Array Bool} {a : Act} {w : World} (h : Way2 M I ops G a0 w0 listed a w) (slots : List Tmp) (hs : writesIn ops slots = true) : a = slots.foldl (fun c s => c.put (some s) (a.tmps.getD s undef)) a0 := by
  have hp := puts_tmps (fun s => a.tmps.getD s undef) slots a0
  have hd := h.defers
  have hz := h.size
  have hold : ∀ j, j ∉ slots → a.tmps.getD j undef = a0.tmps.getD j undef := fun j hj => h.old j fun i o ho => by
    have := Array.all_eq_true_iff_forall_mem.1 hs o (Array.mem_of_getElem? ho)
    intro e
    rw [e] at this
    simp at this
    exact hj this
  generalize hb : slots.foldl (fun c s => c.put (some s) (a.tmps.getD s undef)) a0 = b at hp ⊢
  obtain ⟨t, df⟩ := a
  obtain ⟨t', df'⟩ := b
  have e1 : df = df' := hd.trans hp.2.1.symm
  have e2 : t = t' := by
    apply Array.ext
    · exact hz.trans hp.1.symm
    · intro j h1 h2
      have h3 := hp.2.2 j (by rw [← hp.1]; exact h2)
      have h4 : t'.getD j undef = t.getD j undef := by
        rw [h3]
        by_cases hj : j ∈ slots
        · rw [if_pos hj]
        · rw [if_neg hj]
          exact (hold j hj).symm
      simpa [h1, h2] using h4.symm
  rw [e1, e2]
end
end Go.Proofs.Ytadpbcbgmopfaaa
