/-
  A region that draws its order, by what each of its temporaries holds once it has come up: one small proof an operation, whatever the orders. No condition; nothing here speaks of a program.
-/
import Derived.WalkKit
namespace Go.Proofs.Ytadpbcbgmopfaaa
open Go.RowKit

section
variable {P : Program} {ops : Array Oper} {Q : Exit → Act → World → Prop} {G : Nat → World → Value → Prop} {a0 : Act} {w0 : World}

/-- A region under way: what has come up holds what G says, all other slots are as they were, and nothing that was there has changed. -/
structure Way (ops : Array Oper) (G : Nat → World → Value → Prop) (a0 : Act) (w0 : World) (listed : Array Bool) (a : Act) (w : World) : Prop where
  below : Below w0.heap.size w0 w
  defers : a.defers = a0.defers
  size : a.tmps.size = a0.tmps.size
  old : ∀ s, (∀ (i : Nat) (o : Oper), ops[i]? = some o → o.dst ≠ some s) → a.tmps.getD s undef = a0.tmps.getD s undef
  come : ∀ (i : Nat) (o : Oper) (s : Tmp), ops[i]? = some o → listed.getD i false = true → o.dst = some s → G i w (a.tmps.getD s undef)

/-- How many have not come up. -/
def unlisted (ops : Array Oper) (listed : Array Bool) : Nat := ((List.range ops.size).filter fun i => !listed.getD i false).length

theorem getD_both {listed : Array Bool} {i : Nat} (h : i < listed.size) (d d' : Bool) : listed.getD i d = listed.getD i d' := by simp [h]

theorem unlisted_set {listed : Array Bool} {i : Nat} (hs : listed.size = ops.size) (hi : i < ops.size) (h : listed.getD i false = false) : unlisted ops (listed.setIfInBounds i true) + 1 ≤ unlisted ops listed := by
  unfold unlisted
  have hsub : ∀ (l : List Nat), (l.filter fun k => !(listed.setIfInBounds i true).getD k false).length ≤ (l.filter fun k => !listed.getD k false).length := by
    intro l
    induction l with
    | nil => simp
    | cons k l ih =>
      by_cases hk : k = i
      · subst hk
        have h1 : (listed.setIfInBounds k true).getD k false = true := by simp [hs, hi]
        simp only [List.filter_cons, h1, h, Bool.not_true, Bool.not_false, if_true, if_false, Bool.false_eq_true, List.length_cons]
        omega
      · have h1 : (listed.setIfInBounds i true).getD k false = listed.getD k false := getD_set_ne false (Ne.symm hk)
        simp only [List.filter_cons, h1]
        split <;> (try simp only [List.length_cons]) <;> omega
  have key : ∀ (l : List Nat), i ∈ l → (l.filter fun k => !(listed.setIfInBounds i true).getD k false).length + 1 ≤ (l.filter fun k => !listed.getD k false).length := by
    intro l
    induction l with
    | nil => intro hm; simp at hm
    | cons k l ih =>
      intro hm
      by_cases hk : k = i
      · subst hk
        have h1 : (listed.setIfInBounds k true).getD k false = true := by simp [hs, hi]
        have := hsub l
        simp only [List.filter_cons, h1, h, Bool.not_true, Bool.not_false, if_true, if_false, Bool.false_eq_true, List.length_cons]
        omega
      · have hm' : i ∈ l := by
          rcases List.mem_cons.1 hm with h0 | h0
          · exact absurd h0.symm hk
          · exact h0
        have h1 : (listed.setIfInBounds i true).getD k false = listed.getD k false := getD_set_ne false (Ne.symm hk)
        have := ih hm'
        simp only [List.filter_cons, h1]
        split <;> (try simp only [List.length_cons]) <;> omega
  exact key _ (List.mem_range.2 hi)

theorem all_listed {listed : Array Bool} (hs : listed.size = ops.size) (hdep : ∀ (i : Nat) (o : Oper), ops[i]? = some o → ∀ e ∈ o.after, Region.binds .any e = true → e.on < i) (hr : Region.ready .any ops listed = []) :
    ∀ i, i < ops.size → listed.getD i false = true := by
  intro i
  induction i using Nat.strongRecOn with
  | _ i ih =>
    intro hi
    cases hl : listed.getD i false with
    | true => rfl
    | false =>
      have hm : i ∈ Region.ready .any ops listed := by
        rw [mem_ready]
        refine ⟨by rw [getD_both (by omega) true false]; exact hl, ops[i], Array.getElem?_eq_getElem hi, fun e he hbd => ?_⟩
        have := hdep i _ (Array.getElem?_eq_getElem hi) e he hbd
        exact ih e.on this (by omega)
      rw [hr] at hm
      cases hm

theorem way_any (hdep : ∀ (i : Nat) (o : Oper), ops[i]? = some o → ∀ e ∈ o.after, Region.binds .any e = true → e.on < i)
    (hdst : ∀ (i j : Nat) (o o' : Oper) (s : Tmp), ops[i]? = some o → ops[j]? = some o' → o.dst = some s → o'.dst = some s → i = j)
    (hsz : ∀ (i : Nat) (o : Oper) (s : Tmp), ops[i]? = some o → o.dst = some s → s < a0.tmps.size)
    (hmono : ∀ i v w w', Below w.heap.size w w' → G i w v → G i w' v)
    (hstep : ∀ (i : Nat) (o : Oper), ops[i]? = some o → ∀ (listed : Array Bool) (a : Act) (w : World), Way ops G a0 w0 listed a w → (∀ e ∈ o.after, Region.binds .any e = true → listed.getD e.on false = true) →
      ∀ K : Act → World → Prop, (∀ v w', Below w.heap.size w w' → (∀ s, o.dst = some s → G i w' v) → K (a.put o.dst v) w') →
      if Region.wanted o (yielded ops a.tmps) = true then o.wp P a w K Q else K (a.put o.dst undef) w)
    (hfin : ∀ (listed : Array Bool) (a : Act) (w : World), Way ops G a0 w0 listed a w → (∀ i, i < ops.size → listed.getD i false = true) → Q .normal a w) :
    ∀ (fuel : Nat) (listed : Array Bool) (a : Act) (w : World), listed.size = ops.size → unlisted ops listed ≤ fuel → Way ops G a0 w0 listed a w → wpAny P .any ops Q fuel listed a w := by
  intro fuel
  induction fuel with
  | zero =>
    intro listed a w hs hu hw
    have hall : ∀ i, i < ops.size → listed.getD i false = true := by
      intro i hi
      cases hl : listed.getD i false with
      | true => rfl
      | false => have := unlisted_set hs hi hl; omega
    refine ⟨?_, hfin listed a w hw hall⟩
    apply List.eq_nil_iff_forall_not_mem.2
    intro i hi
    rw [mem_ready] at hi
    obtain ⟨h1, o, ho, _⟩ := hi
    have hlt := (Array.getElem?_eq_some_iff.1 ho).1
    rw [getD_both (by omega) true false, hall i hlt] at h1
    cases h1
  | succ fuel ih =>
    intro listed a w hs hu hw
    refine ⟨fun hr => hfin listed a w hw (all_listed hs hdep hr), fun i hi => ?_⟩
    rw [mem_ready] at hi
    obtain ⟨h1, o, ho, hdeps⟩ := hi
    have hlt := (Array.getElem?_eq_some_iff.1 ho).1
    have h1' : listed.getD i false = false := by rw [getD_both (by omega) false true]; exact h1
    refine wpOp_step ho fun K hK => ?_
    refine hstep i o ho listed a w hw hdeps K fun v w' hb hg => hK _ _ ?_
    refine ih _ _ _ (by simp [hs]) (by have := unlisted_set hs hlt h1'; omega) ?_
    refine ⟨hw.below.trans (hb.mono hw.below.size), ?_, ?_, fun s hno => ?_, fun j o' s ho' hj hd => ?_⟩
    · unfold Act.put; split <;> exact hw.defers
    · unfold Act.put; split
      · simp [hw.size]
      · exact hw.size
    · have hne := hno i o ho
      unfold Act.put
      split
      · rename_i d hd
        have hds : d ≠ s := fun e => hne (by rw [hd, e])
        have : (a.tmps.setIfInBounds d v).getD s undef = a.tmps.getD s undef := by simp [Array.getElem?_setIfInBounds_ne hds]
        simp only
        rw [this]
        exact hw.old s hno
      · exact hw.old s hno
    · by_cases hij : j = i
      · subst hij
        obtain rfl : o' = o := Option.some.inj (ho'.symm.trans ho)
        have hlt2 : s < a.tmps.size := by rw [hw.size]; exact hsz _ _ _ ho hd
        have hv : (a.put o'.dst v).tmps.getD s undef = v := by
          unfold Act.put
          rw [hd]
          simp [hlt2]
        rw [hv]
        exact hg s hd
      · have hj' : listed.getD j false = true := by rwa [getD_set_ne false (Ne.symm hij)] at hj
        have hold := hw.come j o' s ho' hj' hd
        have hv : (a.put o.dst v).tmps.getD s undef = a.tmps.getD s undef := by
          unfold Act.put
          split
          · rename_i d hd2
            have hds : d ≠ s := fun e => hij (hdst j i o' o s ho' ho hd (by rw [hd2, e]))
            simp [Array.getElem?_setIfInBounds_ne hds]
          · rfl
        rw [hv]
        exact hmono _ _ _ _ hb hold

/-- A REGION THAT DRAWS ITS ORDER, BY ITS TEMPORARIES. -/
theorem region_way {id : Nat} {a : Act} {w : World} (G : Nat → World → Value → Prop) (hm : P.follows .mixedOrders = true)
    (hdep : ∀ (i : Nat) (o : Oper), ops[i]? = some o → ∀ e ∈ o.after, Region.binds .any e = true → e.on < i)
    (hdst : ∀ (i j : Nat) (o o' : Oper) (s : Tmp), ops[i]? = some o → ops[j]? = some o' → o.dst = some s → o'.dst = some s → i = j)
    (hsz : ∀ (i : Nat) (o : Oper) (s : Tmp), ops[i]? = some o → o.dst = some s → s < a.tmps.size)
    (hmono : ∀ i v w w', Below w.heap.size w w' → G i w v → G i w' v)
    (hstep : ∀ (i : Nat) (o : Oper), ops[i]? = some o → ∀ (listed : Array Bool) (a' : Act) (w' : World), Way ops G a w.drew listed a' w' → (∀ e ∈ o.after, Region.binds .any e = true → listed.getD e.on false = true) →
      ∀ K : Act → World → Prop, (∀ v w'', Below w'.heap.size w' w'' → (∀ s, o.dst = some s → G i w'' v) → K (a'.put o.dst v) w'') →
      if Region.wanted o (yielded ops a'.tmps) = true then o.wp P a' w' K Q else K (a'.put o.dst undef) w')
    (hfin : ∀ (listed : Array Bool) (a' : Act) (w' : World), Way ops G a w.drew listed a' w' → (∀ i, i < ops.size → listed.getD i false = true) → Q .normal a' w') :
    (Code.region id ops true).wp P Q a w := by
  refine wp_region_any hm (way_any (G := G) (a0 := a) (w0 := w.drew) hdep hdst hsz hmono hstep hfin ops.size _ a _ (by simp) ?_ ?_)
  · unfold unlisted
    refine Nat.le_trans (List.length_filter_le _ _) (by simp)
  · refine ⟨Below.refl _ _, rfl, rfl, fun _ _ => rfl, fun i o s ho hl _ => ?_⟩
    have : (Array.replicate ops.size false).getD i false = false := by
      by_cases h : i < ops.size <;> simp [h]
    rw [this] at hl
    cases hl

/-- The closed facts of a region's table: what an operation waits for stands ahead of it; no temporary is written twice; all lie in the frame. -/
def tableOk (ops : Array Oper) (n : Nat) : Bool :=
  ((List.range ops.size).all fun i => match ops[i]? with | some o => (o.after.all fun e => !Region.binds .any e || decide (e.on < i)) && (match o.dst with | some s => decide (s < n) | none => true) | none => true) &&
  ((List.range ops.size).all fun i => (List.range ops.size).all fun j => decide (i = j) || match ops[i]?, ops[j]? with | some o, some o' => (match o.dst, o'.dst with | some s, some s' => decide (s ≠ s') | _, _ => true) | _, _ => true)
theorem tableOk_dep {n : Nat} (h : tableOk ops n = true) : ∀ (i : Nat) (o : Oper), ops[i]? = some o → ∀ e ∈ o.after, Region.binds .any e = true → e.on < i := by
  intro i o ho e he hbd
  have hlt := (Array.getElem?_eq_some_iff.1 ho).1
  unfold tableOk at h
  rw [Bool.and_eq_true] at h
  have h1 := List.all_eq_true.1 h.1 i (List.mem_range.2 hlt)
  rw [ho] at h1
  simp only [Bool.and_eq_true, Array.all_eq_true_iff_forall_mem] at h1
  have h2 := h1.1 e he
  rw [hbd] at h2
  simpa using h2
theorem tableOk_size {n : Nat} (h : tableOk ops n = true) : ∀ (i : Nat) (o : Oper) (s : Tmp), ops[i]? = some o → o.dst = some s → s < n := by
  intro i o s ho hd
  have hlt := (Array.getElem?_eq_some_iff.1 ho).1
  unfold tableOk at h
  rw [Bool.and_eq_true] at h
  have h1 := List.all_eq_true.1 h.1 i (List.mem_range.2 hlt)
  rw [ho] at h1
  simp only [Bool.and_eq_true, hd, decide_eq_true_eq] at h1
  exact h1.2
theorem tableOk_dst {n : Nat} (h : tableOk ops n = true) : ∀ (i j : Nat) (o o' : Oper) (s : Tmp), ops[i]? = some o → ops[j]? = some o' → o.dst = some s → o'.dst = some s → i = j := by
  intro i j o o' s ho ho' hd hd'
  have hlt := (Array.getElem?_eq_some_iff.1 ho).1
  have hlt' := (Array.getElem?_eq_some_iff.1 ho').1
  unfold tableOk at h
  rw [Bool.and_eq_true] at h
  have h1 := List.all_eq_true.1 (List.all_eq_true.1 h.2 i (List.mem_range.2 hlt)) j (List.mem_range.2 hlt')
  rw [ho, ho'] at h1
  simp only [hd, hd', Bool.or_eq_true, decide_eq_true_eq, ne_eq, not_true_eq_false, or_false] at h1
  exact h1
/-- No operation writes this slot. -/
def unwritten (ops : Array Oper) (s : Tmp) : Bool := ops.all fun o => decide (o.dst ≠ some s)
theorem Way.kept {listed : Array Bool} {a : Act} {w : World} (h : Way ops G a0 w0 listed a w) (s : Tmp) (hu : unwritten ops s = true) : a.tmps.getD s undef = a0.tmps.getD s undef :=
  h.old s fun i o ho => by
    unfold unwritten at hu
    have := Array.all_eq_true_iff_forall_mem.1 hu o (Array.mem_of_getElem? ho)
    simpa using this
/-- What has come up at number i, whose temporary is s. -/
theorem Way.at_ {listed : Array Bool} {a : Act} {w : World} (h : Way ops G a0 w0 listed a w) (i : Nat) (s : Tmp) (hi : (ops[i]?).bind (·.dst) = some s) (hl : listed.getD i false = true) : G i w (a.tmps.getD s undef) := by
  cases ho : ops[i]? with
  | none => rw [ho] at hi; cases hi
  | some o => rw [ho] at hi; exact h.come i o s ho hl hi

/-- What is to be shown of one operation. -/
def StepOf (P : Program) (ops : Array Oper) (Q : Exit → Act → World → Prop) (G : Nat → World → Value → Prop) (a : Act) (w : World) (i : Nat) (o : Oper) : Prop :=
  ∀ (listed : Array Bool) (a' : Act) (w' : World), Way ops G a w.drew listed a' w' → (∀ e ∈ o.after, Region.binds .any e = true → listed.getD e.on false = true) →
    ∀ K : Act → World → Prop, (∀ v w'', Below w'.heap.size w' w'' → (∀ s, o.dst = some s → G i w'' v) → K (a'.put o.dst v) w'') →
    if Region.wanted o (yielded ops a'.tmps) = true then o.wp P a' w' K Q else K (a'.put o.dst undef) w'
def StepAll (f : Nat → Oper → Prop) : List Oper → Nat → Prop
  | [], _ => True
  | o :: r, i => f i o ∧ StepAll f r (i + 1)
theorem stepAll_get {f : Nat → Oper → Prop} : ∀ {l : List Oper} {i : Nat}, StepAll f l i → ∀ (k : Nat) (o : Oper), l[k]? = some o → f (i + k) o
  | [], _, _, _, _, h => by simp at h
  | x :: r, i, hs, 0, o, h => by
    obtain rfl : x = o := by simpa using h
    exact hs.1
  | x :: r, i, hs, k + 1, o, h => by
    have := stepAll_get hs.2 k o (by simpa using h)
    rwa [show i + 1 + k = i + (k + 1) by omega] at this
theorem region_steps {id : Nat} {a : Act} {w : World} (G : Nat → World → Value → Prop) {n : Nat} (hm : P.follows .mixedOrders = true) (ht : tableOk ops n = true) (hn : a.tmps.size = n)
    (hmono : ∀ i v w w', Below w.heap.size w w' → G i w v → G i w' v) (hstep : StepAll (StepOf P ops Q G a w) ops.toList 0)
    (hfin : ∀ (listed : Array Bool) (a' : Act) (w' : World), Way ops G a w.drew listed a' w' → (∀ i, i < ops.size → listed.getD i false = true) → Q .normal a' w') :
    (Code.region id ops true).wp P Q a w :=
  region_way G hm (tableOk_dep ht) (tableOk_dst ht) (fun i o s ho hd => by rw [hn]; exact tableOk_size ht i o s ho hd) hmono
    (fun i o ho => by
      have := stepAll_get hstep i o (by rw [Array.getElem?_toList]; exact ho)
      rwa [Nat.zero_add] at this) hfin
end
section
variable {P : Program} {a : Act} {w : World} {K : Act → World → Prop} {Q : Exit → Act → World → Prop} {dst : Option Tmp} {ty : TypeId} {pos : String} {af : Array Edge} {gd : Option (Nat × Bool)}
theorem step_free {o : Oper} {y : Nat → Option Bool} {R : Prop} (hg : o.guard = none) (h : o.wp P a w K Q) : if Region.wanted o y = true then o.wp P a w K Q else R := by
  have hw : Region.wanted o y = true := by unfold Region.wanted; rw [hg]
  rw [if_pos hw]
  exact h
theorem step_guarded {o : Oper} {ops : Array Oper} {j : Nat} {b : Bool} {s : Tmp} {R : Prop} (hg : o.guard = some (j, b)) (hj : (ops[j]?).bind (·.dst) = some s) (hs : s < a.tmps.size) (hv : a.tmps.getD s undef = .bool b) (h : o.wp P a w K Q) :
    if Region.wanted o (yielded ops a.tmps) = true then o.wp P a w K Q else R := by
  have hy : yielded ops a.tmps j = some b := by
    unfold yielded
    rw [hj]
    have : a.tmps[s]? = some (.bool b) := by
      rw [← hv]; simp [hs]
    simp [this]
  have hw : Region.wanted o (yielded ops a.tmps) = true := by unfold Region.wanted; rw [hg]; simp [hy]
  rw [if_pos hw]
  exact h
theorem wp_move {t : Tmp} (h : K (a.put dst (a.tmps.getD t undef)) w) : Oper.wp P { dst := dst, op := Op.move (.tmp t), type := ty, pos := pos, after := af, guard := gd } a w K Q := h
theorem wp_assign {t : Tmp} (h : K (a.put dst (a.tmps.getD t undef)) w) : Oper.wp P { dst := dst, op := Op.assign (.tmp t), type := ty, pos := pos, after := af, guard := gd } a w K Q := h
end
end Go.Proofs.Ytadpbcbgmopfaaa
