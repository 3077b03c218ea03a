/-
  A region that draws its order, by what each of its temporaries holds once it has come up: one small proof an operation, whatever the orders. No condition; nothing here speaks of a program.
-/
import Derived.WalkKit
import Derived.Test.YtlcddfkhklmieaaRows
import Derived.WalkLawsBesides
import Derived.WalkSpells
import Derived.IntWalk
import Derived.Lib.Hide
import Derived.BigQuiet
import Derived.Deep.QuietTactic
import Derived.Deep.LoopGhost
import Derived.Maps.AppendAt
import Derived.Deep.OwnRows
import Derived.Laws.CopyOwn
import Derived.Laws.AppendOwnNone
import Derived.Deep.RegionLaw
import Derived.Test.YtlcddfkhklmieaaProg
import Derived.Deep.RegionHeld3
import Derived.Deep.DeepCutAuto
import Derived.Lib.SlBytesConst
namespace Go.Proofs.Ytlcddfkhklmieaa
open Go.RowKit

section
variable {P : Program} {ops : Array Oper} {Q : Exit → Act → World → Prop} {G : Nat → World → Value → Prop} {a0 : Act} {w0 : World}

/-- A region under way: what has come up holds what G says, all other slots are as they were, and nothing that was there has changed. -/
structure Way (ops : Array Oper) (G : Nat → World → Value → Prop) (a0 : Act) (w0 : World) (listed : Array Bool) (a : Act) (w : World) : Prop where
  below : Below w0.heap.size w0 w
  defers : a.defers = a0.defers
  size : a.tmps.size = a0.tmps.size
  old : ∀ s, (∀ (i : Nat) (o : Oper), ops[i]? = some o → o.dst ≠ some s) → a.tmps.getD s undef = a0.tmps.getD s undef
  come : ∀ (i : Nat) (o : Oper) (s : Tmp), ops[i]? = some o → listed.getD i false = true → o.dst = some s → G i w (a.tmps.getD s undef)

/-- How many have not come up. -/
def unlisted (ops : Array Oper) (listed : Array Bool) : Nat := ((List.range ops.size).filter fun i => !listed.getD i false).length

theorem getD_both {listed : Array Bool} {i : Nat} (h : i < listed.size) (d d' : Bool) : listed.getD i d = listed.getD i d' := by simp [h]

theorem unlisted_set {listed : Array Bool} {i : Nat} (hs : listed.size = ops.size) (hi : i < ops.size) (h : listed.getD i false = false) : unlisted ops (listed.setIfInBounds i true) + 1 ≤ unlisted ops listed := by
  unfold unlisted
  have hsub : ∀ (l : List Nat), (l.filter fun k => !(listed.setIfInBounds i true).getD k false).length ≤ (l.filter fun k => !listed.getD k false).length := by
    intro l
    induction l with
    | nil => simp
    | cons k l ih =>
      by_cases hk : k = i
      · subst hk
        have h1 : (listed.setIfInBounds k true).getD k false = true := by simp [hs, hi]
        simp only [List.filter_cons, h1, h, Bool.not_true, Bool.not_false, if_true, if_false, Bool.false_eq_true, List.length_cons]
        omega
      · have h1 : (listed.setIfInBounds i true).getD k false = listed.getD k false := getD_set_ne false (Ne.symm hk)
        simp only [List.filter_cons, h1]
        split <;> (try simp only [List.length_cons]) <;> omega
  have key : ∀ (l : List Nat), i ∈ l → (l.filter fun k => !(listed.setIfInBounds i true).getD k false).length + 1 ≤ (l.filter fun k => !listed.getD k false).length := by
    intro l
    induction l with
    | nil => intro hm; simp at hm
    | cons k l ih =>
      intro hm
      by_cases hk : k = i
      · subst hk
        have h1 : (listed.setIfInBounds k true).getD k false = true := by simp [hs, hi]
        have := hsub l
        simp only [List.filter_cons, h1, h, Bool.not_true, Bool.not_false, if_true, if_false, Bool.false_eq_true, List.length_cons]
        omega
      · have hm' : i ∈ l := by
          rcases List.mem_cons.1 hm with h0 | h0
          · exact absurd h0.symm hk
          · exact h0
        have h1 : (listed.setIfInBounds i true).getD k false = listed.getD k false := getD_set_ne false (Ne.symm hk)
        have := ih hm'
        simp only [List.filter_cons, h1]
        split <;> (try simp only [List.length_cons]) <;> omega
  exact key _ (List.mem_range.2 hi)

theorem all_listed {listed : Array Bool} (hs : listed.size = ops.size) (hdep : ∀ (i : Nat) (o : Oper), ops[i]? = some o → ∀ e ∈ o.after, Region.binds .any e = true → e.on < i) (hr : Region.ready .any ops listed = []) :
    ∀ i, i < ops.size → listed.getD i false = true := by
  intro i
  induction i using Nat.strongRecOn with
  | _ i ih =>
    intro hi
    cases hl : listed.getD i false with
    | true => rfl
    | false =>
      have hm : i ∈ Region.ready .any ops listed := by
        rw [mem_ready]
        refine ⟨by rw [getD_both (by omega) true false]; exact hl, ops[i], Array.getElem?_eq_getElem hi, fun e he hbd => ?_⟩
        have := hdep i _ (Array.getElem?_eq_getElem hi) e he hbd
        exact ih e.on this (by omega)
      rw [hr] at hm
      cases hm

theorem way_any (hdep : ∀ (i : Nat) (o : Oper), ops[i]? = some o → ∀ e ∈ o.after, Region.binds .any e = true → e.on < i)
    (hdst : ∀ (i j : Nat) (o o' : Oper) (s : Tmp), ops[i]? = some o → ops[j]? = some o' → o.dst = some s → o'.dst = some s → i = j)
    (hsz : ∀ (i : Nat) (o : Oper) (s : Tmp), ops[i]? = some o → o.dst = some s → s < a0.tmps.size)
    (hmono : ∀ i v w w', Below w.heap.size w w' → G i w v → G i w' v)
    (hstep : ∀ (i : Nat) (o : Oper), ops[i]? = some o → ∀ (listed : Array Bool) (a : Act) (w : World), Way ops G a0 w0 listed a w → (∀ e ∈ o.after, Region.binds .any e = true → listed.getD e.on false = true) →
      ∀ K : Act → World → Prop, (∀ v w', Below w.heap.size w w' → (∀ s, o.dst = some s → G i w' v) → K (a.put o.dst v) w') →
      if Region.wanted o (yielded ops a.tmps) = true then o.wp P a w K Q else K (a.put o.dst undef) w)
    (hfin : ∀ (listed : Array Bool) (a : Act) (w : World), Way ops G a0 w0 listed a w → (∀ i, i < ops.size → listed.getD i false = true) → Q .normal a w) :
    ∀ (fuel : Nat) (listed : Array Bool) (a : Act) (w : World), listed.size = ops.size → unlisted ops listed ≤ fuel → Way ops G a0 w0 listed a w → wpAny P .any ops Q fuel listed a w := by
  intro fuel
  induction fuel with
  | zero =>
    intro listed a w hs hu hw
    have hall : ∀ i, i < ops.size → listed.getD i false = true := by
      intro i hi
      cases hl : listed.getD i false with
      | true => rfl
      | false => have := unlisted_set hs hi hl; omega
    refine ⟨?_, hfin listed a w hw hall⟩
    apply List.eq_nil_iff_forall_not_mem.2
    intro i hi
    rw [mem_ready] at hi
    obtain ⟨h1, o, ho, _⟩ := hi
    have hlt := (Array.getElem?_eq_some_iff.1 ho).1
    rw [getD_both (by omega) true false, hall i hlt] at h1
    cases h1
  | succ fuel ih =>
    intro listed a w hs hu hw
    refine ⟨fun hr => hfin listed a w hw (all_listed hs hdep hr), fun i hi => ?_⟩
    rw [mem_ready] at hi
    obtain ⟨h1, o, ho, hdeps⟩ := hi
    have hlt := (Array.getElem?_eq_some_iff.1 ho).1
    have h1' : listed.getD i false = false := by rw [getD_both (by omega) false true]; exact h1
    refine wpOp_step ho fun K hK => ?_
    refine hstep i o ho listed a w hw hdeps K fun v w' hb hg => hK _ _ ?_
    refine ih _ _ _ (by simp [hs]) (by have := unlisted_set hs hlt h1'; omega) ?_
    refine ⟨hw.below.trans (hb.mono hw.below.size), ?_, ?_, fun s hno => ?_, fun j o' s ho' hj hd => ?_⟩
    · unfold Act.put; split <;> exact hw.defers
    · unfold Act.put; split
      · simp [hw.size]
      · exact hw.size
    · have hne := hno i o ho
      unfold Act.put
      split
      · rename_i d hd
        have hds : d ≠ s := fun e => hne (by rw [hd, e])
        have : (a.tmps.setIfInBounds d v).getD s undef = a.tmps.getD s undef := by simp [Array.getElem?_setIfInBounds_ne hds]
        simp only
        rw [this]
        exact hw.old s hno
      · exact hw.old s hno
    · by_cases hij : j = i
      · subst hij
        obtain rfl : o' = o := Option.some.inj (ho'.symm.trans ho)
        have hlt2 : s < a.tmps.size := by rw [hw.size]; exact hsz _ _ _ ho hd
        have hv : (a.put o'.dst v).tmps.getD s undef = v := by
          unfold Act.put
          rw [hd]
          simp [hlt2]
        rw [hv]
        exact hg s hd
      · have hj' : listed.getD j false = true := by rwa [getD_set_ne false (Ne.symm hij)] at hj
        have hold := hw.come j o' s ho' hj' hd
        have hv : (a.put o.dst v).tmps.getD s undef = a.tmps.getD s undef := by
          unfold Act.put
          split
          · rename_i d hd2
            have hds : d ≠ s := fun e => hij (hdst j i o' o s ho' ho hd (by rw [hd2, e]))
            simp [Array.getElem?_setIfInBounds_ne hds]
          · rfl
        rw [hv]
        exact hmono _ _ _ _ hb hold

/-- A REGION THAT DRAWS ITS ORDER, BY ITS TEMPORARIES. -/
theorem region_way {id : Nat} {a : Act} {w : World} (G : Nat → World → Value → Prop) (hm : P.follows .mixedOrders = true)
    (hdep : ∀ (i : Nat) (o : Oper), ops[i]? = some o → ∀ e ∈ o.after, Region.binds .any e = true → e.on < i)
    (hdst : ∀ (i j : Nat) (o o' : Oper) (s : Tmp), ops[i]? = some o → ops[j]? = some o' → o.dst = some s → o'.dst = some s → i = j)
    (hsz : ∀ (i : Nat) (o : Oper) (s : Tmp), ops[i]? = some o → o.dst = some s → s < a.tmps.size)
    (hmono : ∀ i v w w', Below w.heap.size w w' → G i w v → G i w' v)
    (hstep : ∀ (i : Nat) (o : Oper), ops[i]? = some o → ∀ (listed : Array Bool) (a' : Act) (w' : World), Way ops G a w.drew listed a' w' → (∀ e ∈ o.after, Region.binds .any e = true → listed.getD e.on false = true) →
      ∀ K : Act → World → Prop, (∀ v w'', Below w'.heap.size w' w'' → (∀ s, o.dst = some s → G i w'' v) → K (a'.put o.dst v) w'') →
      if Region.wanted o (yielded ops a'.tmps) = true then o.wp P a' w' K Q else K (a'.put o.dst undef) w')
    (hfin : ∀ (listed : Array Bool) (a' : Act) (w' : World), Way ops G a w.drew listed a' w' → (∀ i, i < ops.size → listed.getD i false = true) → Q .normal a' w') :
    (Code.region id ops true).wp P Q a w := by
  refine wp_region_any hm (way_any (G := G) (a0 := a) (w0 := w.drew) hdep hdst hsz hmono hstep hfin ops.size _ a _ (by simp) ?_ ?_)
  · unfold unlisted
    refine Nat.le_trans (List.length_filter_le _ _) (by simp)
  · refine ⟨Below.refl _ _, rfl, rfl, fun _ _ => rfl, fun i o s ho hl _ => ?_⟩
    have : (Array.replicate ops.size false).getD i false = false := by
      by_cases h : i < ops.size <;> simp [h]
    rw [this] at hl
    cases hl

/-- The closed facts of a region's table: what an operation waits for stands ahead of it; no temporary is written twice; all lie in the frame. -/
def tableOk (ops : Array Oper) (n : Nat) : Bool :=
  ((List.range ops.size).all fun i => match ops[i]? with | some o => (o.after.all fun e => !Region.binds .any e || decide (e.on < i)) && (match o.dst with | some s => decide (s < n) | none => true) | none => true) &&
  ((List.range ops.size).all fun i => (List.range ops.size).all fun j => decide (i = j) || match ops[i]?, ops[j]? with | some o, some o' => (match o.dst, o'.dst with | some s, some s' => decide (s ≠ s') | _, _ => true) | _, _ => true)
theorem tableOk_dep {n : Nat} (h : tableOk ops n = true) : ∀ (i : Nat) (o : Oper), ops[i]? = some o → ∀ e ∈ o.after, Region.binds .any e = true → e.on < i := by
  intro i o ho e he hbd
  have hlt := (Array.getElem?_eq_some_iff.1 ho).1
  unfold tableOk at h
  rw [Bool.and_eq_true] at h
  have h1 := List.all_eq_true.1 h.1 i (List.mem_range.2 hlt)
  rw [ho] at h1
  simp only [Bool.and_eq_true, Array.all_eq_true_iff_forall_mem] at h1
  have h2 := h1.1 e he
  rw [hbd] at h2
  simpa using h2
theorem tableOk_size {n : Nat} (h : tableOk ops n = true) : ∀ (i : Nat) (o : Oper) (s : Tmp), ops[i]? = some o → o.dst = some s → s < n := by
  intro i o s ho hd
  have hlt := (Array.getElem?_eq_some_iff.1 ho).1
  unfold tableOk at h
  rw [Bool.and_eq_true] at h
  have h1 := List.all_eq_true.1 h.1 i (List.mem_range.2 hlt)
  rw [ho] at h1
  simp only [Bool.and_eq_true, hd, decide_eq_true_eq] at h1
  exact h1.2
theorem tableOk_dst {n : Nat} (h : tableOk ops n = true) : ∀ (i j : Nat) (o o' : Oper) (s : Tmp), ops[i]? = some o → ops[j]? = some o' → o.dst = some s → o'.dst = some s → i = j := by
  intro i j o o' s ho ho' hd hd'
  have hlt := (Array.getElem?_eq_some_iff.1 ho).1
  have hlt' := (Array.getElem?_eq_some_iff.1 ho').1
  unfold tableOk at h
  rw [Bool.and_eq_true] at h
  have h1 := List.all_eq_true.1 (List.all_eq_true.1 h.2 i (List.mem_range.2 hlt)) j (List.mem_range.2 hlt')
  rw [ho, ho'] at h1
  simp only [hd, hd', Bool.or_eq_true, decide_eq_true_eq, ne_eq, not_true_eq_false, or_false] at h1
  exact h1
/-- No operation writes this slot. -/
def unwritten (ops : Array Oper) (s : Tmp) : Bool := ops.all fun o => decide (o.dst ≠ some s)
theorem Way.kept {listed : Array Bool} {a : Act} {w : World} (h : Way ops G a0 w0 listed a w) (s : Tmp) (hu : unwritten ops s = true) : a.tmps.getD s undef = a0.tmps.getD s undef :=
  h.old s fun i o ho => by
    unfold unwritten at hu
    have := Array.all_eq_true_iff_forall_mem.1 hu o (Array.mem_of_getElem? ho)
    simpa using this
/-- What has come up at number i, whose temporary is s. -/
theorem Way.at_ {listed : Array Bool} {a : Act} {w : World} (h : Way ops G a0 w0 listed a w) (i : Nat) (s : Tmp) (hi : (ops[i]?).bind (·.dst) = some s) (hl : listed.getD i false = true) : G i w (a.tmps.getD s undef) := by
  cases ho : ops[i]? with
  | none => rw [ho] at hi; cases hi
  | some o => rw [ho] at hi; exact h.come i o s ho hl hi

/-- What is to be shown of one operation. -/
def StepOf (P : Program) (ops : Array Oper) (Q : Exit → Act → World → Prop) (G : Nat → World → Value → Prop) (a : Act) (w : World) (i : Nat) (o : Oper) : Prop :=
  ∀ (listed : Array Bool) (a' : Act) (w' : World), Way ops G a w.drew listed a' w' → (∀ e ∈ o.after, Region.binds .any e = true → listed.getD e.on false = true) →
    ∀ K : Act → World → Prop, (∀ v w'', Below w'.heap.size w' w'' → (∀ s, o.dst = some s → G i w'' v) → K (a'.put o.dst v) w'') →
    if Region.wanted o (yielded ops a'.tmps) = true then o.wp P a' w' K Q else K (a'.put o.dst undef) w'
def StepAll (f : Nat → Oper → Prop) : List Oper → Nat → Prop
  | [], _ => True
  | o :: r, i => f i o ∧ StepAll f r (i + 1)
theorem stepAll_get {f : Nat → Oper → Prop} : ∀ {l : List Oper} {i : Nat}, StepAll f l i → ∀ (k : Nat) (o : Oper), l[k]? = some o → f (i + k) o
  | [], _, _, _, _, h => by simp at h
  | x :: r, i, hs, 0, o, h => by
    obtain rfl : x = o := by simpa using h
    exact hs.1
  | x :: r, i, hs, k + 1, o, h => by
    have := stepAll_get hs.2 k o (by simpa using h)
    rwa [show i + 1 + k = i + (k + 1) by omega] at this
theorem region_steps {id : Nat} {a : Act} {w : World} (G : Nat → World → Value → Prop) {n : Nat} (hm : P.follows .mixedOrders = true) (ht : tableOk ops n = true) (hn : a.tmps.size = n)
    (hmono : ∀ i v w w', Below w.heap.size w w' → G i w v → G i w' v) (hstep : StepAll (StepOf P ops Q G a w) ops.toList 0)
    (hfin : ∀ (listed : Array Bool) (a' : Act) (w' : World), Way ops G a w.drew listed a' w' → (∀ i, i < ops.size → listed.getD i false = true) → Q .normal a' w') :
    (Code.region id ops true).wp P Q a w :=
  region_way G hm (tableOk_dep ht) (tableOk_dst ht) (fun i o s ho hd => by rw [hn]; exact tableOk_size ht i o s ho hd) hmono
    (fun i o ho => by
      have := stepAll_get hstep i o (by rw [Array.getElem?_toList]; exact ho)
      rwa [Nat.zero_add] at this) hfin
end
section
variable {P : Program} {a : Act} {w : World} {K : Act → World → Prop} {Q : Exit → Act → World → Prop} {dst : Option Tmp} {ty : TypeId} {pos : String} {af : Array Edge} {gd : Option (Nat × Bool)}
theorem step_free {o : Oper} {y : Nat → Option Bool} {R : Prop} (hg : o.guard = none) (h : o.wp P a w K Q) : if Region.wanted o y = true then o.wp P a w K Q else R := by
  have hw : Region.wanted o y = true := by unfold Region.wanted; rw [hg]
  rw [if_pos hw]
  exact h
theorem step_guarded {o : Oper} {ops : Array Oper} {j : Nat} {b : Bool} {s : Tmp} {R : Prop} (hg : o.guard = some (j, b)) (hj : (ops[j]?).bind (·.dst) = some s) (hs : s < a.tmps.size) (hv : a.tmps.getD s undef = .bool b) (h : o.wp P a w K Q) :
    if Region.wanted o (yielded ops a.tmps) = true then o.wp P a w K Q else R := by
  have hy : yielded ops a.tmps j = some b := by
    unfold yielded
    rw [hj]
    have : a.tmps[s]? = some (.bool b) := by
      rw [← hv]; simp [hs]
    simp [this]
  have hw : Region.wanted o (yielded ops a.tmps) = true := by unfold Region.wanted; rw [hg]; simp [hy]
  rw [if_pos hw]
  exact h
theorem wp_move {t : Tmp} (h : K (a.put dst (a.tmps.getD t undef)) w) : Oper.wp P { dst := dst, op := Op.move (.tmp t), type := ty, pos := pos, after := af, guard := gd } a w K Q := h
theorem wp_assign {t : Tmp} (h : K (a.put dst (a.tmps.getD t undef)) w) : Oper.wp P { dst := dst, op := Op.assign (.tmp t), type := ty, pos := pos, after := af, guard := gd } a w K Q := h
end
end Go.Proofs.Ytlcddfkhklmieaa
/-
  A region that draws its order, by what each of its temporaries holds (XRegion): the frame behind it, written out. No condition; nothing here speaks of a program.
-/
namespace Go.Proofs.Ytlcddfkhklmieaa
open Go.RowKit

section
variable {P : Program} {ops : Array Oper} {G : Nat → World → Value → Prop} {a0 a : Act} {w0 w : World} {listed : Array Bool}
/-- All that the region writes lies in these slots. -/
def writesIn (ops : Array Oper) (slots : List Tmp) : Bool := ops.all fun o => match o.dst with | some s => slots.contains s | none => true
theorem puts_tmps (vals : Tmp → Value) : ∀ (slots : List Tmp) (b : Act), (slots.foldl (fun c s => c.put (some s) (vals s)) b).tmps.size = b.tmps.size ∧ (slots.foldl (fun c s => c.put (some s) (vals s)) b).defers = b.defers ∧
    ∀ j, j < b.tmps.size → (slots.foldl (fun c s => c.put (some s) (vals s)) b).tmps.getD j undef = if j ∈ slots then vals j else b.tmps.getD j undef := by
  intro slots
  induction slots with
  | nil => intro b; simp
  | cons s r ih =>
    intro b
    have h := ih (b.put (some s) (vals s))
    have hsz : (b.put (some s) (vals s)).tmps.size = b.tmps.size := by simp [Act.put]
    have hdf : (b.put (some s) (vals s)).defers = b.defers := rfl
    refine ⟨h.1.trans hsz, h.2.1.trans hdf, fun j hj => ?_⟩
    rw [List.foldl_cons, h.2.2 j (by rw [hsz]; exact hj)]
    by_cases hr : j ∈ r
    · rw [if_pos hr, if_pos (by simp [hr])]
    · rw [if_neg hr]
      by_cases hs : j = s
      · subst hs
        rw [if_pos (by simp)]
        simp [Act.put, hj]
      · rw [if_neg (by simp [hr, hs])]
        simp [Act.put, Array.getElem?_setIfInBounds_ne (Ne.symm hs)]
theorem Way.puts (h : Way ops G a0 w0 listed a w) (slots : List Tmp) (hs : writesIn ops slots = true) : a = slots.foldl (fun c s => c.put (some s) (a.tmps.getD s undef)) a0 := by
  have hp := puts_tmps (fun s => a.tmps.getD s undef) slots a0
  have hd := h.defers
  have hz := h.size
  have hold : ∀ j, j ∉ slots → a.tmps.getD j undef = a0.tmps.getD j undef := fun j hj => h.old j fun i o ho => by
    have := Array.all_eq_true_iff_forall_mem.1 hs o (Array.mem_of_getElem? ho)
    intro e
    rw [e] at this
    simp at this
    exact hj this
  generalize hb : slots.foldl (fun c s => c.put (some s) (a.tmps.getD s undef)) a0 = b at hp ⊢
  obtain ⟨t, df⟩ := a
  obtain ⟨t', df'⟩ := b
  have e1 : df = df' := hd.trans hp.2.1.symm
  have e2 : t = t' := by
    apply Array.ext
    · exact hz.trans hp.1.symm
    · intro j h1 h2
      have h3 := hp.2.2 j (by rw [← hp.1]; exact h2)
      have h4 : t'.getD j undef = t.getD j undef := by
        rw [h3]
        by_cases hj : j ∈ slots
        · rw [if_pos hj]
        · rw [if_neg hj]
          exact (hold j hj).symm
      simpa [h1, h2] using h4.symm
  rw [e1, e2]
end
end Go.Proofs.Ytlcddfkhklmieaa
/-
  A region that draws its order, in which calls may turn what lies there: like XRegion, with a relation M between worlds and a state I that each operation carries on.
-/
namespace Go.Proofs.Ytlcddfkhklmieaa
open Go.RowKit

section
variable {P : Program} {ops : Array Oper} {Q : Exit → Act → World → Prop} {G : Nat → World → Value → Prop} {M : World → World → Prop} {I : Array Bool → World → Prop} {a0 : Act} {w0 : World}

structure Way2 (M : World → World → Prop) (I : Array Bool → World → Prop) (ops : Array Oper) (G : Nat → World → Value → Prop) (a0 : Act) (w0 : World) (listed : Array Bool) (a : Act) (w : World) : Prop where
  held : M w0 w
  inv : I listed w
  defers : a.defers = a0.defers
  size : a.tmps.size = a0.tmps.size
  old : ∀ s, (∀ (i : Nat) (o : Oper), ops[i]? = some o → o.dst ≠ some s) → a.tmps.getD s undef = a0.tmps.getD s undef
  come : ∀ (i : Nat) (o : Oper) (s : Tmp), ops[i]? = some o → listed.getD i false = true → o.dst = some s → G i w (a.tmps.getD s undef)
  lsize : listed.size = ops.size

theorem way_any2 (hMt : ∀ a b c, M a b → M b c → M a c) (hdep : ∀ (i : Nat) (o : Oper), ops[i]? = some o → ∀ e ∈ o.after, Region.binds .any e = true → e.on < i)
    (hdst : ∀ (i j : Nat) (o o' : Oper) (s : Tmp), ops[i]? = some o → ops[j]? = some o' → o.dst = some s → o'.dst = some s → i = j)
    (hsz : ∀ (i : Nat) (o : Oper) (s : Tmp), ops[i]? = some o → o.dst = some s → s < a0.tmps.size)
    (hmono : ∀ i v w w', M w w' → G i w v → G i w' v)
    (hstep : ∀ (i : Nat) (o : Oper), ops[i]? = some o → ∀ (listed : Array Bool) (a : Act) (w : World), Way2 M I ops G a0 w0 listed a w → listed.getD i false = false → (∀ e ∈ o.after, Region.binds .any e = true → listed.getD e.on false = true) →
      ∀ K : Act → World → Prop, (∀ v w', M w w' → I (listed.setIfInBounds i true) w' → (∀ s, o.dst = some s → G i w' v) → K (a.put o.dst v) w') →
      if Region.wanted o (yielded ops a.tmps) = true then o.wp P a w K Q else K (a.put o.dst undef) w)
    (hfin : ∀ (listed : Array Bool) (a : Act) (w : World), Way2 M I ops G a0 w0 listed a w → (∀ i, i < ops.size → listed.getD i false = true) → Q .normal a w) :
    ∀ (fuel : Nat) (listed : Array Bool) (a : Act) (w : World), listed.size = ops.size → unlisted ops listed ≤ fuel → Way2 M I ops G a0 w0 listed a w → wpAny P .any ops Q fuel listed a w := by
  intro fuel
  induction fuel with
  | zero =>
    intro listed a w hs hu hw
    have hall : ∀ i, i < ops.size → listed.getD i false = true := by
      intro i hi
      cases hl : listed.getD i false with
      | true => rfl
      | false => have := unlisted_set hs hi hl; omega
    refine ⟨?_, hfin listed a w hw hall⟩
    apply List.eq_nil_iff_forall_not_mem.2
    intro i hi
    rw [mem_ready] at hi
    obtain ⟨h1, o, ho, _⟩ := hi
    have hlt := (Array.getElem?_eq_some_iff.1 ho).1
    rw [getD_both (by omega) true false, hall i hlt] at h1
    cases h1
  | succ fuel ih =>
    intro listed a w hs hu hw
    refine ⟨fun hr => hfin listed a w hw (all_listed hs hdep hr), fun i hi => ?_⟩
    rw [mem_ready] at hi
    obtain ⟨h1, o, ho, hdeps⟩ := hi
    have hlt := (Array.getElem?_eq_some_iff.1 ho).1
    have h1' : listed.getD i false = false := by rw [getD_both (by omega) false true]; exact h1
    refine wpOp_step ho fun K hK => ?_
    refine hstep i o ho listed a w hw h1' hdeps K fun v w' hb hinv hg => hK _ _ ?_
    refine ih _ _ _ (by simp [hs]) (by have := unlisted_set hs hlt h1'; omega) ?_
    refine ⟨hMt _ _ _ hw.held hb, hinv, ?_, ?_, fun s hno => ?_, fun j o' s ho' hj hd => ?_, by simp [hs]⟩
    · unfold Act.put; split <;> exact hw.defers
    · unfold Act.put; split
      · simp [hw.size]
      · exact hw.size
    · have hne := hno i o ho
      unfold Act.put
      split
      · rename_i d hd
        have hds : d ≠ s := fun e => hne (by rw [hd, e])
        have : (a.tmps.setIfInBounds d v).getD s undef = a.tmps.getD s undef := by simp [Array.getElem?_setIfInBounds_ne hds]
        simp only
        rw [this]
        exact hw.old s hno
      · exact hw.old s hno
    · by_cases hij : j = i
      · subst hij
        obtain rfl : o' = o := Option.some.inj (ho'.symm.trans ho)
        have hlt2 : s < a.tmps.size := by rw [hw.size]; exact hsz _ _ _ ho hd
        have hv : (a.put o'.dst v).tmps.getD s undef = v := by
          unfold Act.put
          rw [hd]
          simp [hlt2]
        rw [hv]
        exact hg s hd
      · have hj' : listed.getD j false = true := by rwa [getD_set_ne false (Ne.symm hij)] at hj
        have hold := hw.come j o' s ho' hj' hd
        have hv : (a.put o.dst v).tmps.getD s undef = a.tmps.getD s undef := by
          unfold Act.put
          split
          · rename_i d hd2
            have hds : d ≠ s := fun e => hij (hdst j i o' o s ho' ho hd (by rw [hd2, e]))
            simp [Array.getElem?_setIfInBounds_ne hds]
          · rfl
        rw [hv]
        exact hmono _ _ _ _ hb hold
theorem Way2.kept {listed : Array Bool} {a : Act} {w : World} (h : Way2 M I ops G a0 w0 listed a w) (s : Tmp) (hu : unwritten ops s = true) : a.tmps.getD s undef = a0.tmps.getD s undef :=
  h.old s fun i o ho => by
    unfold unwritten at hu
    have := Array.all_eq_true_iff_forall_mem.1 hu o (Array.mem_of_getElem? ho)
    simpa using this
theorem Way2.at_ {listed : Array Bool} {a : Act} {w : World} (h : Way2 M I ops G a0 w0 listed a w) (i : Nat) (s : Tmp) (hi : (ops[i]?).bind (·.dst) = some s) (hl : listed.getD i false = true) : G i w (a.tmps.getD s undef) := by
  cases ho : ops[i]? with
  | none => rw [ho] at hi; cases hi
  | some o => rw [ho] at hi; exact h.come i o s ho hl hi
/-- What is to be shown of one operation. -/
def StepOf2 (P : Program) (ops : Array Oper) (Q : Exit → Act → World → Prop) (M : World → World → Prop) (I : Array Bool → World → Prop) (G : Nat → World → Value → Prop) (a : Act) (w : World) (i : Nat) (o : Oper) : Prop :=
  ∀ (listed : Array Bool) (a' : Act) (w' : World), Way2 M I ops G a w.drew listed a' w' → listed.getD i false = false → (∀ e ∈ o.after, Region.binds .any e = true → listed.getD e.on false = true) →
    ∀ K : Act → World → Prop, (∀ v w'', M w' w'' → I (listed.setIfInBounds i true) w'' → (∀ s, o.dst = some s → G i w'' v) → K (a'.put o.dst v) w'') →
    if Region.wanted o (yielded ops a'.tmps) = true then o.wp P a' w' K Q else K (a'.put o.dst undef) w'
theorem region_steps2 {id : Nat} {a : Act} {w : World} (M : World → World → Prop) (I : Array Bool → World → Prop) (G : Nat → World → Value → Prop) {n : Nat} (hm : P.follows .mixedOrders = true) (ht : tableOk ops n = true) (hn : a.tmps.size = n)
    (hMr : ∀ w, M w w) (hMt : ∀ a b c, M a b → M b c → M a c) (hI0 : I (Array.replicate ops.size false) w.drew)
    (hmono : ∀ i v w w', M w w' → G i w v → G i w' v) (hstep : StepAll (StepOf2 P ops Q M I G a w) ops.toList 0)
    (hfin : ∀ (listed : Array Bool) (a' : Act) (w' : World), Way2 M I ops G a w.drew listed a' w' → (∀ i, i < ops.size → listed.getD i false = true) → Q .normal a' w') :
    (Code.region id ops true).wp P Q a w := by
  refine wp_region_any hm (way_any2 (G := G) (M := M) (I := I) (a0 := a) (w0 := w.drew) hMt (tableOk_dep ht) (tableOk_dst ht) (fun i o s ho hd => by rw [hn]; exact tableOk_size ht i o s ho hd) hmono (fun i o ho => ?_) hfin ops.size _ a _ (by simp) ?_ ?_)
  · have := stepAll_get hstep i o (by rw [Array.getElem?_toList]; exact ho)
    rwa [Nat.zero_add] at this
  · unfold unlisted
    refine Nat.le_trans (List.length_filter_le _ _) (by simp)
  · refine ⟨hMr _, hI0, rfl, rfl, fun _ _ => rfl, fun i o s ho hl _ => ?_, by simp⟩
    have : (Array.replicate ops.size false).getD i false = false := by
      by_cases h : i < ops.size <;> simp [h]
    rw [this] at hl
    cases hl
/-- An operation that is not wanted: its guard did not yield b. -/
theorem step_unwanted {o : Oper} {ops : Array Oper} {j : Nat} {b : Bool} {s : Tmp} {R : Prop} {a : Act} {w : World} {K : Act → World → Prop} (hg : o.guard = some (j, b)) (hj : (ops[j]?).bind (·.dst) = some s) (hv : a.tmps.getD s undef ≠ .bool b) (h : R) :
    if Region.wanted o (yielded ops a.tmps) = true then o.wp P a w K Q else R := by
  have hy : yielded ops a.tmps j ≠ some b := by
    unfold yielded
    rw [hj]
    intro e
    cases hs : a.tmps[s]? with
    | none => simp [hs] at e
    | some v =>
      have e2 : a.tmps.getD s undef = v := by simp [hs]
      rw [e2] at hv
      cases v <;> simp [hs] at e
      rename_i c
      subst e
      exact hv rfl
  have hw : ¬ Region.wanted o (yielded ops a.tmps) = true := by
    unfold Region.wanted
    rw [hg]
    simp [hy]
  rw [if_neg hw]
  exact h
theorem Way2.puts {listed : Array Bool} {a : Act} {w : World} (h : Way2 M I ops G a0 w0 listed a w) (slots : List Tmp) (hs : writesIn ops slots = true) : a = slots.foldl (fun c s => c.put (some s) (a.tmps.getD s undef)) a0 := by
  have hp := puts_tmps (fun s => a.tmps.getD s undef) slots a0
  have hd := h.defers
  have hz := h.size
  have hold : ∀ j, j ∉ slots → a.tmps.getD j undef = a0.tmps.getD j undef := fun j hj => h.old j fun i o ho => by
    have := Array.all_eq_true_iff_forall_mem.1 hs o (Array.mem_of_getElem? ho)
    intro e
    rw [e] at this
    simp at this
    exact hj this
  generalize hb : slots.foldl (fun c s => c.put (some s) (a.tmps.getD s undef)) a0 = b at hp ⊢
  obtain ⟨t, df⟩ := a
  obtain ⟨t', df'⟩ := b
  have e1 : df = df' := hd.trans hp.2.1.symm
  have e2 : t = t' := by
    apply Array.ext
    · exact hz.trans hp.1.symm
    · intro j h1 h2
      have h3 := hp.2.2 j (by rw [← hp.1]; exact h2)
      have h4 : t'.getD j undef = t.getD j undef := by
        rw [h3]
        by_cases hj : j ∈ slots
        · rw [if_pos hj]
        · rw [if_neg hj]
          exact (hold j hj).symm
      simpa [h1, h2] using h4.symm
  rw [e1, e2]
end
end Go.Proofs.Ytlcddfkhklmieaa
/-
  Words for a seat's memory: a slice that reads as a row of bytes; a slice of bytes that the program itself made; what a call leaves alone. No condition.
-/
namespace Go.Proofs.Ytlcddfkhklmieaa
open Go.RowKit

/-- The number at place k of a row of bytes. -/
def at8 (l : List UInt8) (k : Nat) : Nat := (l.getD k 0).toNat
theorem at8_lt (l : List UInt8) (k : Nat) : at8 l k < 256 := (l.getD k 0).toNat_lt
/-- A slice's address A under which the bytes l lie, in a block below B. -/
def Bytes (w : World) (B : Nat) (A : Option Addr) (l : List UInt8) : Prop :=
  0 < l.length → ∃ b off, A = some ⟨b, off, none⟩ ∧ b < B ∧ ∀ k, k < l.length → w.cell? ⟨b, off + k, none⟩ = some (.int .u8 ((at8 l k : Nat) : Int))

/-- Nothing that was there has turned but the blocks that S names. -/
structure Only (S : Nat → Prop) (w w' : World) : Prop where
  os : w'.os = w.os
  tape : w'.tape = w.tape
  output : w'.output = w.output
  size : w.heap.size ≤ w'.heap.size
  block : ∀ k, k < w.heap.size → ¬ S k → w'.heap[k]? = w.heap[k]?
namespace Only
variable {S T : Nat → Prop} {a b c w w' : World}
theorem refl (S : Nat → Prop) (w : World) : Only S w w := ⟨rfl, rfl, rfl, Nat.le_refl _, fun _ _ _ => rfl⟩
theorem weak (h : Only T w w') (hS : ∀ k, k < w.heap.size → T k → S k) : Only S w w' := ⟨h.os, h.tape, h.output, h.size, fun k hk hn => h.block k hk fun ht => hn (hS k hk ht)⟩
theorem trans (h : Only S a b) (k : Only T b c) (hT : ∀ k, k < a.heap.size → T k → S k) : Only S a c :=
  ⟨k.os.trans h.os, k.tape.trans h.tape, k.output.trans h.output, Nat.le_trans h.size k.size, fun i hi hn => (k.block i (Nat.lt_of_lt_of_le hi h.size) fun ht => hn (hT i hi ht)).trans (h.block i hi hn)⟩
theorem ofBelow (h : Below w.heap.size w w') : Only S w w' := ⟨h.os, h.tape, h.output, h.size, fun k hk _ => h.block k hk⟩
theorem ofGrown {row : Option Nat} (h : w.grownBy w' row) : Only (fun k => row = some k) w w' := ⟨h.os, h.tape, h.output, h.size, fun k hk hn => h.block k hk fun e => hn e.symm⟩
theorem alloc (h : Only S a w) (o : Obj) : Only S a (w.alloc o) :=
  ⟨h.os, h.tape, h.output, by have := h.size; simp; omega, fun k hk hn => (Below.heap_alloc w o k (Nat.lt_of_lt_of_le hk h.size)).trans (h.block k hk hn)⟩
theorem setCell (h : Only S a w) {p : Addr} (hp : S p.block ∨ a.heap.size ≤ p.block) (u : Value) : Only S a (w.setCell p u) :=
  ⟨h.os, h.tape, h.output, by have := h.size; simpa using this, fun k hk hn => (Below.heap_setCell w p u k (fun e => by
    subst e
    rcases hp with hp | hp
    · exact hn hp
    · omega)).trans (h.block k hk hn)⟩
theorem drew (h : Only S a w) : Only S a w.drew := ⟨h.os, h.tape, h.output, h.size, h.block⟩
theorem drewN (h : Only S a w) (n : Nat) : Only S a (w.drewN n) := ⟨h.os, h.tape, h.output, h.size, h.block⟩
/-- What lies below all that turned is as it was. -/
theorem below {B : Nat} {w0 : World} (h : Only S w w') (hb : Below B w0 w) (hS : ∀ k, S k → B ≤ k) (hB : B ≤ w.heap.size) : Below B w0 w' :=
  ⟨h.os.trans hb.os, h.tape.trans hb.tape, h.output.trans hb.output, Nat.le_trans hb.size h.size, fun k hk => (h.block k (Nat.lt_of_lt_of_le hk hB) fun hs => by have := hS k hs; omega).trans (hb.block k hk)⟩
theorem cell (h : Only S w w') {p : Addr} (hp : p.block < w.heap.size) (hn : ¬ S p.block) : w'.cell? p = w.cell? p := World.cell?_of_block (w := w) (h.block p.block hp hn)
end Only
theorem lt_of_heap {w : World} {k : Nat} {o : Obj} (h : w.heap[k]? = some o) : k < w.heap.size := by
  rcases Nat.lt_or_ge k w.heap.size with hlt | hge
  · exact hlt
  · rw [Array.getElem?_eq_none hge] at h; cases h

section
variable {w w' : World} {B B' : Nat} {A : Option Addr} {l : List UInt8}
theorem Bytes.nil_ : Bytes w B A [] := fun h => absurd h (by simp)
theorem Bytes.keep (h : Bytes w B A l) (hk : ∀ b o, b < B → w'.cell? ⟨b, o, none⟩ = w.cell? ⟨b, o, none⟩) : Bytes w' B A l := fun hn => by
  obtain ⟨b, off, e, hb, hc⟩ := h hn
  exact ⟨b, off, e, hb, fun k hk' => (hk _ _ hb).trans (hc k hk')⟩
theorem Bytes.more (h : Bytes w B A l) (hB : B ≤ B') : Bytes w B' A l := fun hn => by
  obtain ⟨b, off, e, hb, hc⟩ := h hn
  exact ⟨b, off, e, by omega, hc⟩
theorem Bytes.below (h : Bytes w B A l) (hb : Below B w w') : Bytes w' B A l := h.keep fun b o hp => hb.cell (p := ⟨b, o, none⟩) hp
theorem Bytes.drew (h : Bytes w B A l) : Bytes w.drew B A l := h
theorem Bytes.drewN (h : Bytes w B A l) (k : Nat) : Bytes (w.drewN k) B A l := h
theorem Bytes.alloc (h : Bytes w B A l) (hB : B ≤ w.heap.size) (o : Obj) : Bytes (w.alloc o) B A l := h.keep fun b i hp => World.cell?_alloc_lt w o ⟨b, i, none⟩ (by simp only; omega)
theorem Bytes.setCell (h : Bytes w B A l) {p : Addr} (hB : B ≤ p.block) (u : Value) : Bytes (w.setCell p u) B A l :=
  h.keep fun b i hq => World.cell?_setCell_other w p ⟨b, i, none⟩ u (fun e => by subst e; simp only at hB; omega)
end

/-! Blocks of bytes that the call itself made. -/
def bv (l : List UInt8) : List Value := l.map fun c => .int .u8 ((c.toNat : Nat) : Int)
@[simp] theorem bv_length (l : List UInt8) : (bv l).length = l.length := by simp [bv]
theorem bv_append (a b : List UInt8) : bv (a ++ b) = bv a ++ bv b := by simp [bv]
theorem bv_one (l : List UInt8) : ∀ v ∈ bv l, v.oneCell' = true := by
  intro v hv
  obtain ⟨c, _, rfl⟩ := List.mem_map.1 hv
  rfl
theorem bv_get {l : List UInt8} {k : Nat} (h : k < l.length) : (bv l)[k]? = some (.int .u8 ((at8 l k : Nat) : Int)) := by simp [bv, at8, List.getD, h]
theorem bv_get_inv {l : List UInt8} {k : Nat} {u : Value} (h : (bv l)[k]? = some u) : k < l.length ∧ u = .int .u8 ((at8 l k : Nat) : Int) := by
  have hk : k < l.length := by
    have := (List.getElem?_eq_some_iff.1 h).1
    simpa using this
  rw [bv_get hk] at h
  exact ⟨hk, (Option.some.inj h).symm⟩
theorem Bytes.front {w : World} {B : Nat} {A : Option Addr} {l : List UInt8} (h : Bytes w B A l) (n : Nat) : Bytes w B A (l.take n) := fun hn => by
  rw [List.length_take] at hn
  obtain ⟨b, off, e, hb, hc⟩ := h (by omega)
  refine ⟨b, off, e, hb, fun k hk => ?_⟩
  rw [List.length_take] at hk
  rw [hc k (by omega)]
  simp only [at8, List.getD]
  rw [List.getElem?_take, if_pos (by omega)]
theorem Bytes.back {w : World} {B b off : Nat} {l : List UInt8} (h : Bytes w B (some ⟨b, off, none⟩) l) (n : Nat) : Bytes w B (some ⟨b, off + n, none⟩) (l.drop n) := fun hn => by
  rw [List.length_drop] at hn
  obtain ⟨b', off', e, hb, hc⟩ := h (by omega)
  obtain ⟨rfl, rfl⟩ : b = b' ∧ off = off' := by simpa using e
  refine ⟨b, off + n, rfl, hb, fun k hk => ?_⟩
  rw [List.length_drop] at hk
  rw [Nat.add_assoc, hc (n + k) (by omega)]
  simp [at8, List.getD, List.getElem?_drop]
theorem add_mk (b off j : Nat) : (⟨b, off, none⟩ : Addr).add j = ⟨b, off + j, none⟩ := by
  unfold Addr.add
  split
  · rename_i h; subst h; rfl
  · rfl
theorem Bytes.src {w : World} {B : Nat} {A : Option Addr} {l : List UInt8} (h : Bytes w B A l) (hn : 0 < (bv l).length) : ∃ ad, A = some ad ∧ ∀ j v, (bv l)[j]? = some v → w.cell? (ad.add j) = some v := by
  obtain ⟨b, off, rfl, _, hc⟩ := h (by simpa using hn)
  refine ⟨_, rfl, fun j v hv => ?_⟩
  obtain ⟨hj, rfl⟩ := bv_get_inv hv
  rw [add_mk]
  exact hc j hj
theorem Bytes.none_ {w : World} {B : Nat} {l : List UInt8} (h : Bytes w B none l) : l = [] := by
  rcases Nat.eq_zero_or_pos l.length with h0 | h0
  · exact List.eq_nil_of_length_eq_zero h0
  · obtain ⟨_, _, e, _⟩ := h h0; cases e
theorem Try.infoU8 : (Try.prog.info? 5).map (fun i => (i.zero, i.size, i.bytes)) = some (some (.int .u8 0), 1, 1) := by kernel_rfl
theorem Try.sizeU8 : (Try.prog.info? 5).map (·.size) = some 1 := by kernel_rfl
theorem made_u8 (n : Nat) : madeCells #[.int .u8 0] n = (bv (List.replicate n 0)).toArray := by
  apply Array.ext
  · simp [size_madeCells]
  · intro i h1 h2
    simp [madeCells, bv, Nat.mod_one]

/-- A slice of bytes that the call itself made. -/
def Own8 (w : World) (base : Nat) (A : Option Addr) (n cap : Nat) (l : List UInt8) : Prop := w.ownsRow base 5 1 (.slice A n cap) n (bv l)
/-- The block of an address, if there is one. -/
def blockOf (A : Option Addr) : Option Nat := A.map (·.block)
theorem ownBlock_slice (A : Option Addr) (n cap : Nat) : (Value.slice A n cap).ownBlock = blockOf A := by cases A <;> rfl
section
variable {w w' : World} {base base' n cap : Nat} {A : Option Addr} {l : List UInt8}
theorem Own8.len (h : Own8 w base A n cap l) : l.length = n := by
  have := h.1
  simpa using this
theorem Own8.bytes (h : Own8 w base A n cap l) : Bytes w w.heap.size A l := fun hn => by
  have hl := h.len
  rcases h.2 with ⟨hv, hx⟩ | ⟨g, c, cur, hv, hb, hh, _⟩
  · rw [hx] at hl; omega
  · have hv' : A = some ⟨g, 0, none⟩ ∧ n = n ∧ cap = c := by simpa using hv
    obtain ⟨rfl, -, rfl⟩ := hv'
    refine ⟨g, 0, rfl, lt_of_heap hh, fun k hk => ?_⟩
    have hc := h.cells (g := g) rfl k _ (bv_get hk)
    rw [add_mk] at hc
    exact hc
theorem Own8.cap_le (h : Own8 w base A n cap l) : n ≤ cap := by
  have hl := h.len
  rcases h.2 with ⟨hv, hx⟩ | ⟨g, c, cur, hv, hb, hh, hnc, _⟩
  · omega
  · have hv' : A = some ⟨g, 0, none⟩ ∧ cap = c := by simpa using hv
    omega
theorem Own8.none_cap (h : Own8 w base A n cap l) : A = none → cap = 0 := by
  intro hA
  subst hA
  rcases h.2 with ⟨hv, _⟩ | ⟨g, c, cur, hv, _⟩
  · have hv' : n = 0 ∧ cap = 0 := by simpa using hv
    exact hv'.2
  · simp at hv
theorem Own8.cap_max (h : Own8 w base A n cap l) : cap ≤ maxLen := by
  rcases h.2 with ⟨hv, hx⟩ | ⟨g, c, cur, hv, hb, hh, hnc, hm, _⟩
  · have hv' : A = none ∧ n = 0 ∧ cap = 0 := by simpa using hv
    omega
  · have hv' : A = some ⟨g, 0, none⟩ ∧ cap = c := by simpa using hv
    omega
theorem Own8.lower (h : Own8 w base A n cap l) (hb : base' ≤ base) : Own8 w base' A n cap l := by
  refine ⟨h.1, ?_⟩
  rcases h.2 with h1 | ⟨g, c, cur, hv, hg, hrest⟩
  · exact .inl h1
  · exact .inr ⟨g, c, cur, hv, Nat.le_trans hb hg, hrest⟩
theorem Own8.form8 (h : Own8 w base A n cap l) : A = none ∨ ∃ g, A = some ⟨g, 0, none⟩ := by
  rcases h.2 with ⟨hv, _⟩ | ⟨g, c, cur, hv, _⟩
  · have hv' : A = none := by
      have : A = none ∧ n = 0 ∧ cap = 0 := by simpa using hv
      exact this.1
    exact .inl hv'
  · have hv' : A = some ⟨g, 0, none⟩ ∧ cap = c := by simpa using hv
    exact .inr ⟨g, hv'.1⟩
theorem Own8.lt (h : Own8 w base A n cap l) {g : Nat} (hg : blockOf A = some g) : base ≤ g ∧ g < w.heap.size := World.ownsRow.lt h g (by rw [ownBlock_slice]; exact hg)
/-- The block itself, where there is one. -/
theorem Own8.block (h : Own8 w base A n cap l) {g : Nat} (hg : blockOf A = some g) : A = some ⟨g, 0, none⟩ ∧ ∃ cur, w.heap[g]? = some (.cells cur 5 (0, 0)) ∧ cur.size = cap ∧ n ≤ cap ∧ cur.toList.take n = bv l := by
  rcases h.2 with ⟨hv, hx⟩ | ⟨g', c, cur, hv, hb, hh, hnc, hm, hcs, htk⟩
  · have hv' : A = none ∧ n = 0 ∧ cap = 0 := by simpa using hv
    rw [hv'.1] at hg; cases hg
  · have hv' : A = some ⟨g', 0, none⟩ ∧ cap = c := by simpa using hv
    obtain ⟨rfl, rfl⟩ := hv'
    obtain rfl : g' = g := by simpa [blockOf] using hg
    exact ⟨rfl, cur, hh, by omega, hnc, by simpa using htk⟩
theorem Own8.keep (h : Own8 w base A n cap l) {S : Nat → Prop} (ho : Only S w w') (hn : ∀ k, blockOf A = some k → ¬ S k) : Own8 w' base A n cap l := by
  refine ⟨h.1, ?_⟩
  rcases h.2 with h1 | ⟨g, c, cur, hv, hg, hh, hrest⟩
  · exact .inl h1
  · have hv' : A = some ⟨g, 0, none⟩ := by
      have : A = some ⟨g, 0, none⟩ ∧ cap = c := by simpa using hv
      exact this.1
    exact .inr ⟨g, c, cur, hv, hg, (ho.block g (lt_of_heap hh) (hn g (by rw [hv']; rfl))).trans hh, hrest⟩
theorem Own8.alloc (h : Own8 w base A n cap l) (o : Obj) : Own8 (w.alloc o) base A n cap l := World.ownsRow.alloc h o
theorem Own8.drew (h : Own8 w base A n cap l) : Own8 w.drew base A n cap l := h
theorem Own8.nil_ : Own8 w base none 0 0 [] := World.ownsRow_nil _ _ _ _
end
theorem own_value {w : World} {base n : Nat} {v : Value} {xs : List Value} (h : w.ownsRow base 5 1 v n xs) : ∃ A cap, v = .slice A n cap := by
  rcases h.2 with ⟨hv, hx⟩ | ⟨g, c, cur, hv, _⟩
  · refine ⟨none, 0, ?_⟩
    rw [hx]
    exact hv
  · exact ⟨_, _, hv⟩
/-- The block is the one that it was, or a new one. -/
def NewOr (w : World) (g g' : Option Nat) : Prop := g' = g ∨ ∃ k, g' = some k ∧ w.heap.size ≤ k
theorem NewOr.refl (w : World) (g : Option Nat) : NewOr w g g := .inl rfl
theorem NewOr.trans {w w1 : World} {g g1 g2 : Option Nat} (h : NewOr w g g1) (h1 : NewOr w1 g1 g2) (hs : w.heap.size ≤ w1.heap.size) : NewOr w g g2 := by
  rcases h1 with rfl | ⟨k, rfl, hk⟩
  · exact h
  · exact .inr ⟨k, rfl, Nat.le_trans hs hk⟩
theorem NewOr.same {w : World} {g g' : Option Nat} (h : NewOr w g g') {k : Nat} (hk : k < w.heap.size) (e : g' = some k) : g = some k := by
  rcases h with rfl | ⟨j, rfl, hj⟩
  · exact e
  · cases e; omega
theorem NewOr.older {w w1 : World} {g g' : Option Nat} (h : NewOr w1 g g') (hs : w.heap.size ≤ w1.heap.size) : NewOr w g g' := by
  rcases h with rfl | ⟨j, rfl, hj⟩
  · exact .inl rfl
  · exact .inr ⟨j, rfl, Nat.le_trans hs hj⟩
theorem NewOr.ge {w : World} {g g' : Option Nat} (h : NewOr w g g') {B : Nat} (hB : B ≤ w.heap.size) (hg : ∀ k, g = some k → B ≤ k) : ∀ k, g' = some k → B ≤ k := by
  rcases h with rfl | ⟨j, rfl, hj⟩
  · exact hg
  · intro k e; cases e; omega

section
variable {P : Program} {w : World}
/-- 'append(out, xs...)', out the program's own bytes, xs any bytes, nil or not. -/
theorem wpList_append8 {ops : Array Oper} {rest : List Oper} {o : Oper} {a : Act} {Q : Exit → Act → World → Prop} (hgd : o.guard = none) (s x : Operand)
    (ho : o.op = .call { callee := .builtin .append, args := #[s, x], argTypes := #[26, 26] })
    (A : Option Addr) (n cap : Nat) (l : List UInt8) (hs : a.eval s = .slice A n cap) (hown : Own8 w 0 A n cap l)
    (A1 : Option Addr) (m c B : Nat) (xs : List UInt8) (hx : a.eval x = .slice A1 m c) (hl : xs.length = m) (hA : A1 = none → c = 0) (hb : Bytes w B A1 xs)
    (hbytes : n + m ≤ 140737488355328)
    (h : ∀ A' cap' w', Hid (Own8 w' 0 A' (n + m) cap' (l ++ xs)) → Hid (Only (fun k => blockOf A = some k) w w') → Hid (NewOr w (blockOf A) (blockOf A')) → wpList Try.prog ops Q rest (a.put o.dst (.slice A' (n + m) cap')) w') :
    wpList Try.prog ops Q (o :: rest) a w := by
  obtain ⟨i0, hi0, hz0, hz1, hz2⟩ := info_parts Try.infoU8
  rcases A1 with _ | ad
  · have hc := hA rfl
    subst hc
    have hxs := hb.none_
    subst hxs
    obtain rfl : m = 0 := by simpa using hl.symm
    refine wpList_append_own_none hgd s x 26 ho 0 5 i0 1 Try.underlying26 hi0 (.slice A n cap) n (bv l) hs hown hx ?_
    have := h A cap w (by rw [List.append_nil, Nat.add_zero]; exact hown) (Only.refl _ _) (NewOr.refl _ _)
    simpa using this
  · refine wpList_append_own_at _ hgd s x 26 ho 0 5 i0 _ 1 1 Try.underlying26 hi0 hz0 hz1 hz2 rfl (by omega) (.slice A n cap) n (bv l) hs hown ad m c (bv xs) hx (by simp [hl]) (fun j u hu => ?_) (bv_one xs) (by unfold maxLen; omega) (by omega) (Nat.zero_le _) ?_
    · obtain ⟨ad', e, h'⟩ := hb.src (by have := (List.getElem?_eq_some_iff.1 hu).1; omega)
      cases e
      exact h' j u hu
    · intro v' w1 hown' hg _ hat
      obtain ⟨A', cap', rfl⟩ := own_value hown'
      rw [ownBlock_slice, ownBlock_slice] at hat
      rw [ownBlock_slice] at hg
      refine h A' cap' w1 (by unfold Own8; rw [bv_append]; exact hown') (Only.ofGrown hg) ?_
      rcases hat with e | e
      · exact .inl e
      · exact .inr ⟨_, e, Nat.le_refl _⟩
end
/-- One byte, laid in a block of its own for an append. -/
theorem bytes_one (w : World) (x : UInt8) : Bytes (w.alloc (.cells #[.int .u8 ((x.toNat : Nat) : Int)] 5)) (w.heap.size + 1) (some ⟨w.heap.size, 0, none⟩) [x] := fun _ => by
  refine ⟨_, 0, rfl, by omega, fun k hk => ?_⟩
  obtain rfl : k = 0 := by simpa using hk
  have h := cell_one_new w (.int .u8 ((x.toNat : Nat) : Int)) 5 0 _ rfl
  rw [add_mk] at h
  exact h
theorem conv_str {w : World} {B : Nat} {A : Option Addr} {l : List UInt8} {n : Nat} (cap : Nat) (h : Bytes w B A l) (hn : l.length = n) :
    Sem.run Try.prog (convert 26 9 (.slice A n cap)) w = .ok (.string ⟨l.toArray⟩) w := by
  subst hn
  rcases A with _ | a
  · have := h.none_
    subst this
    exact run_convert_bytes_nil w 26 5 Try.underlying26 Try.underlying5 0 cap 9 Try.underlying9
  · refine run_convert_bytes_back w 26 9 5 a cap l Try.underlying26 Try.underlying5 Try.underlying9 fun j hj => ?_
    obtain ⟨b, off, e, _, hc⟩ := h (by omega)
    cases e
    rw [add_mk, hc j hj]
    simp [at8, List.getD, hj]
end Go.Proofs.Ytlcddfkhklmieaa
/-
  The append of bytes as one step of a region that draws its order. No condition.
-/
namespace Go.Proofs.Ytlcddfkhklmieaa
open Go.RowKit

/-- 'append(out, xs...)' as one step of a region that draws its order: for 'go_region_law (refine step_append8 rfl rfl ..)'. -/
theorem step_append8 {P : Program} {ops : Array Oper} {o : Oper} {a : Act} {w : World} {K : Act → World → Prop} {Q : Exit → Act → World → Prop} {E : Prop} (hP : P = Try.prog) (hgd : o.guard = none) (s x : Operand)
    (ho : o.op = .call { callee := .builtin .append, args := #[s, x], argTypes := #[26, 26] })
    (A : Option Addr) (n cap : Nat) (l : List UInt8) (hs : a.eval s = .slice A n cap) (hown : Own8 w 0 A n cap l)
    (A1 : Option Addr) (m c B : Nat) (xs : List UInt8) (hx : a.eval x = .slice A1 m c) (hl : xs.length = m) (hA : A1 = none → c = 0) (hb : Bytes w B A1 xs)
    (hbytes : n + m ≤ 140737488355328)
    (h : ∀ A' cap' w', Hid (Own8 w' 0 A' (n + m) cap' (l ++ xs)) → Hid (Only (fun k => blockOf A = some k) w w') → Hid (NewOr w (blockOf A) (blockOf A')) → K (a.put o.dst (.slice A' (n + m) cap')) w') :
    if Region.wanted o (yielded ops a.tmps) = true then Oper.wp P o a w K Q else E := by
  subst hP
  have hw : Region.wanted o (yielded ops a.tmps) = true := by simp [Region.wanted, hgd]
  rw [if_pos hw]
  obtain ⟨i0, hi0, hz0, hz1, hz2⟩ := info_parts Try.infoU8
  rcases A1 with _ | ad
  · have hc := hA rfl
    subst hc
    have hxs := hb.none_
    subst hxs
    obtain rfl : m = 0 := by simpa using hl.symm
    have hrun := run_append_owned_none (P := Try.prog) (w := w) 0 26 o.type 5 i0 1 Try.underlying26 hi0 (.slice A n cap) n (bv l) hown
    have h1 := h A cap w (by rw [List.append_nil, Nat.add_zero]; exact hown) (Only.refl _ _) (NewOr.refl _ _)
    rw [Nat.add_zero] at h1
    unfold Oper.wp
    simp [execOp, ho, resolve, invoke, builtin, hs, hx, hrun, Result.andThen]
    exact h1
  · obtain ⟨v', w', hr, h2, h3, _, h5⟩ := run_append_own_at (P := Try.prog) w 0 26 o.type 5 i0 (.int .u8 0) 1 1 Try.underlying26 hi0 hz0 hz1 hz2 rfl (by omega) (.slice A n cap) n (bv l) hown ad m c (bv xs) (by simp [hl]) (fun j u hu => by
      obtain ⟨ad', e, h'⟩ := hb.src (by have := (List.getElem?_eq_some_iff.1 hu).1; omega)
      cases e
      exact h' j u hu) (bv_one xs) (by unfold maxLen; omega) (by omega) (Nat.zero_le _)
    unfold Oper.wp execOp
    simp only [ho, resolve, invoke, builtin, Sem.run_bind, Sem.run_pure, Result.andThen_ok, List.map_toArray, List.map_cons, List.map_nil, hs, hx, hr]
    obtain ⟨A', cap', rfl⟩ := own_value h2
    rw [ownBlock_slice, ownBlock_slice] at h5
    rw [ownBlock_slice] at h3
    refine h A' cap' w' (by unfold Own8; rw [bv_append]; exact h2) (Only.ofGrown h3) ?_
    rcases h5 with e | e
    · exact .inl e
    · exact .inr ⟨_, e, Nat.le_refl _⟩
end Go.Proofs.Ytlcddfkhklmieaa
/-
  Plain numbers as bytes: wide and short ones, and how short ones are read. Nothing here speaks of a program.
-/
namespace Go.Proofs.Ytlcddfkhklmieaa

/-- The lowest n bytes of x, the lowest first. -/
def wideL (x : Nat) : Nat → List UInt8
  | 0 => []
  | n + 1 => wideL x n ++ [UInt8.ofNat (x / 256 ^ n % 256)]
theorem wideL_length (x n : Nat) : (wideL x n).length = n := by
  induction n with
  | zero => rfl
  | succ n ih => simp [wideL, ih]
/-- A short number. -/
def shortL (x : Nat) : List UInt8 := if x < 128 then [UInt8.ofNat x] else UInt8.ofNat (x % 128 + 128) :: shortL (x / 128)
termination_by x
decreasing_by omega
theorem shortL_last {x : Nat} (h : x < 128) : shortL x = [UInt8.ofNat x] := by rw [shortL, if_pos h]
theorem shortL_more {x : Nat} (h : ¬ x < 128) : shortL x = UInt8.ofNat (x % 128 + 128) :: shortL (x / 128) := by rw [shortL, if_neg h]
theorem shortL_pos (x : Nat) : 0 < (shortL x).length := by
  by_cases h : x < 128
  · rw [shortL_last h]; simp
  · rw [shortL_more h]; simp
theorem shortL_le (k x : Nat) (h : x < 128 ^ (k + 1)) : (shortL x).length ≤ k + 1 := by
  induction k generalizing x with
  | zero => rw [shortL_last (by simpa using h)]; simp
  | succ k ih =>
    by_cases h1 : x < 128
    · rw [shortL_last h1]; simp
    · rw [shortL_more h1]
      have := ih (x / 128) (by rw [Nat.pow_succ] at h; omega)
      simp; omega
theorem shortL_ten {x : Nat} (h : x < 18446744073709551616) : (shortL x).length ≤ 10 := shortL_le 9 x (by omega)
def shortsL (l : List Nat) : List UInt8 := (l.map shortL).flatten
theorem shortsL_take (l : List Nat) (k : Nat) (hk : k < l.length) : shortsL (l.take (k + 1)) = shortsL (l.take k) ++ shortL (l.getD k 0) := by
  unfold shortsL
  rw [List.take_add_one, List.getElem?_eq_getElem hk, List.map_append, List.flatten_append]
  simp [List.getD, hk]
theorem shortsL_le (l : List Nat) (h : ∀ x ∈ l, x < 18446744073709551616) : (shortsL l).length ≤ 10 * l.length := by
  induction l with
  | nil => simp [shortsL]
  | cons x l ih =>
    have h1 := ih fun y hy => h y (by simp [hy])
    have h2 := shortL_ten (h x (by simp))
    simp only [shortsL, List.map_cons, List.flatten_cons, List.length_append, List.length_cons] at h1 ⊢
    omega
end Go.Proofs.Ytlcddfkhklmieaa
/-
  How short numbers are read. Nothing here speaks of a program.
-/
namespace Go.Proofs.Ytlcddfkhklmieaa
/-- A short number read from place i on, x being what was read so far: its worth, and how many bytes it has. -/
def scan : List UInt8 → Nat → Nat → Option (Nat × Nat)
  | [], _, _ => none
  | b :: r, i, x =>
    if 18446744073709551616 ≤ b.toNat % 128 * 2 ^ (7 * i) then none
    else if 128 ≤ b.toNat then scan r (i + 1) (x + b.toNat % 128 * 2 ^ (7 * i))
    else if b.toNat = 0 ∧ 0 < i then none
    else some (x + b.toNat % 128 * 2 ^ (7 * i), i + 1)
/-- The short number in front: its worth, and how many bytes it has; noughts where there is none. -/
def parse (l : List UInt8) : Nat × Nat := (scan l 0 0).getD (0, 0)
theorem scan_le {l : List UInt8} {i x y n : Nat} (h : scan l i x = some (y, n)) : i < n ∧ n ≤ i + l.length := by
  induction l generalizing i x with
  | nil => cases h
  | cons b r ih =>
    rw [scan] at h
    split at h
    · cases h
    · split at h
      · have := ih h
        simp only [List.length_cons]
        omega
      · split at h
        · cases h
        · cases h
          simp
theorem parse_le (l : List UInt8) : (parse l).2 ≤ l.length := by
  unfold parse
  cases h : scan l 0 0 with
  | none => simp
  | some p =>
    obtain ⟨y, n⟩ := p
    have := scan_le h
    simp
    omega
theorem scan_lt {l : List UInt8} {i x y n : Nat} (hx : x < 2 ^ (7 * i)) (hx2 : x < 18446744073709551616) (h : scan l i x = some (y, n)) : y < 18446744073709551616 := by
  induction l generalizing i x with
  | nil => cases h
  | cons b r ih =>
    rw [scan] at h
    split at h
    · cases h
    · rename_i hf
      have hb : x + b.toNat % 128 * 2 ^ (7 * i) < 2 ^ (7 * (i + 1)) ∧ x + b.toNat % 128 * 2 ^ (7 * i) < 18446744073709551616 := by
        have h1 : (b.toNat % 128 + 1) * 2 ^ (7 * i) ≤ 128 * 2 ^ (7 * i) := Nat.mul_le_mul_right _ (by omega)
        rw [Nat.add_mul] at h1
        have e : 2 ^ (7 * (i + 1)) = 128 * 2 ^ (7 * i) := by rw [Nat.mul_add, Nat.pow_add, Nat.mul_comm]
        refine ⟨by rw [e]; omega, ?_⟩
        have e2 : x + b.toNat % 128 * 2 ^ (7 * i) = x ||| (b.toNat % 128 * 2 ^ (7 * i)) := by
          rw [Nat.mul_comm, Nat.or_comm, ← Nat.two_pow_add_eq_or_of_lt hx, Nat.add_comm]
        rw [e2]
        exact Nat.or_lt_two_pow (n := 64) hx2 (by omega)
      split at h
      · exact ih hb.1 hb.2 h
      · split at h
        · cases h
        · cases h
          exact hb.2
theorem parse_lt (l : List UInt8) : (parse l).1 < 18446744073709551616 := by
  unfold parse
  cases h : scan l 0 0 with
  | none => simp
  | some p =>
    obtain ⟨y, n⟩ := p
    exact scan_lt (by decide) (by decide) h
/-- The first k bytes of a row, as a number, the lowest first. -/
def numLE (l : List UInt8) : Nat → Nat
  | 0 => 0
  | k + 1 => numLE l k + (l.getD k 0).toNat * 2 ^ (8 * k)
theorem numLE_lt (l : List UInt8) (k : Nat) : numLE l k < 2 ^ (8 * k) := by
  induction k with
  | zero => simp [numLE]
  | succ k ih =>
    have h := (l.getD k 0).toNat_lt
    have h1 : ((l.getD k 0).toNat + 1) * 2 ^ (8 * k) ≤ 256 * 2 ^ (8 * k) := Nat.mul_le_mul_right _ (by omega)
    rw [numLE, show 8 * (k + 1) = 8 + 8 * k by omega, Nat.pow_add]
    rw [Nat.add_mul] at h1
    omega

/-! A Reader: what is left, and whether there was a fault. -/
structure RS where
  l : List UInt8
  bad : Bool
deriving DecidableEq
def rUint (s : RS) : Nat × RS := if s.bad = true ∨ (parse s.l).2 = 0 then (0, ⟨s.l, true⟩) else ((parse s.l).1, ⟨s.l.drop (parse s.l).2, false⟩)
def rRaw (s : RS) (n : Int) : List UInt8 × RS := if s.bad = true ∨ n < 0 ∨ (s.l.length : Int) < n then ([], ⟨s.l, true⟩) else (s.l.take n.toNat, ⟨s.l.drop n.toNat, false⟩)
def rText (s : RS) (most : Int) : List UInt8 × RS :=
  if s.bad = true ∨ (parse s.l).2 = 0 ∨ most < 0 ∨ most < ((parse s.l).1 : Int) ∨ s.l.length < (parse s.l).2 + (parse s.l).1 then ([], ⟨s.l, true⟩)
  else ((s.l.drop (parse s.l).2).take (parse s.l).1, ⟨s.l.drop ((parse s.l).2 + (parse s.l).1), false⟩)
def rWide (s : RS) (n : Nat) : Nat × RS := if s.bad = true ∨ s.l.length < n then (0, ⟨s.l, true⟩) else (numLE (s.l.take n) n, ⟨s.l.drop n, false⟩)
def rEnd (s : RS) : RS := ⟨s.l, s.bad || !s.l.isEmpty⟩
theorem rWide_lt (s : RS) (n : Nat) : (rWide s n).1 < 2 ^ (8 * n) := by
  unfold rWide
  split
  · exact Nat.two_pow_pos _
  · exact numLE_lt _ _
end Go.Proofs.Ytlcddfkhklmieaa
/-
  Short numbers have one form: what was written is read; what is read would be written; no beginning is one; unlike rows are apart. Nothing here speaks of a program.
-/
namespace Go.Proofs.Ytlcddfkhklmieaa

theorem toNat_lo {x : Nat} (h : x < 256) : (UInt8.ofNat x).toNat = x := by rw [UInt8.toNat_ofNat']; omega
theorem pow_next (i : Nat) : 2 ^ (7 * (i + 1)) = 128 * 2 ^ (7 * i) := by rw [Nat.mul_add, Nat.pow_add, Nat.mul_comm]
theorem split128 (x p : Nat) : x % 128 * p + x / 128 * (128 * p) = x * p := by
  have h : x / 128 * (128 * p) = (128 * (x / 128)) * p := by rw [Nat.mul_comm 128 (x / 128), Nat.mul_assoc]
  rw [h, ← Nat.add_mul]
  congr 1
  omega
theorem scan_short (x : Nat) : ∀ (i y : Nat) (r : List UInt8), x * 2 ^ (7 * i) < 18446744073709551616 → (0 < i → 0 < x) → scan (shortL x ++ r) i y = some (y + x * 2 ^ (7 * i), i + (shortL x).length) := by
  induction x using Nat.strongRecOn with
  | _ x ih =>
    intro i y r hf hp
    by_cases h : x < 128
    · rw [shortL_last h]
      rw [List.singleton_append, scan, toNat_lo (by omega), Nat.mod_eq_of_lt h, if_neg (by omega), if_neg (by omega), if_neg (by omega)]
      rfl
    · rw [shortL_more h, List.cons_append, scan, toNat_lo (by omega), show (x % 128 + 128) % 128 = x % 128 by omega]
      have hs := split128 x (2 ^ (7 * i))
      have hq := ih (x / 128) (by omega) (i + 1) (y + x % 128 * 2 ^ (7 * i)) r (by rw [pow_next]; omega) (fun _ => by omega)
      rw [if_neg (by omega), if_pos (by omega), hq, pow_next]
      simp only [List.length_cons, Option.some.injEq, Prod.mk.injEq]
      omega
theorem parse_short {x : Nat} (h : x < 18446744073709551616) (r : List UInt8) : parse (shortL x ++ r) = (x, (shortL x).length) := by
  unfold parse
  rw [scan_short x 0 0 r (by simpa using h) (fun h => absurd h (by omega))]
  simp
theorem scan_form : ∀ (l : List UInt8) (i y z n : Nat), scan l i y = some (z, n) → ∃ x, z = y + x * 2 ^ (7 * i) ∧ (0 < i → 0 < x) ∧ n = i + (shortL x).length ∧ l.take (shortL x).length = shortL x
  | [], _, _, _, _, h => by cases h
  | b :: r, i, y, z, n, h => by
    have hb := b.toNat_lt
    rw [scan] at h
    split at h
    · cases h
    · split at h
      · rename_i hm
        obtain ⟨x, h1, h2, h3, h4⟩ := scan_form r (i + 1) _ z n h
        have hx := h2 (by omega)
        refine ⟨b.toNat % 128 + 128 * x, ?_, fun _ => by omega, ?_, ?_⟩
        · rw [h1, pow_next, Nat.add_mul]
          have : x * (128 * 2 ^ (7 * i)) = 128 * x * 2 ^ (7 * i) := by rw [Nat.mul_comm 128 x, Nat.mul_assoc]
          omega
        · rw [shortL_more (by omega), show (b.toNat % 128 + 128 * x) / 128 = x by omega, List.length_cons]
          omega
        · rw [shortL_more (by omega), show (b.toNat % 128 + 128 * x) / 128 = x by omega, List.length_cons, List.take_succ_cons, h4]
          congr 1
          rw [show (b.toNat % 128 + 128 * x) % 128 + 128 = b.toNat by omega]
          simp
      · split at h
        · cases h
        · rename_i hm h0
          cases h
          refine ⟨b.toNat, by rw [Nat.mod_eq_of_lt (by omega)], fun hi => by omega, ?_, ?_⟩
          · rw [shortL_last (by omega)]; rfl
          · rw [shortL_last (by omega)]
            simp
/-- What is read has one form. -/
theorem parse_form (l : List UInt8) (h : (parse l).2 ≠ 0) : (parse l).2 = (shortL (parse l).1).length ∧ l.take (parse l).2 = shortL (parse l).1 := by
  unfold parse at *
  cases hs : scan l 0 0 with
  | none => rw [hs] at h; exact absurd rfl h
  | some p =>
    obtain ⟨z, n⟩ := p
    obtain ⟨x, h1, _, h3, h4⟩ := scan_form l 0 0 z n hs
    have hz : z = x := by simpa using h1
    subst hz
    have hn : n = (shortL z).length := by simpa using h3
    subst hn
    exact ⟨rfl, h4⟩
theorem scan_highs : ∀ (l : List UInt8) (i y : Nat), (∀ b ∈ l, 128 ≤ b.toNat) → scan l i y = none
  | [], _, _, _ => rfl
  | b :: r, i, y, h => by
    rw [scan]
    split
    · rfl
    · rw [if_pos (h b (by simp))]
      exact scan_highs r _ _ fun c hc => h c (by simp [hc])
theorem shortL_highs (x : Nat) : ∀ k, k < (shortL x).length → ∀ b ∈ (shortL x).take k, 128 ≤ b.toNat := by
  induction x using Nat.strongRecOn with
  | _ x ih =>
    intro k hk b hb
    by_cases h : x < 128
    · rw [shortL_last h] at hk hb
      have : k = 0 := by simpa using hk
      subst this
      simp at hb
    · rw [shortL_more h] at hk hb
      cases k with
      | zero => simp at hb
      | succ k =>
        rw [List.take_succ_cons] at hb
        rcases List.mem_cons.1 hb with rfl | hb
        · rw [toNat_lo (by omega)]; omega
        · exact ih (x / 128) (by omega) k (by simpa using hk) b hb
/-- No beginning of a short number is one. -/
theorem parse_cut (x k : Nat) (hk : k < (shortL x).length) : parse ((shortL x).take k) = (0, 0) := by
  unfold parse
  rw [scan_highs _ _ _ (shortL_highs x k hk)]
  rfl

/-! Rows of numbers. -/
theorem shortsL_append (a b : List Nat) : shortsL (a ++ b) = shortsL a ++ shortsL b := by simp [shortsL]
theorem shortsL_cons (x : Nat) (l : List Nat) : shortsL (x :: l) = shortL x ++ shortsL l := by simp [shortsL]
theorem apart_heads {x y : Nat} (hx : x < 18446744073709551616) (hy : y < 18446744073709551616) (hne : x ≠ y) (r s t : List UInt8) : shortL x ++ r ≠ (shortL y ++ s) ++ t := by
  intro e
  have h1 := parse_short hx r
  rw [e, List.append_assoc, parse_short hy] at h1
  simp only [Prod.mk.injEq] at h1
  exact hne h1.1.symm
theorem take_min_eq {a b : List UInt8} (h : a.take (min a.length b.length) = b.take (min a.length b.length)) : (∃ t, b = a ++ t) ∨ ∃ t, a = b ++ t := by
  rcases Nat.le_total a.length b.length with hl | hl
  · rw [Nat.min_eq_left hl, List.take_length] at h
    exact .inl ⟨b.drop a.length, (List.take_append_drop a.length b).symm.trans (by rw [← h])⟩
  · rw [Nat.min_eq_right hl, List.take_length] at h
    exact .inr ⟨a.drop b.length, by rw [← h]; rw [List.length_take, Nat.min_eq_left hl, List.take_append_drop]⟩
/-- Behind what is alike, unlike numbers: neither row's bytes are a beginning of the other's. -/
theorem rows_apart {l m : List Nat} {k : Nat} (hl : ∀ x ∈ l, x < 18446744073709551616) (hm : ∀ x ∈ m, x < 18446744073709551616) (hk : l.take k = m.take k) (h1 : k < l.length) (h2 : k < m.length) (hne : l.getD k 0 ≠ m.getD k 0) :
    ¬ (shortsL l).take (min (shortsL l).length (shortsL m).length) = (shortsL m).take (min (shortsL l).length (shortsL m).length) := by
  have e1 : l = l.take k ++ l.getD k 0 :: l.drop (k + 1) := by
    rw [show l.getD k 0 = l[k] by simp [List.getD, h1], ← List.drop_eq_getElem_cons h1, List.take_append_drop]
  have e2 : m = l.take k ++ m.getD k 0 :: m.drop (k + 1) := by
    rw [hk, show m.getD k 0 = m[k] by simp [List.getD, h2], ← List.drop_eq_getElem_cons h2, List.take_append_drop]
  have hx : l.getD k 0 < 18446744073709551616 := hl _ (by rw [show l.getD k 0 = l[k] by simp [List.getD, h1]]; exact List.getElem_mem h1)
  have hy : m.getD k 0 < 18446744073709551616 := hm _ (by rw [show m.getD k 0 = m[k] by simp [List.getD, h2]]; exact List.getElem_mem h2)
  generalize l.getD k 0 = x at *
  generalize m.getD k 0 = y at *
  generalize l.take k = c at *
  generalize l.drop (k + 1) = r at *
  generalize m.drop (k + 1) = s at *
  subst e1
  subst e2
  intro h
  rw [shortsL_append, shortsL_append, shortsL_cons, shortsL_cons] at h
  rcases take_min_eq h with ⟨t, ht⟩ | ⟨t, ht⟩
  · rw [List.append_assoc] at ht
    exact apart_heads hy hx (Ne.symm hne) _ _ t (List.append_cancel_left ht)
  · rw [List.append_assoc] at ht
    exact apart_heads hx hy hne _ _ t (List.append_cancel_left ht)
theorem shortsL_pos {l : List Nat} (h : l ≠ []) : 0 < (shortsL l).length := by
  cases l with
  | nil => exact absurd rfl h
  | cons x l =>
    rw [shortsL_cons, List.length_append]
    have := shortL_pos x
    omega
theorem shortsL_front (l : List Nat) (k : Nat) : (shortsL l).take (shortsL (l.take k)).length = shortsL (l.take k) ∧ (shortsL (l.take k)).length ≤ (shortsL l).length := by
  have e : shortsL l = shortsL (l.take k) ++ shortsL (l.drop k) := by rw [← shortsL_append, List.take_append_drop]
  constructor
  · rw [e]; exact List.take_left
  · rw [e, List.length_append]; omega
/-- Unlike rows have unlike bytes. -/
theorem rows_eq {l m : List Nat} {k : Nat} (hl : ∀ x ∈ l, x < 18446744073709551616) (hm : ∀ x ∈ m, x < 18446744073709551616) (hk : l.take k = m.take k) (hk1 : k ≤ l.length) (hk2 : k ≤ m.length) (hne : k < l.length → k < m.length → l.getD k 0 ≠ m.getD k 0) :
    (l.length = k ∧ m.length = k) ↔ shortsL l = shortsL m := by
  constructor
  · rintro ⟨h1, h2⟩
    have e1 : l.take k = l := List.take_of_length_le (by omega)
    have e2 : m.take k = m := List.take_of_length_le (by omega)
    rw [← e1, ← e2, hk]
  · intro e
    by_cases h1 : k < l.length
    · by_cases h2 : k < m.length
      · exact absurd (by rw [e]) (rows_apart hl hm hk h1 h2 (hne h1 h2))
      · have e2 : m.take k = m := List.take_of_length_le (by omega)
        have e3 : shortsL l = shortsL m ++ shortsL (l.drop k) := by rw [← e2, ← hk, ← shortsL_append, List.take_append_drop]
        have h4 := shortsL_pos (l := l.drop k) (by intro h; have := congrArg List.length h; rw [List.length_drop] at this; simp at this; omega)
        have := congrArg List.length e
        rw [e3, List.length_append] at this
        omega
    · by_cases h2 : k < m.length
      · have e1 : l.take k = l := List.take_of_length_le (by omega)
        have e3 : shortsL m = shortsL l ++ shortsL (m.drop k) := by rw [← e1, hk, ← shortsL_append, List.take_append_drop]
        have h4 := shortsL_pos (l := m.drop k) (by intro h; have := congrArg List.length h; rw [List.length_drop] at this; simp at this; omega)
        have := congrArg List.length e
        rw [e3, List.length_append] at this
        omega
      · omega
end Go.Proofs.Ytlcddfkhklmieaa
/-
  What a Writer's calls do: each lays its bytes behind what was there, and turns nothing else; Bytes makes new memory. For at most 2^46 bytes.
-/
namespace Go.Proofs.Ytlcddfkhklmieaa
open Go.RowKit

/-- A Writer in block p, whose bytes l lie in block g (or nowhere, where there is no room yet). -/
def Wr (w : World) (p : Nat) (g : Option Nat) (l : List UInt8) : Prop :=
  ∃ A cap, w.heap[p]? = some (.cells #[.slice A l.length cap] 83 (0, 0)) ∧ Own8 w 0 A l.length cap l ∧ blockOf A = g
theorem Wr.ne {w : World} {p : Nat} {g : Option Nat} {l : List UInt8} (h : Wr w p g l) : g ≠ some p := by
  obtain ⟨A, cap, h1, h2, h3⟩ := h
  intro e
  obtain ⟨-, cur, hc, _⟩ := h2.block (h3.trans e)
  rw [h1] at hc
  simp at hc
theorem Wr.lt {w : World} {p : Nat} {g : Option Nat} {l : List UInt8} (h : Wr w p g l) : p < w.heap.size := by
  obtain ⟨A, cap, h1, _⟩ := h
  exact lt_of_heap h1
theorem Wr.glt {w : World} {p : Nat} {g : Option Nat} {l : List UInt8} (h : Wr w p g l) : ∀ k, g = some k → k < w.heap.size := by
  obtain ⟨A, cap, h1, h2, h3⟩ := h
  exact fun k e => (h2.lt (h3.trans e)).2
theorem Wr.keep {w w' : World} {p : Nat} {g : Option Nat} {l : List UInt8} {S : Nat → Prop} (h : Wr w p g l) (ho : Only S w w') (h1 : ¬ S p) (h2 : ∀ k, g = some k → ¬ S k) : Wr w' p g l := by
  have hlt := h.lt
  obtain ⟨A, cap, e, ho2, hg⟩ := h
  exact ⟨A, cap, (ho.block p hlt h1).trans e, ho2.keep ho (fun k hk => h2 k (hg.symm.trans hk)), hg⟩
/-- What a Writer's call leaves: xs behind l; only the Writer's own two blocks have turned. -/
def Wrote (w : World) (p : Nat) (g : Option Nat) (l xs : List UInt8) (w' : World) : Prop :=
  ∃ g', Wr w' p g' (l ++ xs) ∧ NewOr w g g' ∧ Only (fun k => k = p ∨ g = some k) w w'
theorem Wrote.trans {w w1 w2 : World} {p : Nat} {g g1 : Option Nat} {l xs ys : List UInt8} (hn : NewOr w g g1) (ho : Only (fun k => k = p ∨ g = some k) w w1) (h : Wrote w1 p g1 (l ++ xs) ys w2) : Wrote w p g l (xs ++ ys) w2 := by
  obtain ⟨g2, h1, h2, h3⟩ := h
  refine ⟨g2, by rw [← List.append_assoc]; exact h1, hn.trans h2 ho.size, ho.trans h3 fun k hk e => ?_⟩
  rcases e with e | e
  · exact .inl e
  · exact .inr (hn.same hk e)
theorem Wrote.same {w : World} {p : Nat} {g : Option Nat} {l : List UInt8} (h : Wr w p g l) : Wrote w p g l [] w := ⟨g, by rw [List.append_nil]; exact h, NewOr.refl _ _, Only.refl _ _⟩
def WroteE (w : World) (p : Nat) (g : Option Nat) (l xs : List UInt8) (e : Ending) (w' : World) : Prop := e = .returned (.tuple #[]) ∧ Wrote w p g l xs w'

theorem frozen_plain {w : World} {b : Nat} {cs : Array Value} {t : TypeId} (h : w.heap[b]? = some (.cells cs t (0, 0))) (k : Nat) : w.frozen? ⟨b, k, none⟩ = false := by
  simp [World.frozen?, h]
theorem cell_plain {w : World} {b : Nat} {cs : Array Value} {t : TypeId} (h : w.heap[b]? = some (.cells cs t (0, 0))) (k : Nat) : w.cell? ⟨b, k, none⟩ = cs[k]? := cell_of_row w b k cs t (0, 0) h
/-- A block of one cell, stored into. -/
theorem block_set1 {w : World} {b : Nat} {v u : Value} {t : TypeId} (h : w.heap[b]? = some (.cells #[v] t (0, 0))) : (w.setCell ⟨b, 0, none⟩ u).heap[b]? = some (.cells #[u] t (0, 0)) := by
  simp [World.setCell, Array.getElem?_modify, h]

set_option maxHeartbeats 400000 in
theorem add_any (p : Nat) (g : Option Nat) (l : List UInt8) (A : Option Addr) (xs : List UInt8) (n cap B : Nat) (w : World) (hw : Wr w p g l) (hn : xs.length = n) (hA : A = none → cap = 0) (hb : Bytes w B A xs) (hr : l.length + n ≤ 70368744177664) :
    Calls Try.prog 72 #[.pointer (some ⟨p, 0, none⟩), .slice A n cap] w (WroteE w p g l xs) := by
  have hne := Lib.hid hw.ne
  obtain ⟨A0, c0, h1, h2, h3⟩ := hw
  have HC := cell_plain h1 0
  simp only [List.getElem?_toArray, List.getElem?_cons_zero] at HC
  have HB := Lib.hid h1
  have HO := Lib.hid h2
  have HG := Lib.hid h3
  have HL := Lib.hid hn
  have HA := Lib.hid hA
  have HX := Lib.hid hb
  generalize hll : l.length = m at HC HB HO hr
  have HM := Lib.hid hll
  clear h1 h2 h3 hn hA hb hll
  go_enter Try.func72, Try.ntmps72
  go_wp2_with (at_builtin; refine wpList_append8 rfl (.tmp 10) (.tmp 11) rfl A0 m c0 l rfl HO.out A n cap B xs rfl HL.out HA.out HX.out (by omega) ?_)
  intro A' cap' w1 hO1 ho1 hn1
  have hnp : ¬ (blockOf A0 = some p) := by rw [HG.out]; exact hne.out
  have hlt : p < w.heap.size := lt_of_heap HB.out
  have hb1 := Lib.hid ((ho1.out.block p hlt hnp).trans HB.out)
  have hc1 : w1.cell? ⟨p, 0, none⟩ = some (.slice A0 m c0) := by
    have := cell_plain hb1.out 0
    simpa using this
  have hf1 : w1.frozen? ⟨p, 0, none⟩ = false := frozen_plain hb1.out 0
  go_wp2
  go_end0
  refine ⟨rfl, blockOf A', ⟨A', cap', ?_, ?_, rfl⟩, ?_, ?_⟩
  · rw [List.length_append, HM.out, HL.out]
    exact block_set1 hb1.out
  · rw [List.length_append, HM.out, HL.out]
    have hO : Only (fun k => k = p) w1 (w1.setCell ⟨p, 0, none⟩ (.slice A' (m + n) cap')) := (Only.refl (fun k => k = p) w1).setCell (p := ⟨p, 0, none⟩) (.inl rfl) _
    refine hO1.out.keep hO fun k hk e => ?_
    subst e
    obtain ⟨-, cur, hcur, _⟩ := hO1.out.block hk
    rw [hb1.out] at hcur
    simp at hcur
  · rw [← HG.out]; exact hn1.out
  · rw [← HG.out]
    exact (ho1.out.weak fun k _ h => .inr h).setCell (.inl (.inl rfl)) _
end Go.Proofs.Ytlcddfkhklmieaa
/-
  What a Writer's calls do, all of them: the document's bytes, behind what was there; Bytes in new memory. For at most 2^46 bytes.
-/
namespace Go.Proofs.Ytlcddfkhklmieaa
open Go.RowKit

theorem add_byte (p : Nat) (g : Option Nat) (l : List UInt8) (x : UInt8) (w : World) (hw : Wr w p g l) (hr : l.length + 1 ≤ 70368744177664) :
    Calls Try.prog 72 #[.pointer (some ⟨p, 0, none⟩), .slice (some ⟨w.heap.size, 0, none⟩) 1 1] (w.alloc (.cells #[.int .u8 ((x.toNat : Nat) : Int)] 5)) (WroteE w p g l [x]) := by
  have hb := bytes_one w x
  have hk : Wr (w.alloc (.cells #[.int .u8 ((x.toNat : Nat) : Int)] 5)) p g l := hw.keep (S := fun _ => False) ((Only.refl _ _).alloc _) (fun h => h) (fun _ _ h => h)
  refine (add_any p g l (some ⟨w.heap.size, 0, none⟩) [x] 1 1 _ _ hk rfl (fun h => by cases h) hb hr).mono ?_
  rintro e w' ⟨he, g', h1, h2, h3⟩
  refine ⟨he, g', h1, ?_, ?_⟩
  · rcases h2 with h2 | ⟨k, h2, h4⟩
    · exact .inl h2
    · exact .inr ⟨k, h2, by simp at h4; omega⟩
  · exact ((Only.refl _ _).alloc _).trans h3 fun k _ h => h

theorem add_num (p : Nat) (g : Option Nat) (l : List UInt8) (y : Nat) (w : World) (hy : y < 256) (hw : Wr w p g l) (hr : l.length + 1 ≤ 70368744177664) :
    Calls Try.prog 72 #[.pointer (some ⟨p, 0, none⟩), .slice (some ⟨w.heap.size, 0, none⟩) 1 1] (w.alloc (.cells #[.int .u8 (y : Int)] 5)) (WroteE w p g l [UInt8.ofNat y]) := by
  have h := add_byte p g l (UInt8.ofNat y) w hw hr
  rwa [show (UInt8.ofNat y).toNat = y by rw [UInt8.toNat_ofNat']; omega] at h

theorem byte_lo (x : Nat) : (x : Int) % 256 = (((UInt8.ofNat x).toNat : Nat) : Int) := by simp [UInt8.toNat_ofNat']
theorem pow256 (i : Nat) : (2 : Int) ^ (8 * i) = ((256 ^ i : Nat) : Int) := by
  have h : (2 : Nat) ^ (8 * i) = 256 ^ i := by rw [Nat.pow_mul]
  rw [← h]
  simp
theorem byte_at (x i : Nat) : (x : Int) / 2 ^ (8 * i) % 256 = (((UInt8.ofNat (x / 256 ^ i % 256)).toNat : Nat) : Int) := by
  rw [pow256]
  simp only [UInt8.toNat_ofNat']
  omega

def WideRel (w : World) (p : Nat) (g : Option Nat) (l : List UInt8) (x n : Nat) (i : Value) (wr : World) : Prop :=
  ∃ k, k ≤ n ∧ i = .int .i64 (k : Nat) ∧ Hid (Wrote w p g l (wideL x k) wr)
set_option maxHeartbeats 400000 in
theorem wwide_any (p : Nat) (g : Option Nat) (l : List UInt8) (x n : Nat) (w : World) (hw : Wr w p g l) (hn : n ≤ 8) (hr : l.length + 8 ≤ 70368744177664) :
    Calls Try.prog 55 #[.pointer (some ⟨p, 0, none⟩), .int .u64 (x : Int), .int .i64 (n : Int)] w (WroteE w p g l (wideL x n)) := by
  have HW := Lib.hid hw
  clear hw
  go_enter Try.func55, Try.ntmps55
  go_wp2
  go_loopw [8] (fun i wr => WideRel w p g l x n i wr) (fun i _ => n - (intOf i).toNat)
  case atStart => exact ⟨0, by omega, rfl, Wrote.same HW.out⟩
  case round =>
    obtain ⟨k, hk, rfl, hwr⟩ := hrel
    by_cases hlt : k < n
    · obtain ⟨g1, h1, h2, h3⟩ := hwr.out
      have H1 := Lib.hid h1
      have H2 := Lib.hid h2
      have H3 := Lib.hid h3
      have hlen : (l ++ wideL x k).length + 1 ≤ 70368744177664 := by rw [List.length_append, wideL_length]; omega
      have HL := Lib.hid hlen
      have e1 := byte_at x k
      have HS := Lib.hid (show wideL x k ++ [UInt8.ofNat (x / 256 ^ k % 256)] = wideL x (k + 1) from rfl)
      clear h1 h2 h3 hwr hlen
      generalize UInt8.ofNat (x / 256 ^ k % 256) = c at e1 HS
      go_wp2_with fail
      refine (add_byte p g1 _ c wr H1.out HL.out).mono ?_
      rintro e w2 ⟨rfl, h4⟩
      have H4 : Hid (Wrote w p g l (wideL x (k + 1)) w2) := Lib.hid (by rw [← HS.out]; exact Wrote.trans H2.out H3.out h4)
      clear h4
      go_wp2
      go_roundw
      case rel => exact ⟨k + 1, by omega, by go_num, H4⟩
      case measure => simp [intOf]; omega
    · obtain rfl : k = n := by omega
      go_wp2
      go_end0
      exact ⟨rfl, hwr.out⟩

/-- The byte of a group that is not the last, in the walk's own spelling. -/
theorem group_byte (x : Nat) : bits .or .u8 ((x : Int) % 256) 128 = (((UInt8.ofNat (x % 128 + 128)).toNat : Nat) : Int) := by
  have h := u8_or_nat (x % 256) 128 (by omega) (by omega)
  have d : ∀ y < 256, y ||| 128 = y % 128 + 128 := by decide +kernel
  rw [d _ (by omega)] at h
  rw [Int.natCast_emod] at h
  simp only [UInt8.toNat_ofNat']
  rw [show ((256 : Nat) : Int) = 256 from rfl, show ((128 : Nat) : Int) = 128 from rfl] at h
  rw [h]
  omega
def UintRel (w : World) (p : Nat) (g : Option Nat) (l : List UInt8) (x : Nat) (v : Value) (wr : World) : Prop :=
  ∃ y pre, v = .int .u64 ((y : Nat) : Int) ∧ y ≤ x ∧ Hid (pre ++ shortL y = shortL x) ∧ Hid (Wrote w p g l pre wr)
set_option maxHeartbeats 400000 in
theorem wuint_any (p : Nat) (g : Option Nat) (l : List UInt8) (x : Nat) (w : World) (hw : Wr w p g l) (hx : x < 18446744073709551616) (hr : l.length + 10 ≤ 70368744177664) :
    Calls Try.prog 74 #[.pointer (some ⟨p, 0, none⟩), .int .u64 (x : Int)] w (WroteE w p g l (shortL x)) := by
  have HW := Lib.hid hw
  have HT := Lib.hid (shortL_ten hx)
  clear hw hx
  go_enter Try.func74, Try.ntmps74
  go_wp2
  go_loopw [1] (fun v wr => UintRel w p g l x v wr) (fun v _ => (intOf v).toNat)
  case atStart => exact ⟨x, [], rfl, Nat.le_refl _, rfl, Wrote.same HW.out⟩
  case round =>
    obtain ⟨y, pre, rfl, hyx, hpre, hwr⟩ := hrel
    obtain ⟨g1, h1, h2, h3⟩ := hwr.out
    have H1 := Lib.hid h1
    have H2 := Lib.hid h2
    have H3 := Lib.hid h3
    have HL : Hid ((l ++ pre).length + 1 ≤ 70368744177664) := Lib.hid (by
      have h5 := congrArg List.length hpre.out
      have h6 := HT.out
      have h7 := shortL_pos y
      rw [List.length_append] at h5 ⊢
      omega)
    clear h1 h2 h3 hwr
    by_cases hlt : y < 128
    · have HS := Lib.hid (show pre ++ [UInt8.ofNat y] = shortL x by rw [← shortL_last hlt]; exact hpre.out)
      have hA := Lib.hid (fun (h : Wr wr p g1 (l ++ pre)) h2 => add_num p g1 (l ++ pre) y wr (by omega) h h2)
      have hlt' : ¬ (128 : Int) ≤ (y : Int) := by omega
      have e1 : (y : Int) % 256 = (y : Int) := by omega
      clear hpre hyx hlt
      go_wp2_with fail
      refine (hA.out H1.out HL.out).mono ?_
      rintro e w2 ⟨rfl, h4⟩
      have H4 : Hid (Wrote w p g l (shortL x) w2) := Lib.hid (by rw [← HS.out]; exact Wrote.trans H2.out H3.out h4)
      clear h4
      go_wp2
      go_end0
      exact ⟨rfl, H4.out⟩
    · have e1 := group_byte y
      have HS := Lib.hid (show (pre ++ [UInt8.ofNat (y % 128 + 128)]) ++ shortL (y / 128) = shortL x by rw [← hpre.out, shortL_more hlt]; simp)
      have hlt' : (128 : Int) ≤ (y : Int) := by omega
      clear hpre
      generalize UInt8.ofNat (y % 128 + 128) = c at e1 HS
      go_wp2_with fail
      refine (add_byte p g1 _ c wr H1.out HL.out).mono ?_
      rintro e w2 ⟨rfl, h4⟩
      have H4 : Hid (Wrote w p g l (pre ++ [c]) w2) := Lib.hid (Wrote.trans H2.out H3.out h4)
      clear h4
      go_wp2
      go_roundw
      case rel => exact ⟨y / 128, pre ++ [c], by go_num, by omega, HS, H4⟩
      case measure => simp [intOf]; omega

/-- A string's bytes. -/
def strL (s : ByteArray) : List UInt8 := s.data.toList
/-- '[]byte(s)': new memory. -/
theorem conv_bytes (s : ByteArray) (w : World) : ∃ W cap, Sem.run Try.prog (convert 9 26 (.string s)) w = .ok (.slice (some ⟨w.heap.size, 0, none⟩) s.size cap) W ∧
    Hid (Bytes W W.heap.size (some ⟨w.heap.size, 0, none⟩) (strL s)) ∧ Hid (Only (fun _ => False) w W) := by
  have C := run_bytes_of_string (P := Try.prog) w 9 26 5 s Try.underlying9 Try.underlying26 Try.underlying5
  refine ⟨_, _, C, Lib.hid fun hn => ⟨_, 0, rfl, by simp, fun k hk => ?_⟩, Lib.hid (((Only.refl _ _).drew).alloc _)⟩
  have h := World.cell?_alloc_mark w.drew (bytesRow s (grownCap w s.size 0 5)) 5 ((bytesRow s (grownCap w s.size 0 5)).size, (bytesRow s (grownCap w s.size 0 5)).size + 1) k
  rw [Nat.zero_add]
  refine Eq.trans h ?_
  have hk' : k < s.data.size := hk
  unfold bytesRow
  rw [Array.getElem?_append_left (by simpa using hk')]
  simp [at8, strL, List.getD, Array.getElem?_eq_getElem hk']
set_option maxHeartbeats 400000 in
theorem wtext_any (p : Nat) (g : Option Nat) (l : List UInt8) (s : ByteArray) (w : World) (hw : Wr w p g l) (hs : s.size ≤ 35184372088832) (hr : l.length + s.size + 10 ≤ 70368744177664) :
    Calls Try.prog 79 #[.pointer (some ⟨p, 0, none⟩), .string s] w (WroteE w p g l (shortL s.size ++ strL s)) := by
  have H := Lib.hid (wuint_any p g l s.size w hw (by omega) (by omega))
  clear hw
  go_enter Try.func79, Try.ntmps79
  go_wp2_with fail
  refine H.out.mono ?_
  rintro e w1 ⟨rfl, g1, h1, h2, h3⟩
  have H1 := Lib.hid h1
  have H2 := Lib.hid h2
  have H3 := Lib.hid h3
  obtain ⟨W2, cap, C, hb, ho⟩ := conv_bytes s w1
  have H4 : Hid (Wr W2 p g1 (l ++ shortL s.size)) := Lib.hid (H1.out.keep ho.out (fun h => h) (fun _ _ h => h))
  have hl10 := shortL_ten (x := s.size) (by omega)
  have HL := Lib.hid (show (l ++ shortL s.size).length + s.size ≤ 70368744177664 by rw [List.length_append]; omega)
  have HS := Lib.hid (show (strL s).length = s.size from rfl)
  clear h1 h2 h3 hl10 H
  go_wp2_with fail
  refine (add_any p g1 _ (some ⟨w1.heap.size, 0, none⟩) (strL s) s.size cap _ W2 H4.out HS.out (fun h => by cases h) hb.out HL.out).mono ?_
  rintro e w3 ⟨rfl, g3, h5, h6, h7⟩
  have H5 : Hid (Wrote w p g l (shortL s.size ++ strL s) w3) := Lib.hid (Wrote.trans H2.out H3.out ⟨g3, h5, h6.older ho.out.size, (ho.out.weak (S := fun k => k = p ∨ g1 = some k) fun _ _ h => h.elim).trans h7 fun _ _ h => h⟩)
  clear h5 h6 h7 C
  go_wp2
  go_end0
  exact ⟨rfl, H5.out⟩

/-- What Bytes answers: new memory. -/
def BytesE (w : World) (l : List UInt8) (e : Ending) (w' : World) : Prop := ∃ A cap, e = .returned (.slice A l.length cap) ∧ Hid (Own8 w' w.heap.size A l.length cap l) ∧ Hid (Below w.heap.size w w')

set_option maxHeartbeats 400000 in
theorem clone_any (A : Option Addr) (l : List UInt8) (n cap B : Nat) (w : World) (hn : l.length = n) (hA : A = none → cap = 0) (hb : Bytes w B A l) (hB : B ≤ w.heap.size) (hr : n ≤ 70368744177664) :
    Calls Try.prog 59 #[.slice A n cap] w (BytesE w l) := by
  subst hn
  rcases A with _ | ad
  · obtain rfl := hA rfl
    obtain rfl := hb.none_
    have C := Lib.run_eql_slice_nil (P := Try.prog) w 26 5 none 0 0 0 0 Try.underlying26
    clear hb hA
    go_enter Try.func59, Try.ntmps59
    go_wp2
    go_ret
    exact ⟨none, 0, rfl, Own8.nil_, Below.refl _ _⟩
  · have C := Lib.run_eql_slice_nil (P := Try.prog) w 26 5 (some ad) l.length cap 0 0 Try.underlying26
    have C1 := Lib.hid (World.ownsRow_made (base := 0) (e := 5) (size := 1) w #[] 0 (Nat.zero_le _) (by unfold maxLen; omega) rfl)
    have C3 := Lib.hid (hb.alloc hB (.cells #[] 5))
    have HA := Lib.hid hA
    clear hb hA
    generalize hn : l.length = n at hr C ⊢
    have HN := Lib.hid hn
    clear hn
    go_enter Try.func59, Try.ntmps59
    go_wp2_with (at_builtin; refine wpList_append8 rfl (.tmp 5) (.tmp 6) rfl (some ⟨w.heap.size, 0, none⟩) 0 0 [] rfl C1.out (some ad) n cap B l rfl HN.out HA.out C3.out (by omega) ?_)
    intro A' cap' w1 hO1 ho1 hn1
    have hge := Lib.hid (hn1.out.ge (B := w.heap.size) (by simp) (fun k hk => by cases hk; exact Nat.le_refl _))
    clear C C1 C3
    go_wp2
    go_ret
    refine ⟨A', cap', by rw [HN.out]; simp, ?_, ?_⟩
    · rw [HN.out]
      have h1 : Own8 w1 0 A' n cap' l := by simpa using hO1.out
      refine ⟨h1.1, ?_⟩
      rcases h1.2 with h2 | ⟨g, c, cur, hv, hg, hrest⟩
      · exact .inl h2
      · have hv' : A' = some ⟨g, 0, none⟩ ∧ cap' = c := by simpa using hv
        exact .inr ⟨g, c, cur, hv, hge.out g (by rw [hv'.1]; rfl), hrest⟩
    · exact ho1.out.below ((Below.refl _ _).alloc (Nat.le_refl _) _) (fun k hk => by cases hk; exact Nat.le_refl _) (by simp)

set_option maxHeartbeats 400000 in
theorem wbytes_any (p : Nat) (g : Option Nat) (l : List UInt8) (w : World) (hw : Wr w p g l) (hr : l.length ≤ 70368744177664) :
    Calls Try.prog 31 #[.pointer (some ⟨p, 0, none⟩)] w (BytesE w l) := by
  obtain ⟨A0, c0, h1, h2, h3⟩ := hw
  have HC := cell_plain h1 0
  simp only [List.getElem?_toArray, List.getElem?_cons_zero] at HC
  have HB := Lib.hid (clone_any A0 l l.length c0 w.heap.size w rfl h2.none_cap h2.bytes (Nat.le_refl _) hr)
  clear h1 h2 h3
  generalize hn : l.length = n at hr HC HB
  have HN := Lib.hid hn
  clear hn
  go_enter Try.func31, Try.ntmps31
  go_wp2_with fail
  refine HB.out.mono ?_
  rintro e w1 ⟨A, cap, rfl, ho, hb⟩
  go_wp2
  go_ret
  exact ⟨A, cap, rfl, ho, hb⟩

/-- A new Writer. -/
def NewE (w : World) (e : Ending) (w' : World) : Prop := e = .returned (.pointer (some ⟨w.heap.size, 0, none⟩)) ∧ Wr w' w.heap.size none [] ∧ Below w.heap.size w w' ∧ w'.heap.size = w.heap.size + 1
theorem wr_zero (w : World) : Wr (w.alloc (.cells #[.slice none 0 0] 83)) w.heap.size none [] := ⟨none, 0, heap_alloc_new w _, Own8.nil_, rfl⟩
set_option maxHeartbeats 400000 in
theorem wnew_any (w : World) : Calls Try.prog 28 #[] w (NewE w) := by
  go_enter Try.func28, Try.ntmps28
  go_wp2
  go_ret
  exact ⟨rfl, wr_zero w, (Below.refl _ _).alloc (Nat.le_refl _) _, by simp⟩

set_option maxHeartbeats 400000 in
theorem wu8_any (p : Nat) (g : Option Nat) (l : List UInt8) (x : Nat) (w : World) (hx : x < 256) (hw : Wr w p g l) (hr : l.length + 8 ≤ 70368744177664) :
    Calls Try.prog 29 #[.pointer (some ⟨p, 0, none⟩), .int .u8 (x : Int)] w (WroteE w p g l (wideL x 1)) := by
  have H := Lib.hid (wwide_any p g l x 1 w hw (by omega) hr)
  clear hw
  go_enter Try.func29, Try.ntmps29
  go_wp2_with fail
  refine H.out.mono ?_
  rintro e w1 ⟨rfl, h⟩
  have H1 := Lib.hid h
  clear h
  go_wp2
  go_end0
  exact ⟨rfl, H1.out⟩

/-- A slice's address under which the numbers ns lie, in a block below B. -/
def Nums (w : World) (B : Nat) (A : Option Addr) (ns : List Nat) : Prop :=
  0 < ns.length → ∃ b off, A = some ⟨b, off, none⟩ ∧ b < B ∧ ∀ k, k < ns.length → w.cell? ⟨b, off + k, none⟩ = some (.int .u64 ((ns.getD k 0 : Nat) : Int))
theorem Nums.keep {w w' : World} {B : Nat} {A : Option Addr} {ns : List Nat} (h : Nums w B A ns) (hk : ∀ b o, b < B → w'.cell? ⟨b, o, none⟩ = w.cell? ⟨b, o, none⟩) : Nums w' B A ns := fun hn => by
  obtain ⟨b, off, e, hb, hc⟩ := h hn
  exact ⟨b, off, e, hb, fun k hk' => (hk _ _ hb).trans (hc k hk')⟩
theorem Nums.below {w w' : World} {B : Nat} {A : Option Addr} {ns : List Nat} (h : Nums w B A ns) (hb : Below B w w') : Nums w' B A ns := h.keep fun b o hp => hb.cell (p := ⟨b, o, none⟩) hp
theorem Nums.more {w : World} {B B' : Nat} {A : Option Addr} {ns : List Nat} (h : Nums w B A ns) (hB : B ≤ B') : Nums w B' A ns := fun hn => by
  obtain ⟨b, off, e, hb, hc⟩ := h hn
  exact ⟨b, off, e, by omega, hc⟩
theorem getD_mem_lt {ns : List Nat} {M k : Nat} (h : ∀ x ∈ ns, x < M) (hk : k < ns.length) : ns.getD k 0 < M := by
  have := h ns[k] (List.getElem_mem hk)
  simpa [List.getD, hk] using this
def PutRel (w : World) (p : Nat) (g : Option Nat) (l : List UInt8) (ns : List Nat) (i : Value) (wr : World) : Prop :=
  ∃ k, k ≤ ns.length ∧ i = .int .i64 (k : Nat) ∧ Hid (Wrote w p g l (shortsL (ns.take k)) wr)
def AllU64 (ns : List Nat) : Prop := ∀ x ∈ ns, x < 18446744073709551616

set_option maxHeartbeats 400000 in
theorem wput_any (p : Nat) (g : Option Nat) (l : List UInt8) (A : Option Addr) (ns : List Nat) (cap : Nat) (w : World) (hw : Wr w p g l) (hb : Nums w w.heap.size A ns) (hp : 0 < ns.length → ∀ b, blockOf A = some b → b ≠ p ∧ g ≠ some b) (hns : AllU64 ns) (hl : ns.length ≤ 4611686018427) (hr : l.length + 10 * ns.length ≤ 70368744177664) :
    Calls Try.prog 90 #[.pointer (some ⟨p, 0, none⟩), .slice A ns.length cap] w (WroteE w p g l (shortsL ns)) := by
  have HW := Lib.hid hw
  have HB := Lib.hid hb
  have HN := Lib.hid hns
  have HPB := Lib.hid hp
  have HR := Lib.hid hr
  clear hw hb hns hp hr
  go_enter Try.func90, Try.ntmps90
  go_wp2
  go_loopw [8] (fun i wr => PutRel w p g l ns i wr) (fun i _ => ns.length - (intOf i).toNat)
  case atStart => exact ⟨0, by omega, rfl, Wrote.same HW.out⟩
  case round =>
    obtain ⟨k, hk, rfl, hwr⟩ := hrel
    by_cases hlt : k < ns.length
    · obtain ⟨g1, h1, h2, h3⟩ := hwr.out
      have H1 := Lib.hid h1
      have H2 := Lib.hid h2
      have H3 := Lib.hid h3
      obtain ⟨b, off, rfl, hbB, hc⟩ := HB.out (by omega)
      have hcell := (h3.cell (p := ⟨b, off + k, none⟩) hbB (fun e => by
        have e1 := HPB.out (by omega) b rfl
        rcases e with e | e
        · exact e1.1 e
        · exact e1.2 e)).trans (hc k hlt)
      have HS := Lib.hid (shortsL_take ns k hlt)
      have hxm := Lib.hid (getD_mem_lt HN.out hlt)
      have hlen : Hid ((l ++ shortsL (ns.take k)).length + 10 ≤ 70368744177664) := Lib.hid (by
        have h5 := shortsL_le (ns.take k) (fun x hx => HN.out x (List.mem_of_mem_take hx))
        have h6 := HR.out
        rw [List.length_take] at h5
        rw [List.length_append]
        omega)
      clear h1 h2 h3 hwr hc hbB
      generalize ns.getD k 0 = x at hcell HS hxm
      have hU := Lib.hid (wuint_any p g1 _ x wr H1.out hxm.out hlen.out)
      go_wp2_with fail
      refine hU.out.mono ?_
      rintro e w2 ⟨rfl, h4⟩
      have H4 : Hid (Wrote w p g l (shortsL (ns.take (k + 1))) w2) := Lib.hid (by rw [HS.out]; exact Wrote.trans H2.out H3.out h4)
      clear h4 hU
      go_wp2
      go_roundw
      case rel => exact ⟨k + 1, by omega, by go_num, H4⟩
      case measure => simp [intOf]; omega
    · have HT := Lib.hid (show ns.take k = ns from List.take_of_length_le (by omega))
      go_wp2
      go_end0
      have h := hwr.out
      rw [HT.out] at h
      exact ⟨rfl, h⟩
end Go.Proofs.Ytlcddfkhklmieaa
/-
  What a Reader's inner calls do: take, short, Err, Left, Fail, End. No condition but the Reader's own form.
-/
namespace Go.Proofs.Ytlcddfkhklmieaa
open Go.RowKit

/-- A slice of bytes that lie in a block of the program's own, with room behind them. -/
def Bts (w : World) (A : Option Addr) (cap : Nat) (l : List UInt8) : Prop :=
  l.length ≤ cap ∧ cap ≤ maxLen ∧ ((A = none ∧ cap = 0) ∨ ∃ b off cur, A = some ⟨b, off, none⟩ ∧ w.heap[b]? = some (.cells cur 5 (0, 0)) ∧ off + cap ≤ cur.size ∧ ∀ k, k < l.length → cur[off + k]? = some (.int .u8 ((at8 l k : Nat) : Int)))
theorem Bts.bytes {w : World} {A : Option Addr} {cap : Nat} {l : List UInt8} (h : Bts w A cap l) : Bytes w w.heap.size A l := fun hn => by
  rcases h.2.2 with ⟨_, hc⟩ | ⟨b, off, cur, rfl, hh, _, hc⟩
  · have := h.1; omega
  · exact ⟨b, off, rfl, lt_of_heap hh, fun k hk => (cell_plain hh _).trans (hc k hk)⟩
theorem Bts.none_cap {w : World} {A : Option Addr} {cap : Nat} {l : List UInt8} (h : Bts w A cap l) (hA : A = none) : cap = 0 := by
  rcases h.2.2 with ⟨_, hc⟩ | ⟨b, off, cur, rfl, _⟩
  · exact hc
  · cases hA
theorem Bts.keep {w w' : World} {A : Option Addr} {cap : Nat} {l : List UInt8} {S : Nat → Prop} (h : Bts w A cap l) (ho : Only S w w') (hn : ∀ k, blockOf A = some k → ¬ S k) : Bts w' A cap l := by
  refine ⟨h.1, h.2.1, ?_⟩
  rcases h.2.2 with h1 | ⟨b, off, cur, e, hh, hs, hc⟩
  · exact .inl h1
  · exact .inr ⟨b, off, cur, e, (ho.block b (lt_of_heap hh) (hn b (by rw [e]; rfl))).trans hh, hs, hc⟩
theorem Own8.bts {w : World} {base n cap : Nat} {A : Option Addr} {l : List UInt8} (h : Own8 w base A n cap l) : Bts w A cap l := by
  have hl := h.len
  refine ⟨by have := h.cap_le; omega, h.cap_max, ?_⟩
  rcases h.form8 with rfl | ⟨g, rfl⟩
  · exact .inl ⟨rfl, h.none_cap rfl⟩
  · obtain ⟨-, cur, hh, hs, hnc, ht⟩ := h.block (g := g) rfl
    refine .inr ⟨g, 0, cur, rfl, hh, by omega, fun k hk => ?_⟩
    have h1 := bv_get hk
    rw [← ht, List.getElem?_take, if_pos (by omega)] at h1
    rw [Nat.zero_add]
    simpa using h1
theorem at8_take {l : List UInt8} {n k : Nat} (h : k < n) : at8 (l.take n) k = at8 l k := by
  simp [at8, List.getD, h]
theorem at8_drop {l : List UInt8} {n k : Nat} : at8 (l.drop n) k = at8 l (n + k) := by
  simp [at8, List.getD, List.getElem?_drop]
theorem Bts.front {w : World} {A : Option Addr} {cap : Nat} {l : List UInt8} (h : Bts w A cap l) (n : Nat) (hn : n ≤ l.length) : Bts w A n (l.take n) := by
  refine ⟨by rw [List.length_take]; omega, by have := h.1; have := h.2.1; omega, ?_⟩
  rcases h.2.2 with ⟨h1, h2⟩ | ⟨b, off, cur, e, hh, hs, hc⟩
  · exact .inl ⟨h1, by have := h.1; omega⟩
  · refine .inr ⟨b, off, cur, e, hh, by have := h.1; omega, fun k hk => ?_⟩
    rw [List.length_take] at hk
    rw [hc k (by omega), at8_take (by omega)]
/-- Where what is behind the first n begins. -/
def behind (A : Option Addr) (cap n : Nat) : Option Addr := if cap = n then A else A.map (·.add n)
theorem behind_block {A : Option Addr} {cap n : Nat} : blockOf (behind A cap n) = blockOf A := by
  unfold behind
  split
  · rfl
  · cases A with
    | none => rfl
    | some a => obtain ⟨b, off, s⟩ := a; simp [blockOf, Addr.add]; split <;> rfl
theorem Bts.back {w : World} {A : Option Addr} {cap : Nat} {l : List UInt8} (h : Bts w A cap l) (n : Nat) (hn : n ≤ l.length) : Bts w (behind A cap n) (cap - n) (l.drop n) := by
  have h0 := h.1
  refine ⟨by rw [List.length_drop]; omega, by have := h.2.1; omega, ?_⟩
  rcases h.2.2 with ⟨h1, h2⟩ | ⟨b, off, cur, rfl, hh, hs, hc⟩
  · subst h1 h2
    exact .inl ⟨by unfold behind; split <;> rfl, by omega⟩
  · by_cases hcn : cap = n
    · refine .inr ⟨b, off, cur, by unfold behind; rw [if_pos hcn], hh, by omega, fun k hk => ?_⟩
      rw [List.length_drop] at hk; omega
    · refine .inr ⟨b, off + n, cur, by unfold behind; rw [if_neg hcn]; simp [add_mk], hh, by omega, fun k hk => ?_⟩
      rw [List.length_drop] at hk
      rw [Nat.add_assoc, hc (n + k) (by omega), at8_drop]

/-- A struct of what is left and whether there was a fault, in block q. -/
def Rd (T : TypeId) (w : World) (q : Nat) (d : Option Nat) (l : List UInt8) (bad : Bool) : Prop :=
  ∃ A cap, w.heap[q]? = some (.cells #[.slice A l.length cap, .bool bad] T (0, 0)) ∧ Bts w A cap l ∧ blockOf A = d
section
variable {T : TypeId} {w w' : World} {q : Nat} {d : Option Nat} {l : List UInt8} {bad : Bool}
theorem Rd.lt (h : Rd T w q d l bad) : q < w.heap.size := by
  obtain ⟨A, cap, h1, _⟩ := h
  exact lt_of_heap h1
theorem Rd.ne (h : Rd T w q d l bad) (hT : T ≠ 5) : d ≠ some q := by
  obtain ⟨A, cap, h1, h2, h3⟩ := h
  intro e
  rw [e] at h3
  rcases h2.2.2 with ⟨rfl, _⟩ | ⟨b, off, cur, rfl, hh, _⟩
  · cases h3
  · cases h3
    rw [h1] at hh
    simp at hh
    exact hT hh.2
theorem Rd.dlt (h : Rd T w q d l bad) : ∀ k, d = some k → k < w.heap.size := by
  obtain ⟨A, cap, h1, h2, h3⟩ := h
  intro k e
  rw [e] at h3
  rcases h2.2.2 with ⟨rfl, _⟩ | ⟨b, off, cur, rfl, hh, _⟩
  · cases h3
  · cases h3
    exact lt_of_heap hh
theorem Rd.keep {S : Nat → Prop} (h : Rd T w q d l bad) (ho : Only S w w') (h1 : ¬ S q) (h2 : ∀ k, d = some k → ¬ S k) : Rd T w' q d l bad := by
  have hlt := h.lt
  obtain ⟨A, cap, e, hb, hd⟩ := h
  exact ⟨A, cap, (ho.block q hlt h1).trans e, hb.keep ho fun k hk => h2 k (hd.symm.trans hk), hd⟩
end
theorem block_set2 {w : World} {b : Nat} {v0 v1 u : Value} {t : TypeId} (h : w.heap[b]? = some (.cells #[v0, v1] t (0, 0))) : (w.setCell ⟨b, 0, none⟩ u).heap[b]? = some (.cells #[u, v1] t (0, 0)) := by
  simp [World.setCell, Array.getElem?_modify, h]
theorem block_set2' {w : World} {b : Nat} {v0 v1 u : Value} {t : TypeId} (h : w.heap[b]? = some (.cells #[v0, v1] t (0, 0))) : (w.setCell ⟨b, 1, none⟩ u).heap[b]? = some (.cells #[v0, u] t (0, 0)) := by
  simp [World.setCell, Array.getElem?_modify, h]

/-! The Reader's calls that look alone, and Fail. -/
def errOf (bad : Bool) : Int := if bad then 3 else 0
abbrev RdT : TypeId := 93
set_option maxHeartbeats 400000 in
theorem err_bad (q : Nat) (d : Option Nat) (l : List UInt8) (w : World) (h : Rd RdT w q d l true) :
    Calls Try.prog 69 #[.pointer (some ⟨q, 0, none⟩)] w fun e w' => e = .returned (.int .i64 3) ∧ w = w' := by
  obtain ⟨A, cap, h1, h2, h3⟩ := h
  have HC : w.cell? ⟨q, 1, none⟩ = some (.bool true) := by simpa using cell_plain h1 1
  clear h1 h2 h3
  go_enter Try.func69, Try.ntmps69
  go_wp2
  go_ret
  exact ⟨rfl, rfl⟩
set_option maxHeartbeats 400000 in
theorem err_ok (q : Nat) (d : Option Nat) (l : List UInt8) (w : World) (h : Rd RdT w q d l false) :
    Calls Try.prog 69 #[.pointer (some ⟨q, 0, none⟩)] w fun e w' => e = .returned (.int .i64 0) ∧ w = w' := by
  obtain ⟨A, cap, h1, h2, h3⟩ := h
  have HC : w.cell? ⟨q, 1, none⟩ = some (.bool false) := by simpa using cell_plain h1 1
  clear h1 h2 h3
  go_enter Try.func69, Try.ntmps69
  go_wp2
  go_ret
  exact ⟨rfl, rfl⟩
set_option maxHeartbeats 400000 in
theorem left_any (q : Nat) (d : Option Nat) (l : List UInt8) (bad : Bool) (n : Nat) (w : World) (h : Rd RdT w q d l bad) (hn : l.length = n) :
    Calls Try.prog 67 #[.pointer (some ⟨q, 0, none⟩)] w fun e w' => e = .returned (.int .i64 (n : Int)) ∧ w = w' := by
  obtain ⟨A, cap, h1, h2, h3⟩ := h
  have HC : w.cell? ⟨q, 0, none⟩ = some (.slice A n cap) := by rw [← hn]; simpa using cell_plain h1 0
  clear h1 h2 h3 hn
  go_enter Try.func67, Try.ntmps67
  go_wp2
  go_ret
  exact ⟨rfl, rfl⟩
set_option maxHeartbeats 400000 in
theorem fail_any (q : Nat) (d : Option Nat) (l : List UInt8) (bad : Bool) (w : World) (h : Rd RdT w q d l bad) :
    Calls Try.prog 68 #[.pointer (some ⟨q, 0, none⟩)] w fun e w' => e = .returned (.tuple #[]) ∧ Hid (Rd RdT w' q d l true) ∧ Hid (Only (fun k => k = q) w w') := by
  have hne := h.ne (by decide)
  obtain ⟨A, cap, h1, h2, h3⟩ := h
  have HC : w.cell? ⟨q, 1, none⟩ = some (.bool bad) := by simpa using cell_plain h1 1
  have HF := frozen_plain h1 1
  have H1 := Lib.hid h1
  have H2 := Lib.hid h2
  have H3 := Lib.hid h3
  clear h1 h2 h3
  go_enter Try.func68, Try.ntmps68
  go_wp2
  go_end0
  have ho : Only (fun k => k = q) w (w.setCell ⟨q, 1, none⟩ (.bool true)) := (Only.refl (fun k => k = q) w).setCell (p := ⟨q, 1, none⟩) (.inl rfl) _
  exact ⟨rfl, ⟨A, cap, block_set2' H1.out, H2.out.keep ho (fun k hk e => by subst e; exact hne (H3.out.symm.trans hk)), H3.out⟩, ho⟩

/-! take, over either package's struct (T). -/
def TookE (T : TypeId) (w : World) (q : Nat) (d : Option Nat) (l : List UInt8) (bad : Bool) (n : Nat) (e : Ending) (w' : World) : Prop :=
  ∃ A, e = .returned (.slice A n n) ∧ Hid (Rd T w' q d (l.drop n) bad) ∧ Hid (Bts w' A n (l.take n)) ∧ Hid (blockOf A = d) ∧ Hid (Only (fun k => k = q) w w')
theorem took_of {T : TypeId} {w : World} {q : Nat} {d : Option Nat} {l : List UInt8} {bad : Bool} {A : Option Addr} {cap m : Nat} (hT : T ≠ 5) (n : Nat) (h1 : w.heap[q]? = some (.cells #[.slice A m cap, .bool bad] T (0, 0))) (h2 : Bts w A cap l) (h3 : blockOf A = d) (hl : l.length = m) (hn : n ≤ m) :
    TookE T w q d l bad n (.returned (.slice A n n)) (w.setCell ⟨q, 0, none⟩ (.slice (behind A cap n) (m - n) (cap - n))) := by
  have hne : d ≠ some q := (show Rd T w q d l bad from ⟨A, cap, by rw [hl]; exact h1, h2, h3⟩).ne hT
  have ho : Only (fun k => k = q) w (w.setCell ⟨q, 0, none⟩ (.slice (behind A cap n) (m - n) (cap - n))) := (Only.refl (fun k => k = q) w).setCell (p := ⟨q, 0, none⟩) (.inl rfl) _
  have hk : ∀ k, blockOf A = some k → ¬ k = q := fun k hk e => by subst e; exact hne (h3.symm.trans hk)
  refine ⟨A, rfl, ⟨behind A cap n, cap - n, ?_, ?_, ?_⟩, ?_, h3, ho⟩
  · rw [List.length_drop, hl]
    exact block_set2 h1
  · exact (h2.back n (by omega)).keep ho (fun k e => hk k (by rw [← behind_block (cap := cap) (n := n)]; exact e))
  · rw [behind_block]; exact h3
  · exact (h2.front n (by omega)).keep ho hk
set_option maxHeartbeats 400000 in
theorem take_ok (q : Nat) (d : Option Nat) (l : List UInt8) (bad : Bool) (n : Nat) (w : World) (h : Rd RdT w q d l bad) (hn : n ≤ l.length) :
    Calls Try.prog 81 #[.pointer (some ⟨q, 0, none⟩), .int .i64 (n : Int)] w (TookE RdT w q d l bad n) := by
  obtain ⟨A, cap, h1, h2, h3⟩ := h
  have HC : w.cell? ⟨q, 0, none⟩ = some (.slice A l.length cap) := by simpa using cell_plain h1 0
  have HF := frozen_plain h1 0
  have hc := h2.1
  have hm := h2.2.1
  unfold maxLen at hm
  generalize hl : l.length = m at *
  have HT := Lib.hid (took_of (by decide) n h1 h2 h3 hl hn)
  clear h1 h2 h3 hl
  by_cases hcn : cap = n
  · subst hcn
    have HE := Lib.hid (show behind A cap cap = A from if_pos rfl)
    obtain rfl : cap = m := by omega
    go_enter Try.func81, Try.ntmps81
    go_wp2
    go_ret
    have h := HT.out
    rw [HE.out] at h
    simpa using h
  · have HE := Lib.hid (show behind A cap n = A.map (·.add n) from if_neg hcn)
    go_enter Try.func81, Try.ntmps81
    go_wp2
    go_ret
    have h := HT.out
    rw [HE.out] at h
    exact h
def FaultE (T : TypeId) (w : World) (q : Nat) (d : Option Nat) (l : List UInt8) (v : Value) (e : Ending) (w' : World) : Prop :=
  e = .returned v ∧ Hid (Rd T w' q d l true) ∧ Hid (Only (fun k => k = q) w w')
theorem fault_of {T : TypeId} {w : World} {q : Nat} {d : Option Nat} {l : List UInt8} {bad : Bool} {A : Option Addr} {cap : Nat} (hT : T ≠ 5) (h1 : w.heap[q]? = some (.cells #[.slice A l.length cap, .bool bad] T (0, 0))) (h2 : Bts w A cap l) (h3 : blockOf A = d) (v : Value) :
    FaultE T w q d l v (.returned v) (w.setCell ⟨q, 1, none⟩ (.bool true)) := by
  have hne : d ≠ some q := (show Rd T w q d l bad from ⟨A, cap, h1, h2, h3⟩).ne hT
  have ho : Only (fun k => k = q) w (w.setCell ⟨q, 1, none⟩ (.bool true)) := (Only.refl (fun k => k = q) w).setCell (p := ⟨q, 1, none⟩) (.inl rfl) _
  exact ⟨rfl, ⟨A, cap, block_set2' h1, h2.keep ho (fun k hk e => by subst e; exact hne (h3.symm.trans hk)), h3⟩, ho⟩
set_option maxHeartbeats 400000 in
theorem take_no (q : Nat) (d : Option Nat) (l : List UInt8) (bad : Bool) (n : Int) (w : World) (h : Rd RdT w q d l bad) (hn : n < 0 ∨ (l.length : Int) < n) :
    Calls Try.prog 81 #[.pointer (some ⟨q, 0, none⟩), .int .i64 n] w (FaultE RdT w q d l (.slice none 0 0)) := by
  obtain ⟨A, cap, h1, h2, h3⟩ := h
  have HC : w.cell? ⟨q, 0, none⟩ = some (.slice A l.length cap) := by simpa using cell_plain h1 0
  have HB : w.cell? ⟨q, 1, none⟩ = some (.bool bad) := by simpa using cell_plain h1 1
  have HF := frozen_plain h1 1
  have HT := Lib.hid (fault_of (by decide) h1 h2 h3 (.slice none 0 0))
  clear h1 h2 h3
  generalize l.length = m at *
  by_cases h0 : n < 0
  · clear hn
    go_enter Try.func81, Try.ntmps81
    go_wp2
    go_ret
    exact HT.out
  · have h1 : (m : Int) < n := by omega
    clear hn
    go_enter Try.func81, Try.ntmps81
    go_wp2
    go_ret
    exact HT.out
end Go.Proofs.Ytlcddfkhklmieaa
/-
  What a Reader's look at the short number in front does: it tells its worth and its groups, or noughts; it leaves all as it was. For at most 2^46 bytes.
-/
namespace Go.Proofs.Ytlcddfkhklmieaa
open Go.RowKit

theorem or_place {n x k : Nat} (h : n < 2 ^ k) : n ||| (x * 2 ^ k) = n + x * 2 ^ k := by
  rw [Nat.mul_comm, Nat.or_comm, ← Nat.two_pow_add_eq_or_of_lt h, Nat.add_comm]
theorem low7 (b : Nat) (hb : b < 256) : bits .andNot .u8 (b : Int) 128 = ((b % 128 : Nat) : Int) := by
  have h := u8_andNot_nat b 128 hb (by omega)
  rw [show 255 - 128 = 2 ^ 7 - 1 from rfl, Nat.and_two_pow_sub_one_eq_mod] at h
  exact h
theorem drop_cons_at {l : List UInt8} {i : Nat} (h : i < l.length) : l.drop i = l.getD i 0 :: l.drop (i + 1) := by
  rw [List.drop_eq_getElem_cons h]
  simp [List.getD, h]
/-- What one round makes of the shift there and back, in the walk's own spelling. -/
theorem fits_yes (g k : Nat) (h : g * 2 ^ (7 * k) < 18446744073709551616) :
    Op.shift .shl .u64 (g : Int) .i64 (7 * (k : Int)) = pure (.int .u64 ((g * 2 ^ (7 * k) : Nat) : Int)) ∧ Op.shift .shr .u64 ((g * 2 ^ (7 * k) : Nat) : Int) .i64 (7 * (k : Int)) = pure (.int .u64 (g : Int)) := by
  have ht : (7 * (k : Int)).toNat = 7 * k := by omega
  rw [shift_shl_any _ _ _ _ (by omega), shift_shr_any _ _ _ _ (by omega), ht]
  have hb : IntKind.u64.bits = 64 := rfl
  rw [hb, IntKind.wrap_u64]
  by_cases hk : 7 * k ≤ 64
  · rw [Nat.min_eq_left hk]
    have hp : 0 < (2 : Nat) ^ (7 * k) := Nat.two_pow_pos _
    have e : (g : Int) * 2 ^ (7 * k) = ((g * 2 ^ (7 * k) : Nat) : Int) := by simp
    have e2 : (2 : Int) ^ (7 * k) = ((2 ^ (7 * k) : Nat) : Int) := by simp
    rw [e, e2]
    refine ⟨by congr 2; omega, ?_⟩
    rw [← Int.natCast_ediv, Nat.mul_div_cancel _ hp]
  · rw [Nat.min_eq_right (by omega)]
    have hg : g = 0 := by
      rcases Nat.eq_zero_or_pos g with h0 | h0
      · exact h0
      · have h1 : 2 ^ 64 ≤ 2 ^ (7 * k) := Nat.pow_le_pow_right (by omega) (by omega)
        have h2 : 1 * 2 ^ (7 * k) ≤ g * 2 ^ (7 * k) := Nat.mul_le_mul_right _ h0
        omega
    subst hg
    simp
theorem fits_no (g k : Nat) (hg : g < 128) (h : 18446744073709551616 ≤ g * 2 ^ (7 * k)) :
    ∃ X Y : Int, Op.shift .shl .u64 (g : Int) .i64 (7 * (k : Int)) = pure (.int .u64 X) ∧ Op.shift .shr .u64 X .i64 (7 * (k : Int)) = pure (.int .u64 Y) ∧ ¬ Y = (g : Int) := by
  have ht : (7 * (k : Int)).toNat = 7 * k := by omega
  refine ⟨_, _, by rw [shift_shl_any _ _ _ _ (by omega)], by rw [shift_shr_any _ _ _ _ (by omega)], ?_⟩
  have hb : IntKind.u64.bits = 64 := rfl
  rw [ht, hb, IntKind.wrap_u64]
  by_cases hk : 7 * k ≤ 64
  · rw [Nat.min_eq_left hk]
    have e : (g : Int) * 2 ^ (7 * k) = ((g * 2 ^ (7 * k) : Nat) : Int) := by simp
    have e2 : (2 : Int) ^ (7 * k) = ((2 ^ (7 * k) : Nat) : Int) := by simp
    rw [e, e2]
    intro hc
    have h1 : (((g * 2 ^ (7 * k) : Nat) : Int)) % 18446744073709551616 = ((g * 2 ^ (7 * k) % 18446744073709551616 : Nat) : Int) := by omega
    rw [h1, ← Int.natCast_ediv] at hc
    have hc' : g * 2 ^ (7 * k) % 18446744073709551616 / 2 ^ (7 * k) = g := by exact_mod_cast hc
    have h2 : g * 2 ^ (7 * k) % 18446744073709551616 / 2 ^ (7 * k) * 2 ^ (7 * k) ≤ g * 2 ^ (7 * k) % 18446744073709551616 := Nat.div_mul_le_self _ _
    rw [hc'] at h2
    have := Nat.mod_lt (g * 2 ^ (7 * k)) (show 0 < 18446744073709551616 by omega)
    omega
  · rw [Nat.min_eq_right (by omega)]
    have h0 : g ≠ 0 := by rintro rfl; simp at h
    have e : (g : Int) * 2 ^ 64 % 18446744073709551616 = 0 := by omega
    rw [e]
    simp only [Int.zero_ediv]
    omega
theorem or_add {y g k : Nat} (hy : y < 2 ^ (7 * k)) (hy2 : y < 18446744073709551616) (h : g * 2 ^ (7 * k) < 18446744073709551616) :
    bits .or .u64 (y : Int) ((g * 2 ^ (7 * k) : Nat) : Int) = ((y + g * 2 ^ (7 * k) : Nat) : Int) := by
  rw [u64_or_nat _ _ hy2 h, or_place hy]
theorem or_bound {y g k : Nat} (hy : y < 2 ^ (7 * k)) (hg : g < 128) (hy2 : y < 18446744073709551616) (h : g * 2 ^ (7 * k) < 18446744073709551616) :
    y + g * 2 ^ (7 * k) < 2 ^ (7 * (k + 1)) ∧ y + g * 2 ^ (7 * k) < 18446744073709551616 := by
  have h1 : (g + 1) * 2 ^ (7 * k) ≤ 128 * 2 ^ (7 * k) := Nat.mul_le_mul_right _ (by omega)
  rw [Nat.add_mul] at h1
  have e : 2 ^ (7 * (k + 1)) = 128 * 2 ^ (7 * k) := by rw [Nat.mul_add, Nat.pow_add, Nat.mul_comm]
  refine ⟨by rw [e]; omega, ?_⟩
  rw [← or_place hy]
  exact Nat.or_lt_two_pow (n := 64) hy2 h
def ShortRel (l : List UInt8) (x i : Value) : Prop :=
  ∃ k y, k ≤ l.length ∧ i = .int .i64 (k : Nat) ∧ x = .int .u64 ((y : Nat) : Int) ∧ Hid (scan l 0 0 = scan (l.drop k) k y) ∧ Hid (y < 2 ^ (7 * k) ∧ y < 18446744073709551616)
set_option maxHeartbeats 400000 in
theorem short_any (q : Nat) (d : Option Nat) (l : List UInt8) (bad : Bool) (w : World) (h : Rd RdT w q d l bad) (hr : l.length ≤ 70368744177664) :
    Calls Try.prog 91 #[.pointer (some ⟨q, 0, none⟩)] w fun e w' => e = .returned (.tuple #[.int .u64 ((parse l).1 : Nat), .int .i64 ((parse l).2 : Nat)]) ∧ w = w' := by
  obtain ⟨A, cap, h1, h2, h3⟩ := h
  have HC : w.cell? ⟨q, 0, none⟩ = some (.slice A l.length cap) := by simpa using cell_plain h1 0
  have HB := Lib.hid h2.bytes
  clear h1 h2 h3
  go_enter Try.func91, Try.ntmps91
  go_wp2
  go_loop [4, 14] (fun x i => ShortRel l x i) (fun _ i => l.length - (intOf i).toNat)
  case atStart => exact ⟨0, 0, Nat.zero_le _, rfl, rfl, rfl, Lib.hid (by decide)⟩
  case round =>
    obtain ⟨k, y, hk, rfl, rfl, hsc, hy⟩ := hrel
    by_cases hlt : k < l.length
    · obtain ⟨b, off, rfl, _, hc⟩ := HB.out (by omega)
      have hcell := hc k hlt
      have hx := at8_lt l k
      have HS := Lib.hid (show scan (l.drop k) k y = _ by rw [drop_cons_at hlt, scan])
      rw [show (l.getD k 0).toNat = at8 l k from rfl] at HS
      generalize at8 l k = c at hcell hx HS
      clear hc
      have e1 := low7 c hx
      have hg : c % 128 < 128 := Nat.mod_lt _ (by omega)
      have hcg := Lib.hid (show c < 128 → c % 128 = c from Nat.mod_eq_of_lt)
      by_cases hf : c % 128 * 2 ^ (7 * k) < 18446744073709551616
      · obtain ⟨f1, f2⟩ := fits_yes (c % 128) k hf
        have f3 := or_add hy.out.1 hy.out.2 hf
        have F4 := Lib.hid (or_bound hy.out.1 hg hy.out.2 hf)
        have F5 := Lib.hid hf
        rw [if_neg (by omega)] at HS
        clear hf
        generalize c % 128 = g at *
        generalize hN : g * 2 ^ (7 * k) = N at *
        have HN := Lib.hid hN
        clear hN
        generalize hz : y + N = z at *
        clear hz
        by_cases hm : 128 ≤ c
        · have hm' : (128 : Int) ≤ (c : Int) := by omega
          have HS2 := Lib.hid (show scan l 0 0 = scan (l.drop (k + 1)) (k + 1) z by rw [hsc.out, HS.out, if_pos hm])
          clear hm hsc HS hy
          go_wp2
          go_round
          case rel => exact ⟨k + 1, z, by omega, by go_num, rfl, HS2, F4⟩
          case measure => simp [intOf]; omega
        · have hm' : ¬ (128 : Int) ≤ (c : Int) := by omega
          by_cases h0 : c = 0 ∧ 0 < k
          · have HP := Lib.hid (show parse l = (0, 0) by unfold parse; rw [hsc.out, HS.out, if_neg hm, if_pos h0]; rfl)
            obtain ⟨rfl, hk0⟩ := h0
            have hk1 : (0 : Int) < (k : Int) := by omega
            obtain rfl : g = 0 := (hcg.out (by omega)).symm ▸ rfl
            obtain rfl : N = 0 := by have hh := HN.out; simpa using hh.symm
            rw [show ((0 : Nat) : Int) = 0 from rfl] at e1 f1 f2 f3
            clear hm hsc HS hy hk0
            go_wp2
            go_ret2
            exact ⟨by rw [HP.out]; rfl, rfl⟩
          · have HP := Lib.hid (show parse l = (z, k + 1) by unfold parse; rw [hsc.out, HS.out, if_neg hm, if_neg h0]; rfl)
            clear hm hsc HS hy
            by_cases hc0 : c = 0
            · subst hc0
              have hk1 : ¬ (0 : Int) < (k : Int) := by omega
              obtain rfl : g = 0 := (hcg.out (by omega)).symm ▸ rfl
              obtain rfl : N = 0 := by have hh := HN.out; simpa using hh.symm
              rw [show ((0 : Nat) : Int) = 0 from rfl] at e1 f1 f2 f3
              clear h0
              go_wp2
              go_ret2
              exact ⟨by rw [HP.out]; rfl, rfl⟩
            · have hc1 : ¬ (c : Int) = 0 := by omega
              clear h0
              go_wp2
              go_ret2
              exact ⟨by rw [HP.out]; rfl, rfl⟩
      · obtain ⟨X, Y, f1, f2, f3⟩ := fits_no (c % 128) k hg (by omega)
        have HP := Lib.hid (show parse l = (0, 0) by unfold parse; rw [hsc.out, HS.out, if_pos (by omega)]; rfl)
        clear hf HS hsc
        generalize c % 128 = g at *
        go_wp2
        go_ret2
        exact ⟨by rw [HP.out]; rfl, rfl⟩
    · have HP := Lib.hid (show parse l = (0, 0) by unfold parse; rw [hsc.out, List.drop_of_length_le (by omega)]; rfl)
      go_wp2
      go_ret2
      exact ⟨by rw [HP.out]; rfl, rfl⟩
end Go.Proofs.Ytlcddfkhklmieaa
/-
  What a Reader's calls answer, and what they leave: the document's, whatever the bytes. For at most 2^46 bytes.
-/
namespace Go.Proofs.Ytlcddfkhklmieaa
open Go.RowKit

/-- A call that answers v and leaves the Reader so; only the Reader's own struct has turned. -/
def RdE (T : TypeId) (w : World) (q : Nat) (d : Option Nat) (v : Value) (s : RS) (e : Ending) (w' : World) : Prop :=
  e = .returned v ∧ Hid (Rd T w' q d s.l s.bad) ∧ Hid (Only (fun k => k = q) w w')
theorem only_trans {S : Nat → Prop} {a b c : World} (h : Only S a b) (k : Only S b c) : Only S a c := h.trans k fun _ _ h => h

/-! End -/
set_option maxHeartbeats 400000 in
theorem end_any (q : Nat) (d : Option Nat) (s : RS) (w : World) (h : Rd RdT w q d s.l s.bad) :
    Calls Try.prog 39 #[.pointer (some ⟨q, 0, none⟩)] w (RdE RdT w q d (.int .i64 (errOf (rEnd s).bad)) (rEnd s)) := by
  have H := Lib.hid h
  have HL := Lib.hid (left_any q d s.l s.bad s.l.length w h rfl)
  clear h
  by_cases hl : s.l = []
  · have hb : rEnd s = s := by
      obtain ⟨l, b⟩ := s
      simp only at hl
      subst hl
      simp [rEnd]
    rw [hb]
    have h0 : s.l.length = 0 := by rw [hl]; rfl
    rw [h0] at HL
    cases hbad : s.bad with
    | true =>
      have HE := Lib.hid (err_bad q d s.l w (by have := H.out; rwa [hbad] at this))
      have HB := Lib.hid hbad
      clear hbad h0 hb hl
      go_enter Try.func39, Try.ntmps39
      go_wp2_with fail
      refine HL.out.mono ?_
      rintro e w1 ⟨rfl, rfl⟩
      go_wp2_with fail
      refine HE.out.mono ?_
      rintro e w1 ⟨rfl, rfl⟩
      go_wp2
      go_ret
      exact ⟨rfl, H, Only.refl _ _⟩
    | false =>
      have HE := Lib.hid (err_ok q d s.l w (by have := H.out; rwa [hbad] at this))
      have HB := Lib.hid hbad
      clear hbad h0 hb hl
      go_enter Try.func39, Try.ntmps39
      go_wp2_with fail
      refine HL.out.mono ?_
      rintro e w1 ⟨rfl, rfl⟩
      go_wp2_with fail
      refine HE.out.mono ?_
      rintro e w1 ⟨rfl, rfl⟩
      go_wp2
      go_ret
      exact ⟨rfl, H, Only.refl _ _⟩
  · have hb : (rEnd s) = ⟨s.l, true⟩ := by
      obtain ⟨l, b⟩ := s
      simp only at hl
      simp [rEnd, hl]
    rw [hb]
    have h0 : 0 < s.l.length := List.length_pos_iff.2 hl
    have HF := Lib.hid (fail_any q d s.l s.bad w H.out)
    clear hb hl
    generalize s.l.length = n at *
    have h1 : (0 : Int) < (n : Int) := by omega
    go_enter Try.func39, Try.ntmps39
    go_wp2_with fail
    refine HL.out.mono ?_
    rintro e w1 ⟨rfl, rfl⟩
    go_wp2_with fail
    refine HF.out.mono ?_
    rintro e w1 ⟨rfl, h2, h3⟩
    go_wp2_with fail
    refine (err_bad q d s.l w1 h2.out).mono ?_
    rintro e w2 ⟨rfl, rfl⟩
    go_wp2
    go_ret
    exact ⟨rfl, h2, h3⟩

/-! Raw -/
def RawE (w : World) (q : Nat) (d : Option Nat) (s : RS) (n : Int) (e : Ending) (w' : World) : Prop :=
  ∃ A cap, e = .returned (.slice A (rRaw s n).1.length cap) ∧ Hid (Rd RdT w' q d (rRaw s n).2.l (rRaw s n).2.bad) ∧ Hid (Bts w' A cap (rRaw s n).1) ∧ Hid (A = none ∨ blockOf A = d) ∧ Hid (Only (fun k => k = q) w w')
/-! Uint -/
set_option maxHeartbeats 400000 in
theorem uint_any (q : Nat) (d : Option Nat) (s : RS) (w : World) (h : Rd RdT w q d s.l s.bad) (hr : s.l.length ≤ 70368744177664) :
    Calls Try.prog 83 #[.pointer (some ⟨q, 0, none⟩)] w (RdE RdT w q d (.int .u64 ((rUint s).1 : Nat)) (rUint s).2) := by
  have H := Lib.hid h
  clear h
  cases hbad : s.bad with
  | true =>
    have HR := Lib.hid (show rUint s = (0, ⟨s.l, true⟩) from if_pos (.inl hbad))
    rw [hbad] at H
    have HE := Lib.hid (err_bad q d s.l w H.out)
    clear hbad
    go_enter Try.func83, Try.ntmps83
    go_wp2_with fail
    refine HE.out.mono ?_
    rintro e w1 ⟨rfl, rfl⟩
    go_wp2
    go_ret
    exact ⟨by rw [HR.out]; rfl, by rw [HR.out]; exact H, Only.refl _ _⟩
  | false =>
    rw [hbad] at H
    have HE := Lib.hid (err_ok q d s.l w H.out)
    have HS := Lib.hid (short_any q d s.l false w H.out hr)
    by_cases hn : (parse s.l).2 = 0
    · have HR := Lib.hid (show rUint s = (0, ⟨s.l, true⟩) from if_pos (.inr hn))
      have HT := Lib.hid (fail_any q d s.l false w H.out)
      rw [hn] at HS
      generalize (parse s.l).1 = x at *
      clear hbad hn
      go_enter Try.func83, Try.ntmps83
      go_wp2_with fail
      refine HE.out.mono ?_
      rintro e w1 ⟨rfl, rfl⟩
      go_wp2_with fail
      refine HS.out.mono ?_
      rintro e w1 ⟨rfl, rfl⟩
      go_wp2_with fail
      refine HT.out.mono ?_
      rintro e w1 ⟨rfl, h2, h3⟩
      go_wp2
      go_ret
      exact ⟨by rw [HR.out]; rfl, by rw [HR.out]; exact h2, h3⟩
    · have HR := Lib.hid (show rUint s = ((parse s.l).1, ⟨s.l.drop (parse s.l).2, false⟩) from if_neg (by rw [hbad]; simpa using hn))
      have HT := Lib.hid (take_ok q d s.l false (parse s.l).2 w H.out (parse_le _))
      generalize (parse s.l).1 = x at *
      generalize (parse s.l).2 = n at *
      have hn' : ¬ (n : Int) = 0 := by omega
      clear hbad hn
      go_enter Try.func83, Try.ntmps83
      go_wp2_with fail
      refine HE.out.mono ?_
      rintro e w1 ⟨rfl, rfl⟩
      go_wp2_with fail
      refine HS.out.mono ?_
      rintro e w1 ⟨rfl, rfl⟩
      go_wp2_with fail
      refine HT.out.mono ?_
      rintro e w1 ⟨A, rfl, h2, h3, h4, h5⟩
      go_wp2
      go_ret
      exact ⟨by rw [HR.out]; rfl, by rw [HR.out]; exact h2, h5⟩

/-! Text -/
def TextE (w : World) (q : Nat) (d : Option Nat) (s : RS) (m : Int) (e : Ending) (w' : World) : Prop :=
  e = .returned (.string ⟨(rText s m).1.toArray⟩) ∧ Hid (Rd RdT w' q d (rText s m).2.l (rText s m).2.bad) ∧ Hid (Only (fun k => k = q) w w')
theorem text_fault {w w' : World} {q : Nat} {d : Option Nat} {s : RS} {m : Int} (h : rText s m = ([], ⟨s.l, true⟩)) (h1 : Hid (Rd RdT w' q d s.l true)) (h2 : Hid (Only (fun k => k = q) w w')) : TextE w q d s m (.returned (.string ⟨#[]⟩)) w' :=
  ⟨by rw [h], by rw [h]; exact h1, h2⟩
theorem text_conv (A : Option Addr) (l : List UInt8) (n x : Nat) (hl : n + x ≤ l.length) (w : World) (h : Bts w A (n + x) (l.take (n + x))) :
    Sem.run Try.prog (convert 26 9 (.slice (if n + x = n then A else A.map (fun a => a.add n)) x x)) w = .ok (.string ⟨((l.drop n).take x).toArray⟩) w := by
  have h1 := (h.back n (by rw [List.length_take]; omega)).bytes
  have e : (l.take (n + x)).drop n = (l.drop n).take x := by rw [List.drop_take, Nat.add_sub_cancel_left]
  rw [e] at h1
  exact conv_str x h1 (by rw [List.length_take, List.length_drop]; omega)
set_option maxHeartbeats 800000 in
theorem text_any (q : Nat) (d : Option Nat) (s : RS) (m : Int) (w : World) (hm1 : -9223372036854775808 ≤ m) (hm2 : m ≤ 9223372036854775807) (h : Rd RdT w q d s.l s.bad) (hr : s.l.length ≤ 70368744177664) :
    Calls Try.prog 88 #[.pointer (some ⟨q, 0, none⟩), .int .i64 m] w (TextE w q d s m) := by
  have H := Lib.hid h
  have HM1 := Lib.hid hm1
  have HM2 := Lib.hid hm2
  clear h hm1 hm2
  cases hbad : s.bad with
  | true =>
    have HR := Lib.hid (show rText s m = ([], ⟨s.l, true⟩) from if_pos (.inl hbad))
    rw [hbad] at H
    have HE := Lib.hid (err_bad q d s.l w H.out)
    clear hbad
    go_enter Try.func88, Try.ntmps88
    go_wp2_with fail
    refine HE.out.mono ?_
    rintro e w1 ⟨rfl, rfl⟩
    go_wp2
    go_ret
    exact text_fault HR.out H (Only.refl _ _)
  | false =>
    rw [hbad] at H
    have HE := Lib.hid (err_ok q d s.l w H.out)
    have HS := Lib.hid (short_any q d s.l false w H.out hr)
    have HF := Lib.hid (fail_any q d s.l false w H.out)
    have HLe := Lib.hid (left_any q d s.l false s.l.length w H.out rfl)
    have HXL := Lib.hid (parse_lt s.l)
    have hng := parse_le s.l
    have HR0 : Hid (((parse s.l).2 = 0 ∨ m < 0 ∨ m < ((parse s.l).1 : Int) ∨ s.l.length < (parse s.l).2 + (parse s.l).1) → rText s m = ([], ⟨s.l, true⟩)) := Lib.hid fun hh => if_pos (.inr hh)
    have HR1 : Hid (¬ ((parse s.l).2 = 0 ∨ m < 0 ∨ m < ((parse s.l).1 : Int) ∨ s.l.length < (parse s.l).2 + (parse s.l).1) → rText s m = ((s.l.drop (parse s.l).2).take (parse s.l).1, ⟨s.l.drop ((parse s.l).2 + (parse s.l).1), false⟩)) := Lib.hid fun hh => if_neg (by rw [hbad]; simpa using hh)
    have HTK := Lib.hid (fun hh => take_ok q d s.l false ((parse s.l).2 + (parse s.l).1) w H.out hh)
    generalize (parse s.l).1 = x at *
    generalize (parse s.l).2 = n at *
    generalize hln : s.l.length = len at *
    have HLN := Lib.hid hln
    clear hbad hln
    by_cases h0 : n = 0
    · have HR := Lib.hid (HR0.out (.inl h0))
      subst h0
      rw [show ((0 : Nat) : Int) = 0 from rfl] at HS
      clear HR0 HR1 HTK
      go_enter Try.func88, Try.ntmps88
      go_wp2_with fail
      refine HE.out.mono ?_
      rintro e w1 ⟨rfl, rfl⟩
      go_wp2_with fail
      refine HS.out.mono ?_
      rintro e w1 ⟨rfl, rfl⟩
      go_wp2_with fail
      refine HF.out.mono ?_
      rintro e w1 ⟨rfl, h2, h3⟩
      go_wp2
      go_ret
      exact text_fault HR.out h2 h3
    · have h0' : ¬ (n : Int) = 0 := by omega
      by_cases h1 : m < 0
      · have HR := Lib.hid (HR0.out (.inr (.inl h1)))
        clear HR0 HR1 HTK h0
        go_enter Try.func88, Try.ntmps88
        go_wp2_with fail
        refine HE.out.mono ?_
        rintro e w1 ⟨rfl, rfl⟩
        go_wp2_with fail
        refine HS.out.mono ?_
        rintro e w1 ⟨rfl, rfl⟩
        go_wp2_with fail
        refine HF.out.mono ?_
        rintro e w1 ⟨rfl, h2, h3⟩
        go_wp2
        go_ret
        exact text_fault HR.out h2 h3
      · have h1' : (0 : Int) ≤ m := by omega
        have em : IntKind.u64.wrap m = m := IntWalk.u64_in _ ⟨h1', by have := HM2.out; omega⟩
        by_cases h2 : m < (x : Int)
        · have HR := Lib.hid (HR0.out (.inr (.inr (.inl h2))))
          clear HR0 HR1 HTK h0
          go_enter Try.func88, Try.ntmps88
          go_wp2_with fail
          refine HE.out.mono ?_
          rintro e w1 ⟨rfl, rfl⟩
          go_wp2_with fail
          refine HS.out.mono ?_
          rintro e w1 ⟨rfl, rfl⟩
          go_wp2_with fail
          refine HF.out.mono ?_
          rintro e w1 ⟨rfl, h3, h4⟩
          go_wp2
          go_ret
          exact text_fault HR.out h3 h4
        · have es : IntKind.u64.wrap ((len : Int) - (n : Int)) = (len : Int) - (n : Int) := IntWalk.u64_in _ (by omega)
          by_cases h3 : len < n + x
          · have HR := Lib.hid (HR0.out (.inr (.inr (.inr h3))))
            have h3' : (len : Int) - (n : Int) < (x : Int) := by omega
            clear HR0 HR1 HTK h0 h3
            go_enter Try.func88, Try.ntmps88
            go_wp2_with fail
            refine HE.out.mono ?_
            rintro e w1 ⟨rfl, rfl⟩
            go_wp2_with fail
            refine HS.out.mono ?_
            rintro e w1 ⟨rfl, rfl⟩
            go_wp2_with fail
            refine HLe.out.mono ?_
            rintro e w1 ⟨rfl, rfl⟩
            go_wp2_with fail
            refine HF.out.mono ?_
            rintro e w1 ⟨rfl, h3, h4⟩
            go_wp2
            go_ret
            exact text_fault HR.out h3 h4
          · have HR := Lib.hid (HR1.out (by omega))
            have HT := Lib.hid (HTK.out (by omega))
            have h3' : ¬ (len : Int) - (n : Int) < (x : Int) := by omega
            have ex : IntKind.i64.wrap (x : Int) = (x : Int) := IntWalk.i64_in _ (by omega)
            have b1 : ((n : Int) == 0) = false := by simpa using h0
            have b2 : decide (m < 0) = false := decide_eq_false h1
            have b3 : decide (m < (x : Int)) = false := decide_eq_false h2
            have b4 : decide ((len : Int) - (n : Int) < (x : Int)) = false := decide_eq_false h3'
            have HXE := Lib.hid (fun (W : World) (A : Option Addr) (h : Bts W A (n + x) (s.l.take (n + x))) => text_conv A s.l n x (by rw [HLN.out]; omega) W h)
            clear HR0 HR1 HTK h0
            go_enter Try.func88, Try.ntmps88
            go_wp2_with fail
            refine HE.out.mono ?_
            rintro e w1 ⟨rfl, rfl⟩
            go_wp2_with fail
            refine HS.out.mono ?_
            rintro e w1 ⟨rfl, rfl⟩
            go_wp2_with fail
            refine HLe.out.mono ?_
            rintro e w1 ⟨rfl, rfl⟩
            go_wp2_with fail
            rw [show (n : Int) + (x : Int) = ((n + x : Nat) : Int) by omega]
            refine HT.out.mono ?_
            rintro e w1 ⟨A, rfl, h3, h4, h5, h6⟩
            have C := HXE.out w1 A h4.out
            clear HXE
            by_cases hx0 : n + x = n
            · rw [if_pos hx0] at C
              obtain rfl : x = 0 := by omega
              clear hx0
              go_wp2
              go_ret
              exact ⟨by rw [HR.out]; rfl, by rw [HR.out]; exact h3, h6⟩
            · rw [if_neg hx0] at C
              go_wp2
              go_ret
              exact ⟨by rw [HR.out]; rfl, by rw [HR.out]; exact h3, h6⟩
end Go.Proofs.Ytlcddfkhklmieaa
/-
  What a Reader's look at a wide number does. For at most 2^46 bytes.
-/
namespace Go.Proofs.Ytlcddfkhklmieaa
open Go.RowKit

theorem Only.drew_left {S : Nat → Prop} {w w' : World} (h : Only S w.drew w') : Only S w w' := ⟨h.os, h.tape, h.output, h.size, h.block⟩
/-- Eight bytes, by value. -/
def agg8 (l : List UInt8) : Array Value := #[.int .u8 (at8 l 0 : Nat), .int .u8 (at8 l 1 : Nat), .int .u8 (at8 l 2 : Nat), .int .u8 (at8 l 3 : Nat), .int .u8 (at8 l 4 : Nat), .int .u8 (at8 l 5 : Nat), .int .u8 (at8 l 6 : Nat), .int .u8 (at8 l 7 : Nat)]
theorem agg8_eq {l : List UInt8} (h : l.length = 8) : (bv l).toArray = agg8 l := by
  match l, h with
  | [a, b, c, d, e, f, g, i], _ => rfl
theorem index8_at (x0 x1 x2 x3 x4 x5 x6 x7 : Int) (w : World) : ∀ k, k < 8 → (Instr.index 104 (.agg #[.int .u8 x0, .int .u8 x1, .int .u8 x2, .int .u8 x3, .int .u8 x4, .int .u8 x5, .int .u8 x6, .int .u8 x7]) (.int .i64 (k : Nat))).run Try.prog w = .ok (.int .u8 ([x0, x1, x2, x3, x4, x5, x6, x7].getD k 0)) w
  | 0, _ => by kernel_rfl
  | 1, _ => by kernel_rfl
  | 2, _ => by kernel_rfl
  | 3, _ => by kernel_rfl
  | 4, _ => by kernel_rfl
  | 5, _ => by kernel_rfl
  | 6, _ => by kernel_rfl
  | 7, _ => by kernel_rfl
  | n + 8, h => absurd h (by omega)
set_option maxRecDepth 10000 in
theorem index8 (l : List UInt8) (w : World) (k : Nat) (hk : k < 8) : (Instr.index 104 (.agg (agg8 l)) (.int .i64 (k : Int))).run Try.prog w = .ok (.int .u8 ((at8 l k : Nat) : Int)) w := by
  have h := index8_at (at8 l 0 : Nat) (at8 l 1 : Nat) (at8 l 2 : Nat) (at8 l 3 : Nat) (at8 l 4 : Nat) (at8 l 5 : Nat) (at8 l 6 : Nat) (at8 l 7 : Nat) w k hk
  unfold agg8
  rw [h]
  congr 2
  match k, hk with
  | 0, _ => rfl
  | 1, _ => rfl
  | 2, _ => rfl
  | 3, _ => rfl
  | 4, _ => rfl
  | 5, _ => rfl
  | 6, _ => rfl
  | 7, _ => rfl
  | n + 8, h => exact absurd h (by omega)
/-- The eight bytes out of which a wide number is read. -/
def wideF (s : RS) (n : Nat) : List UInt8 := if s.l.length < n then List.replicate 8 0 else s.l.take n ++ List.replicate (8 - n) 0
theorem wideF_length (s : RS) (n : Nat) (hn : n ≤ 8) : (wideF s n).length = 8 := by
  unfold wideF
  split
  · simp
  · simp; omega
theorem numLE_zeros (n k : Nat) : numLE (List.replicate n 0) k = 0 := by
  induction k with
  | zero => rfl
  | succ k ih =>
    rw [numLE, ih]
    have : ((List.replicate n (0 : UInt8)).getD k 0).toNat = 0 := by
      simp only [List.getD, List.getElem?_replicate]
      split <;> rfl
    rw [this]; simp
theorem numLE_front (l r : List UInt8) (k : Nat) (hk : k ≤ l.length) : numLE (l ++ r) k = numLE l k := by
  induction k with
  | zero => rfl
  | succ k ih =>
    rw [numLE, numLE, ih (by omega)]
    congr 2
    simp only [List.getD]
    rw [List.getElem?_append_left (by omega)]
theorem numLE_pad (l : List UInt8) (n k : Nat) : numLE (l ++ List.replicate n 0) (l.length + k) = numLE l l.length := by
  induction k with
  | zero => exact numLE_front l _ _ (Nat.le_refl _)
  | succ k ih =>
    rw [show l.length + (k + 1) = (l.length + k) + 1 by omega, numLE, ih]
    have : ((l ++ List.replicate n (0 : UInt8)).getD (l.length + k) 0).toNat = 0 := by
      simp only [List.getD]
      rw [List.getElem?_append_right (by omega)]
      simp only [List.getElem?_replicate]
      split <;> rfl
    rw [this]; simp
theorem wide_worth (s : RS) (n : Nat) (hn : n ≤ 8) (hb : s.bad = false) : (rWide s n).1 = numLE (wideF s n) 8 := by
  unfold rWide wideF
  by_cases h : s.l.length < n
  · rw [if_pos (.inr h), if_pos h, numLE_zeros]
  · rw [if_neg (by rw [hb]; simpa using h), if_neg h]
    have e : (s.l.take n).length = n := by rw [List.length_take]; omega
    have := numLE_pad (s.l.take n) (8 - n) (8 - n)
    rw [e, show n + (8 - n) = 8 by omega] at this
    exact this.symm

/-- What take answers to a wide number: xs, k of them, at A. -/
def TakeE (w : World) (q : Nat) (d : Option Nat) (s' : RS) (k : Nat) (xs : List UInt8) (e : Ending) (w' : World) : Prop :=
  ∃ A, e = .returned (.slice A k k) ∧ Hid (Rd RdT w' q d s'.l s'.bad) ∧ Hid (Bytes w' w'.heap.size A xs) ∧ Hid (Only (fun k => k = q) w w')
theorem take_wide (q : Nat) (d : Option Nat) (s : RS) (n : Nat) (hn : n ≤ 8) (hb : s.bad = false) : ∃ k xs, xs.length = k ∧ k ≤ 8 ∧ xs ++ List.replicate (8 - k) 0 = wideF s n ∧
    ∀ w, Rd RdT w q d s.l false → Calls Try.prog 81 #[.pointer (some ⟨q, 0, none⟩), .int .i64 (n : Int)] w (TakeE w q d (rWide s n).2 k xs) := by
  by_cases h : s.l.length < n
  · refine ⟨0, [], rfl, by omega, by unfold wideF; rw [if_pos h]; rfl, fun w hR => ?_⟩
    rw [show rWide s n = (0, ⟨s.l, true⟩) from if_pos (.inr h)]
    refine (take_no q d s.l false n w hR (.inr (by omega))).mono ?_
    rintro e w1 ⟨rfl, h1, h2⟩
    exact ⟨none, rfl, h1, Bytes.nil_, h2⟩
  · refine ⟨n, s.l.take n, by rw [List.length_take]; omega, hn, by unfold wideF; rw [if_neg h], fun w hR => ?_⟩
    rw [show rWide s n = (numLE (s.l.take n) n, ⟨s.l.drop n, false⟩) from if_neg (by rw [hb]; simpa using h)]
    refine (take_ok q d s.l false n w hR (by omega)).mono ?_
    rintro e w1 ⟨A, rfl, h1, h2, h3, h4⟩
    exact ⟨A, rfl, h1, h2.out.bytes, h4⟩
theorem last_step (n x k : Nat) (hk : k < 8) (hn : n < 2 ^ (8 * k)) (hx : x < 256) :
    bits .or .u64 (n : Int) ((x : Int) * 2 ^ (8 * k) % 18446744073709551616) = ((n + x * 2 ^ (8 * k) : Nat) : Int) := by
  have hp : (2 : Nat) ^ (8 * k) ≤ 2 ^ 56 := Nat.pow_le_pow_right (by omega) (by omega)
  have hm : x * 2 ^ (8 * k) ≤ 255 * 2 ^ 56 := Nat.mul_le_mul (by omega) hp
  have h2 : (x : Int) * 2 ^ (8 * k) = ((x * 2 ^ (8 * k) : Nat) : Int) := by simp
  rw [h2]
  have h3 : ((x * 2 ^ (8 * k) : Nat) : Int) % 18446744073709551616 = ((x * 2 ^ (8 * k) : Nat) : Int) := by omega
  rw [h3, u64_or_nat _ _ (by omega) (by omega), or_place hn]
theorem splice8 {xs : List UInt8} {k : Nat} (hx : xs.length = k) : splice (bv (List.replicate 8 0)) 0 (bv xs) = bv (xs ++ List.replicate (8 - k) 0) := by
  subst hx
  unfold splice
  rw [bv_append, Nat.zero_add, bv_length, List.take_zero, List.nil_append]
  congr 1
  simp only [bv, List.map_replicate, List.drop_replicate]

set_option maxRecDepth 100000 in
set_option maxHeartbeats 800000 in
theorem wide_any (q : Nat) (d : Option Nat) (s : RS) (n : Nat) (w : World) (hn : n ≤ 8) (h : Rd RdT w q d s.l s.bad) :
    Calls Try.prog 63 #[.pointer (some ⟨q, 0, none⟩), .int .i64 (n : Int)] w (RdE RdT w q d (.int .u64 ((rWide s n).1 : Nat)) (rWide s n).2) := by
  have H := Lib.hid h
  clear h
  cases hbad : s.bad with
  | true =>
    have HR := Lib.hid (show rWide s n = (0, ⟨s.l, true⟩) from if_pos (.inl hbad))
    rw [hbad] at H
    have HE := Lib.hid (err_bad q d s.l w H.out)
    clear hbad
    go_enter Try.func63, Try.ntmps63
    go_wp2_with fail
    refine HE.out.mono ?_
    rintro e w1 ⟨rfl, rfl⟩
    go_wp2
    go_ret
    exact ⟨by rw [HR.out]; rfl, by rw [HR.out]; exact H, Only.refl _ _⟩
  | false =>
    rw [hbad] at H
    have HE := Lib.hid (err_ok q d s.l w H.out)
    obtain ⟨k, xs, hxk, hk8, hxs, hT⟩ := take_wide q d s n hn hbad
    have HXK := Lib.hid hxk
    have HXS := Lib.hid hxs
    have HT := Lib.hid hT
    have HWW := Lib.hid (wide_worth s n hn hbad)
    have HWL := Lib.hid (wideF_length s n hn)
    clear hxk hxs hT hbad
    obtain ⟨W1, hW1⟩ : ∃ W1, w.alloc (.cells #[.int .u8 0, .int .u8 0, .int .u8 0, .int .u8 0, .int .u8 0, .int .u8 0, .int .u8 0, .int .u8 0] 104) = W1 := ⟨_, rfl⟩
    have HW := Lib.hid hW1
    have ho1 : Hid (Only (fun k => k = q) w W1) := Lib.hid (by rw [← hW1]; exact (Only.refl _ _).alloc _)
    have hb1 : Hid (W1.heap[w.heap.size]? = some (.cells (bv (List.replicate 8 0)).toArray 104 (0, 0))) := Lib.hid (by rw [← hW1]; exact heap_alloc_new w _)
    have hR1 : Hid (Rd RdT W1 q d s.l false) := Lib.hid (by rw [← hW1]; exact H.out.keep (S := fun _ => False) ((Only.refl _ _).alloc _) (fun h => h) (fun _ _ h => h))
    have hgq : Hid (w.heap.size ≠ q) := Lib.hid (by have := H.out.lt; omega)
    clear hW1
    go_enter Try.func63, Try.ntmps63
    go_wp2_with fail
    refine HE.out.mono ?_
    rintro e w1 ⟨rfl, rfl⟩
    go_wp2_with fail
    rw [HW.out]
    generalize hg : w.heap.size = g at hb1 hgq ⊢
    have HG := Lib.hid hg
    clear hg HW
    go_region_law (first | (refine step_copy_splice rfl (.tmp 12) (.tmp 17) 26 26 rfl 5 Try.underlying26 Try.sizeU8 (some ⟨g, 0, none⟩) A 8 8 k k (by simp [Act.eval]) (by simp [Act.eval]) g 0 (bv (List.replicate 8 0)) 104 C1.out (bv xs) C2.out C3.out C4.out (bv_one _) g w2 (Below.refl _ _) (Nat.le_refl _) ?_; intro w3 hg3 hb3) | (go_simp; go_at_call 81; refine (HT.out W1.drew hR1.out).mono ?_; rintro e w2 ⟨A, rfl, h2, h3, h4⟩; have C1 : Hid (w2.heap[g]? = some (.cells (bv (List.replicate 8 0)).toArray 104 (0, 0))) := Lib.hid ((h4.out.block g (lt_of_heap hb1.out) hgq.out).trans hb1.out); have C2 : Hid ((bv xs).length = Nat.min k 8) := Lib.hid (by rw [bv_length, HXK.out]; exact (Nat.min_eq_left hk8).symm); have C3 : Hid (0 < (bv xs).length → (some ⟨g, 0, none⟩ : Option Addr) = some ⟨g, 0, none⟩ ∧ ∃ ad, A = some ad ∧ ∀ j v, (bv xs)[j]? = some v → w2.cell? (ad.add j) = some v) := Lib.hid (fun hn => ⟨rfl, h3.out.src hn⟩); have C4 : Hid (0 + (bv xs).length ≤ (bv (List.replicate 8 0)).length) := Lib.hid (by rw [bv_length, HXK.out]; simpa using hk8)))
    have hb4 : Hid (w3.heap[g]? = some (.cells (agg8 (wideF s n)) 104 (0, 0))) := Lib.hid (by
      have h5 := hg3.out
      rw [splice8 HXK.out, HXS.out, agg8_eq HWL.out] at h5
      exact h5)
    have hO3 : Hid (Only (fun k => g ≤ k) w2 w3) := Lib.hid ⟨hb3.os, hb3.tape, hb3.output, hb3.size, fun j _ hne => hb3.block j (by omega)⟩
    have hqg := H.out.lt
    have hdg := H.out.dlt
    rw [HG.out] at hqg hdg
    have ho3 : Hid (Only (fun k => k = q) w w3) := Lib.hid ((ho1.out.trans h4.out.drew_left fun _ _ h => h).trans hO3.out fun j hj e => by rw [HG.out] at hj; omega)
    have hR3 : Hid (Rd RdT w3 q d (rWide s n).2.l (rWide s n).2.bad) := Lib.hid (h2.out.keep hO3.out (by omega) (fun j hj => by have := hdg j hj; omega))
    clear hqg hdg hO3
    clear HT C1 C2 C3 C4 h2 h3 h4 hg3 hb3 hb1 hR1 ho1 HE H HXK HXS
    generalize wideF s n = l at *
    go_wp2_with (with_reducible refine wpList_load_row rfl 104 (.tmp 5) rfl g rfl 104 (agg8 l) (0, 0) _ hb4.out Try.underlying104 rfl (by kernel_rfl) ?_)
    have HIX := Lib.hid (fun k h W => index8 l W k h)
    go_loop [6, 20] (fun x i => ∃ k : Nat, k ≤ 8 ∧ i = .int .i64 k ∧ x = .int .u64 ((numLE l k : Nat) : Int)) (fun _ i => 8 - (intOf i).toNat)
    case atStart => exact ⟨0, by omega, rfl, rfl⟩
    case round =>
      obtain ⟨j, hj, rfl, rfl⟩ := hrel
      by_cases hlt : j < 8
      · have hN := numLE_lt l j
        have hx := at8_lt l j
        have HE := Lib.hid (show numLE l (j + 1) = numLE l j + at8 l j * 2 ^ (8 * j) from rfl)
        have H3 := Lib.hid (last_step _ _ j hlt hN hx)
        have HI := HIX.out j hlt
        clear hN
        generalize numLE l j = y at HE H3
        generalize at8 l j = x at hx HE H3 HI
        have e1 : (x : Int) % 18446744073709551616 = x := by omega
        generalize agg8 l = ag at *
        go_wp2
        go_round
        case rel => exact ⟨j + 1, by omega, by go_num, by rw [HE.out, ← H3.out]; rfl⟩
        case measure => simp [intOf]; omega
      · obtain rfl : j = 8 := by omega
        go_wp2
        go_ret
        exact ⟨by rw [HWW.out]; rfl, hR3, ho3⟩

set_option maxHeartbeats 400000 in
theorem ru8_any (q : Nat) (d : Option Nat) (s : RS) (w : World) (h : Rd RdT w q d s.l s.bad) :
    Calls Try.prog 37 #[.pointer (some ⟨q, 0, none⟩)] w (RdE RdT w q d (.int .u8 ((rWide s 1).1 : Nat)) (rWide s 1).2) := by
  have H := Lib.hid (wide_any q d s 1 w (by omega) h)
  have hb := rWide_lt s 1
  have e1 : (((rWide s 1).1 : Nat) : Int) % 256 = ((rWide s 1).1 : Nat) := by omega
  generalize (rWide s 1).1 = x at *
  clear h hb
  go_enter Try.func37, Try.ntmps37
  go_wp2_with fail
  refine H.out.mono ?_
  rintro e w1 ⟨rfl, h1, h2⟩
  go_wp2
  go_ret
  exact ⟨rfl, h1, h2⟩

/-- A new Reader. -/
def NewRE (w : World) (l : List UInt8) (e : Ending) (w' : World) : Prop :=
  ∃ q d, e = .returned (.pointer (some ⟨q, 0, none⟩)) ∧ Hid (Rd RdT w' q d l false) ∧ Hid (w.heap.size ≤ q ∧ ∀ k, d = some k → w.heap.size ≤ k) ∧ Hid (Below w.heap.size w w')
set_option maxHeartbeats 400000 in
theorem newr_any (A : Option Addr) (l : List UInt8) (n cap B : Nat) (w : World) (hn : l.length = n) (hA : A = none → cap = 0) (hb : Bytes w B A l) (hB : B ≤ w.heap.size) (hr : n ≤ 70368744177664) :
    Calls Try.prog 36 #[.slice A n cap] w (NewRE w l) := by
  have H := Lib.hid (clone_any A l n cap B w hn hA hb hB hr)
  clear hA hb
  go_enter Try.func36, Try.ntmps36
  go_wp2_with fail
  refine H.out.mono ?_
  rintro e w1 ⟨A', cap', rfl, ho, hb⟩
  go_wp2
  go_ret
  have hs := hb.out.size
  refine ⟨w1.heap.size, blockOf A', rfl, ⟨A', cap', by rw [hn]; exact heap_alloc_new w1 _, (ho.out.alloc _).bts, rfl⟩, ⟨hs, fun k hk => (ho.out.lt hk).1⟩, hb.out.alloc hs _⟩
end Go.Proofs.Ytlcddfkhklmieaa
/-
  What the statements' own examples come to: awake answers true, and what was there stays as it was. No condition.
-/
namespace Go.Proofs.Ytlcddfkhklmieaa
open Go.RowKit

theorem sh300 : shortL 300 = [172, 2] := by rw [shortL_more (by decide), shortL_last (by decide)]; rfl
theorem sh128 : shortL 128 = [128, 1] := by rw [shortL_more (by decide), shortL_last (by decide)]; rfl
theorem sh1 : shortL 1 = [1] := by rw [shortL_last (by decide)]; rfl
theorem sh2 : shortL 2 = [2] := by rw [shortL_last (by decide)]; rfl
def exAll : List UInt8 := [2, 1, 172, 2, 1, 128, 1, 2, 97, 98]
theorem ex_all : ((([] ++ wideL 258 2) ++ shortL 300) ++ shortsL [1, 128]) ++ (shortL 2 ++ strL ⟨#[97, 98]⟩) = exAll := by
  simp only [shortsL, List.map_cons, List.map_nil, List.flatten_cons, List.flatten_nil, sh300, sh128, sh1, sh2]
  rfl
theorem ex_uint : rUint ⟨[129, 0], false⟩ = (0, ⟨[129, 0], true⟩) := by decide +kernel
theorem ex_wide : rWide ⟨[129, 0], true⟩ 1 = (0, ⟨[129, 0], true⟩) := by decide +kernel
theorem ex_text : rText ⟨[2, 97, 98], false⟩ 1 = ([], ⟨[2, 97, 98], true⟩) := by decide +kernel
/-- Two numbers, laid in a block of their own. -/
theorem nums_two (w : World) (a b : Nat) : Nums (w.alloc (.cells #[.int .u64 (a : Int), .int .u64 (b : Int)] 22)) (w.alloc (.cells #[.int .u64 (a : Int), .int .u64 (b : Int)] 22)).heap.size (some ⟨w.heap.size, 0, none⟩) [a, b] := fun _ => by
  refine ⟨_, 0, rfl, by simp, fun k hk => ?_⟩
  rw [cell_of_row _ _ _ _ _ (0, 0) (heap_alloc_new w _)]
  have : k = 0 ∨ k = 1 := by simp at hk; omega
  rcases this with rfl | rfl <;> rfl
theorem bytes_new (w : World) (l : List UInt8) : Bytes (w.alloc (.cells (bv l).toArray 5)) (w.heap.size + 1) (some ⟨w.heap.size, 0, none⟩) l := fun _ => by
  refine ⟨_, 0, rfl, by omega, fun k hk => ?_⟩
  rw [cell_of_row _ _ _ _ _ (0, 0) (heap_alloc_new w _), Nat.zero_add]
  simpa using bv_get hk

/-- A Writer of the law's own: all that is older is as it was in w0. -/
structure WS (B : Nat) (w0 W : World) (p : Nat) (g : Option Nat) (l : List UInt8) : Prop where
  wr : Wr W p g l
  below : Below B w0 W
  hp : B ≤ p
  hg : ∀ k, g = some k → B ≤ k
theorem WS.size {B : Nat} {w0 W : World} {p : Nat} {g : Option Nat} {l : List UInt8} (h : WS B w0 W p g l) : B ≤ W.heap.size := Nat.le_trans h.hp (Nat.le_of_lt h.wr.lt)
theorem WS.wrote {B : Nat} {w0 W W' : World} {p : Nat} {g : Option Nat} {l xs : List UInt8} (h : WS B w0 W p g l) (hw : Wrote W p g l xs W') : ∃ g', WS B w0 W' p g' (l ++ xs) ∧ NewOr W g g' ∧ Only (fun k => k = p ∨ g = some k) W W' := by
  obtain ⟨g', h1, h2, h3⟩ := hw
  exact ⟨g', ⟨h1, h3.below h.below (by rintro k (e | e); exact Nat.le_trans h.hp (Nat.le_of_eq e.symm); exact h.hg k e) h.size, h.hp, h2.ge h.size h.hg⟩, h2, h3⟩
/-- A call that turned nothing that was there. -/
theorem WS.later {B : Nat} {w0 W W' : World} {p : Nat} {g : Option Nat} {l : List UInt8} (h : WS B w0 W p g l) (hb : Below W.heap.size W W') : WS B w0 W' p g l :=
  ⟨h.wr.keep (S := fun _ => False) (Only.ofBelow hb) (fun h => h) (fun _ _ h => h), h.below.trans (hb.mono h.size), h.hp, h.hg⟩
/-- A call that turned blocks of others alone. -/
theorem WS.other {B : Nat} {w0 W W' : World} {p : Nat} {g : Option Nat} {l : List UInt8} {S : Nat → Prop} (h : WS B w0 W p g l) (ho : Only S W W') (hS : ∀ k, S k → B ≤ k) (h1 : ¬ S p) (h2 : ∀ k, g = some k → ¬ S k) : WS B w0 W' p g l :=
  ⟨h.wr.keep ho h1 h2, ho.below h.below hS h.size, h.hp, h.hg⟩
theorem WS.new {w W : World} (h : Wr W w.heap.size none []) (hb : Below w.heap.size w W) : WS w.heap.size w W w.heap.size none [] := ⟨h, hb, Nat.le_refl _, fun _ e => by cases e⟩
/-- A Reader of the law's own. -/
structure RdS (T : TypeId) (B : Nat) (w0 W : World) (q : Nat) (d : Option Nat) (s : RS) : Prop where
  rd : Rd T W q d s.l s.bad
  below : Below B w0 W
  hq : B ≤ q
  hd : ∀ k, d = some k → B ≤ k
theorem RdS.size {T : TypeId} {B : Nat} {w0 W : World} {q : Nat} {d : Option Nat} {s : RS} (h : RdS T B w0 W q d s) : B ≤ W.heap.size := Nat.le_trans h.hq (Nat.le_of_lt h.rd.lt)
theorem RdS.step {T : TypeId} {B : Nat} {w0 W W' : World} {q : Nat} {d : Option Nat} {s s' : RS} (h : RdS T B w0 W q d s) (h1 : Hid (Rd T W' q d s'.l s'.bad)) (ho : Hid (Only (fun k => k = q) W W')) : RdS T B w0 W' q d s' :=
  ⟨h1.out, ho.out.below h.below (by rintro k rfl; exact h.hq) h.size, h.hq, h.hd⟩
theorem RdS.later {T : TypeId} {B : Nat} {w0 W W' : World} {q : Nat} {d : Option Nat} {s : RS} (h : RdS T B w0 W q d s) (hb : Below W.heap.size W W') : RdS T B w0 W' q d s :=
  ⟨h.rd.keep (S := fun _ => False) (Only.ofBelow hb) (fun h => h) (fun _ _ h => h), h.below.trans (hb.mono h.size), h.hq, h.hd⟩
theorem RdS.other {T : TypeId} {B : Nat} {w0 W W' : World} {q : Nat} {d : Option Nat} {s : RS} {S : Nat → Prop} (h : RdS T B w0 W q d s) (ho : Only S W W') (hS : ∀ k, S k → B ≤ k) (h1 : ¬ S q) (h2 : ∀ k, d = some k → ¬ S k) : RdS T B w0 W' q d s :=
  ⟨h.rd.keep ho h1 h2, ho.below h.below hS h.size, h.hq, h.hd⟩

end Go.Proofs.Ytlcddfkhklmieaa
