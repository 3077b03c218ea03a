/-
  A region that draws its order, by what each of its temporaries holds once it has come up: one small proof an operation, whatever the orders. No condition; nothing here speaks of a program.
-/
import Derived.WalkKit
import Derived.Test.YtmkkhknbokfciaaRows
import Derived.WalkLawsBesides
import Derived.WalkSpells
import Derived.IntWalk
import Derived.Lib.Hide
import Derived.BigQuiet
import Derived.Deep.QuietTactic
import Derived.Deep.LoopGhost
import Derived.Maps.AppendAt
import Derived.Deep.OwnRows
import Derived.Laws.CopyOwn
import Derived.Laws.AppendOwnNone
import Derived.Deep.RegionLaw
import Derived.Test.YtmkkhknbokfciaaProg
import Derived.Deep.RegionHeld3
import Derived.Deep.DeepCutAuto
import Derived.Lib.SlBytesConst
namespace Go.Proofs.Ytmkkhknbokfciaa
open Go.RowKit

section
variable {P : Program} {ops : Array Oper} {Q : Exit → Act → World → Prop} {G : Nat → World → Value → Prop} {a0 : Act} {w0 : World}

/-- A region under way: what has come up holds what G says, all other slots are as they were, and nothing that was there has changed. -/
structure Way (ops : Array Oper) (G : Nat → World → Value → Prop) (a0 : Act) (w0 : World) (listed : Array Bool) (a : Act) (w : World) : Prop where
  below : Below w0.heap.size w0 w
  defers : a.defers = a0.defers
  size : a.tmps.size = a0.tmps.size
  old : ∀ s, (∀ (i : Nat) (o : Oper), ops[i]? = some o → o.dst ≠ some s) → a.tmps.getD s undef = a0.tmps.getD s undef
  come : ∀ (i : Nat) (o : Oper) (s : Tmp), ops[i]? = some o → listed.getD i false = true → o.dst = some s → G i w (a.tmps.getD s undef)

/-- How many have not come up. -/
def unlisted (ops : Array Oper) (listed : Array Bool) : Nat := ((List.range ops.size).filter fun i => !listed.getD i false).length

theorem getD_both {listed : Array Bool} {i : Nat} (h : i < listed.size) (d d' : Bool) : listed.getD i d = listed.getD i d' := by simp [h]

theorem unlisted_set {listed : Array Bool} {i : Nat} (hs : listed.size = ops.size) (hi : i < ops.size) (h : listed.getD i false = false) : unlisted ops (listed.setIfInBounds i true) + 1 ≤ unlisted ops listed := by
  unfold unlisted
  have hsub : ∀ (l : List Nat), (l.filter fun k => !(listed.setIfInBounds i true).getD k false).length ≤ (l.filter fun k => !listed.getD k false).length := by
    intro l
    induction l with
    | nil => simp
    | cons k l ih =>
      by_cases hk : k = i
      · subst hk
        have h1 : (listed.setIfInBounds k true).getD k false = true := by simp [hs, hi]
        simp only [List.filter_cons, h1, h, Bool.not_true, Bool.not_false, if_true, if_false, Bool.false_eq_true, List.length_cons]
        omega
      · have h1 : (listed.setIfInBounds i true).getD k false = listed.getD k false := getD_set_ne false (Ne.symm hk)
        simp only [List.filter_cons, h1]
        split <;> (try simp only [List.length_cons]) <;> omega
  have key : ∀ (l : List Nat), i ∈ l → (l.filter fun k => !(listed.setIfInBounds i true).getD k false).length + 1 ≤ (l.filter fun k => !listed.getD k false).length := by
    intro l
    induction l with
    | nil => intro hm; simp at hm
    | cons k l ih =>
      intro hm
      by_cases hk : k = i
      · subst hk
        have h1 : (listed.setIfInBounds k true).getD k false = true := by simp [hs, hi]
        have := hsub l
        simp only [List.filter_cons, h1, h, Bool.not_true, Bool.not_false, if_true, if_false, Bool.false_eq_true, List.length_cons]
        omega
      · have hm' : i ∈ l := by
          rcases List.mem_cons.1 hm with h0 | h0
          · exact absurd h0.symm hk
          · exact h0
        have h1 : (listed.setIfInBounds i true).getD k false = listed.getD k false := getD_set_ne false (Ne.symm hk)
        have := ih hm'
        simp only [List.filter_cons, h1]
        split <;> (try simp only [List.length_cons]) <;> omega
  exact key _ (List.mem_range.2 hi)

theorem all_listed {listed : Array Bool} (hs : listed.size = ops.size) (hdep : ∀ (i : Nat) (o : Oper), ops[i]? = some o → ∀ e ∈ o.after, Region.binds .any e = true → e.on < i) (hr : Region.ready .any ops listed = []) :
    ∀ i, i < ops.size → listed.getD i false = true := by
  intro i
  induction i using Nat.strongRecOn with
  | _ i ih =>
    intro hi
    cases hl : listed.getD i false with
    | true => rfl
    | false =>
      have hm : i ∈ Region.ready .any ops listed := by
        rw [mem_ready]
        refine ⟨by rw [getD_both (by omega) true false]; exact hl, ops[i], Array.getElem?_eq_getElem hi, fun e he hbd => ?_⟩
        have := hdep i _ (Array.getElem?_eq_getElem hi) e he hbd
        exact ih e.on this (by omega)
      rw [hr] at hm
      cases hm

theorem way_any (hdep : ∀ (i : Nat) (o : Oper), ops[i]? = some o → ∀ e ∈ o.after, Region.binds .any e = true → e.on < i)
    (hdst : ∀ (i j : Nat) (o o' : Oper) (s : Tmp), ops[i]? = some o → ops[j]? = some o' → o.dst = some s → o'.dst = some s → i = j)
    (hsz : ∀ (i : Nat) (o : Oper) (s : Tmp), ops[i]? = some o → o.dst = some s → s < a0.tmps.size)
    (hmono : ∀ i v w w', Below w.heap.size w w' → G i w v → G i w' v)
    (hstep : ∀ (i : Nat) (o : Oper), ops[i]? = some o → ∀ (listed : Array Bool) (a : Act) (w : World), Way ops G a0 w0 listed a w → (∀ e ∈ o.after, Region.binds .any e = true → listed.getD e.on false = true) →
      ∀ K : Act → World → Prop, (∀ v w', Below w.heap.size w w' → (∀ s, o.dst = some s → G i w' v) → K (a.put o.dst v) w') →
      if Region.wanted o (yielded ops a.tmps) = true then o.wp P a w K Q else K (a.put o.dst undef) w)
    (hfin : ∀ (listed : Array Bool) (a : Act) (w : World), Way ops G a0 w0 listed a w → (∀ i, i < ops.size → listed.getD i false = true) → Q .normal a w) :
    ∀ (fuel : Nat) (listed : Array Bool) (a : Act) (w : World), listed.size = ops.size → unlisted ops listed ≤ fuel → Way ops G a0 w0 listed a w → wpAny P .any ops Q fuel listed a w := by
  intro fuel
  induction fuel with
  | zero =>
    intro listed a w hs hu hw
    have hall : ∀ i, i < ops.size → listed.getD i false = true := by
      intro i hi
      cases hl : listed.getD i false with
      | true => rfl
      | false => have := unlisted_set hs hi hl; omega
    refine ⟨?_, hfin listed a w hw hall⟩
    apply List.eq_nil_iff_forall_not_mem.2
    intro i hi
    rw [mem_ready] at hi
    obtain ⟨h1, o, ho, _⟩ := hi
    have hlt := (Array.getElem?_eq_some_iff.1 ho).1
    rw [getD_both (by omega) true false, hall i hlt] at h1
    cases h1
  | succ fuel ih =>
    intro listed a w hs hu hw
    refine ⟨fun hr => hfin listed a w hw (all_listed hs hdep hr), fun i hi => ?_⟩
    rw [mem_ready] at hi
    obtain ⟨h1, o, ho, hdeps⟩ := hi
    have hlt := (Array.getElem?_eq_some_iff.1 ho).1
    have h1' : listed.getD i false = false := by rw [getD_both (by omega) false true]; exact h1
    refine wpOp_step ho fun K hK => ?_
    refine hstep i o ho listed a w hw hdeps K fun v w' hb hg => hK _ _ ?_
    refine ih _ _ _ (by simp [hs]) (by have := unlisted_set hs hlt h1'; omega) ?_
    refine ⟨hw.below.trans (hb.mono hw.below.size), ?_, ?_, fun s hno => ?_, fun j o' s ho' hj hd => ?_⟩
    · unfold Act.put; split <;> exact hw.defers
    · unfold Act.put; split
      · simp [hw.size]
      · exact hw.size
    · have hne := hno i o ho
      unfold Act.put
      split
      · rename_i d hd
        have hds : d ≠ s := fun e => hne (by rw [hd, e])
        have : (a.tmps.setIfInBounds d v).getD s undef = a.tmps.getD s undef := by simp [Array.getElem?_setIfInBounds_ne hds]
        simp only
        rw [this]
        exact hw.old s hno
      · exact hw.old s hno
    · by_cases hij : j = i
      · subst hij
        obtain rfl : o' = o := Option.some.inj (ho'.symm.trans ho)
        have hlt2 : s < a.tmps.size := by rw [hw.size]; exact hsz _ _ _ ho hd
        have hv : (a.put o'.dst v).tmps.getD s undef = v := by
          unfold Act.put
          rw [hd]
          simp [hlt2]
        rw [hv]
        exact hg s hd
      · have hj' : listed.getD j false = true := by rwa [getD_set_ne false (Ne.symm hij)] at hj
        have hold := hw.come j o' s ho' hj' hd
        have hv : (a.put o.dst v).tmps.getD s undef = a.tmps.getD s undef := by
          unfold Act.put
          split
          · rename_i d hd2
            have hds : d ≠ s := fun e => hij (hdst j i o' o s ho' ho hd (by rw [hd2, e]))
            simp [Array.getElem?_setIfInBounds_ne hds]
          · rfl
        rw [hv]
        exact hmono _ _ _ _ hb hold

/-- A REGION THAT DRAWS ITS ORDER, BY ITS TEMPORARIES. -/
theorem region_way {id : Nat} {a : Act} {w : World} (G : Nat → World → Value → Prop) (hm : P.follows .mixedOrders = true)
    (hdep : ∀ (i : Nat) (o : Oper), ops[i]? = some o → ∀ e ∈ o.after, Region.binds .any e = true → e.on < i)
    (hdst : ∀ (i j : Nat) (o o' : Oper) (s : Tmp), ops[i]? = some o → ops[j]? = some o' → o.dst = some s → o'.dst = some s → i = j)
    (hsz : ∀ (i : Nat) (o : Oper) (s : Tmp), ops[i]? = some o → o.dst = some s → s < a.tmps.size)
    (hmono : ∀ i v w w', Below w.heap.size w w' → G i w v → G i w' v)
    (hstep : ∀ (i : Nat) (o : Oper), ops[i]? = some o → ∀ (listed : Array Bool) (a' : Act) (w' : World), Way ops G a w.drew listed a' w' → (∀ e ∈ o.after, Region.binds .any e = true → listed.getD e.on false = true) →
      ∀ K : Act → World → Prop, (∀ v w'', Below w'.heap.size w' w'' → (∀ s, o.dst = some s → G i w'' v) → K (a'.put o.dst v) w'') →
      if Region.wanted o (yielded ops a'.tmps) = true then o.wp P a' w' K Q else K (a'.put o.dst undef) w')
    (hfin : ∀ (listed : Array Bool) (a' : Act) (w' : World), Way ops G a w.drew listed a' w' → (∀ i, i < ops.size → listed.getD i false = true) → Q .normal a' w') :
    (Code.region id ops true).wp P Q a w := by
  refine wp_region_any hm (way_any (G := G) (a0 := a) (w0 := w.drew) hdep hdst hsz hmono hstep hfin ops.size _ a _ (by simp) ?_ ?_)
  · unfold unlisted
    refine Nat.le_trans (List.length_filter_le _ _) (by simp)
  · refine ⟨Below.refl _ _, rfl, rfl, fun _ _ => rfl, fun i o s ho hl _ => ?_⟩
    have : (Array.replicate ops.size false).getD i false = false := by
      by_cases h : i < ops.size <;> simp [h]
    rw [this] at hl
    cases hl

/-- The closed facts of a region's table: what an operation waits for stands ahead of it; no temporary is written twice; all lie in the frame. -/
def tableOk (ops : Array Oper) (n : Nat) : Bool :=
  ((List.range ops.size).all fun i => match ops[i]? with | some o => (o.after.all fun e => !Region.binds .any e || decide (e.on < i)) && (match o.dst with | some s => decide (s < n) | none => true) | none => true) &&
  ((List.range ops.size).all fun i => (List.range ops.size).all fun j => decide (i = j) || match ops[i]?, ops[j]? with | some o, some o' => (match o.dst, o'.dst with | some s, some s' => decide (s ≠ s') | _, _ => true) | _, _ => true)
theorem tableOk_dep {n : Nat} (h : tableOk ops n = true) : ∀ (i : Nat) (o : Oper), ops[i]? = some o → ∀ e ∈ o.after, Region.binds .any e = true → e.on < i := by
  intro i o ho e he hbd
  have hlt := (Array.getElem?_eq_some_iff.1 ho).1
  unfold tableOk at h
  rw [Bool.and_eq_true] at h
  have h1 := List.all_eq_true.1 h.1 i (List.mem_range.2 hlt)
  rw [ho] at h1
  simp only [Bool.and_eq_true, Array.all_eq_true_iff_forall_mem] at h1
  have h2 := h1.1 e he
  rw [hbd] at h2
  simpa using h2
theorem tableOk_size {n : Nat} (h : tableOk ops n = true) : ∀ (i : Nat) (o : Oper) (s : Tmp), ops[i]? = some o → o.dst = some s → s < n := by
  intro i o s ho hd
  have hlt := (Array.getElem?_eq_some_iff.1 ho).1
  unfold tableOk at h
  rw [Bool.and_eq_true] at h
  have h1 := List.all_eq_true.1 h.1 i (List.mem_range.2 hlt)
  rw [ho] at h1
  simp only [Bool.and_eq_true, hd, decide_eq_true_eq] at h1
  exact h1.2
theorem tableOk_dst {n : Nat} (h : tableOk ops n = true) : ∀ (i j : Nat) (o o' : Oper) (s : Tmp), ops[i]? = some o → ops[j]? = some o' → o.dst = some s → o'.dst = some s → i = j := by
  intro i j o o' s ho ho' hd hd'
  have hlt := (Array.getElem?_eq_some_iff.1 ho).1
  have hlt' := (Array.getElem?_eq_some_iff.1 ho').1
  unfold tableOk at h
  rw [Bool.and_eq_true] at h
  have h1 := List.all_eq_true.1 (List.all_eq_true.1 h.2 i (List.mem_range.2 hlt)) j (List.mem_range.2 hlt')
  rw [ho, ho'] at h1
  simp only [hd, hd', Bool.or_eq_true, decide_eq_true_eq, ne_eq, not_true_eq_false, or_false] at h1
  exact h1
/-- No operation writes this slot. -/
def unwritten (ops : Array Oper) (s : Tmp) : Bool := ops.all fun o => decide (o.dst ≠ some s)
theorem Way.kept {listed : Array Bool} {a : Act} {w : World} (h : Way ops G a0 w0 listed a w) (s : Tmp) (hu : unwritten ops s = true) : a.tmps.getD s undef = a0.tmps.getD s undef :=
  h.old s fun i o ho => by
    unfold unwritten at hu
    have := Array.all_eq_true_iff_forall_mem.1 hu o (Array.mem_of_getElem? ho)
    simpa using this
/-- What has come up at number i, whose temporary is s. -/
theorem Way.at_ {listed : Array Bool} {a : Act} {w : World} (h : Way ops G a0 w0 listed a w) (i : Nat) (s : Tmp) (hi : (ops[i]?).bind (·.dst) = some s) (hl : listed.getD i false = true) : G i w (a.tmps.getD s undef) := by
  cases ho : ops[i]? with
  | none => rw [ho] at hi; cases hi
  | some o => rw [ho] at hi; exact h.come i o s ho hl hi

/-- What is to be shown of one operation. -/
def StepOf (P : Program) (ops : Array Oper) (Q : Exit → Act → World → Prop) (G : Nat → World → Value → Prop) (a : Act) (w : World) (i : Nat) (o : Oper) : Prop :=
  ∀ (listed : Array Bool) (a' : Act) (w' : World), Way ops G a w.drew listed a' w' → (∀ e ∈ o.after, Region.binds .any e = true → listed.getD e.on false = true) →
    ∀ K : Act → World → Prop, (∀ v w'', Below w'.heap.size w' w'' → (∀ s, o.dst = some s → G i w'' v) → K (a'.put o.dst v) w'') →
    if Region.wanted o (yielded ops a'.tmps) = true then o.wp P a' w' K Q else K (a'.put o.dst undef) w'
def StepAll (f : Nat → Oper → Prop) : List Oper → Nat → Prop
  | [], _ => True
  | o :: r, i => f i o ∧ StepAll f r (i + 1)
theorem stepAll_get {f : Nat → Oper → Prop} : ∀ {l : List Oper} {i : Nat}, StepAll f l i → ∀ (k : Nat) (o : Oper), l[k]? = some o → f (i + k) o
  | [], _, _, _, _, h => by simp at h
  | x :: r, i, hs, 0, o, h => by
    obtain rfl : x = o := by simpa using h
    exact hs.1
  | x :: r, i, hs, k + 1, o, h => by
    have := stepAll_get hs.2 k o (by simpa using h)
    rwa [show i + 1 + k = i + (k + 1) by omega] at this
theorem region_steps {id : Nat} {a : Act} {w : World} (G : Nat → World → Value → Prop) {n : Nat} (hm : P.follows .mixedOrders = true) (ht : tableOk ops n = true) (hn : a.tmps.size = n)
    (hmono : ∀ i v w w', Below w.heap.size w w' → G i w v → G i w' v) (hstep : StepAll (StepOf P ops Q G a w) ops.toList 0)
    (hfin : ∀ (listed : Array Bool) (a' : Act) (w' : World), Way ops G a w.drew listed a' w' → (∀ i, i < ops.size → listed.getD i false = true) → Q .normal a' w') :
    (Code.region id ops true).wp P Q a w :=
  region_way G hm (tableOk_dep ht) (tableOk_dst ht) (fun i o s ho hd => by rw [hn]; exact tableOk_size ht i o s ho hd) hmono
    (fun i o ho => by
      have := stepAll_get hstep i o (by rw [Array.getElem?_toList]; exact ho)
      rwa [Nat.zero_add] at this) hfin
end
section
variable {P : Program} {a : Act} {w : World} {K : Act → World → Prop} {Q : Exit → Act → World → Prop} {dst : Option Tmp} {ty : TypeId} {pos : String} {af : Array Edge} {gd : Option (Nat × Bool)}
theorem step_free {o : Oper} {y : Nat → Option Bool} {R : Prop} (hg : o.guard = none) (h : o.wp P a w K Q) : if Region.wanted o y = true then o.wp P a w K Q else R := by
  have hw : Region.wanted o y = true := by unfold Region.wanted; rw [hg]
  rw [if_pos hw]
  exact h
theorem step_guarded {o : Oper} {ops : Array Oper} {j : Nat} {b : Bool} {s : Tmp} {R : Prop} (hg : o.guard = some (j, b)) (hj : (ops[j]?).bind (·.dst) = some s) (hs : s < a.tmps.size) (hv : a.tmps.getD s undef = .bool b) (h : o.wp P a w K Q) :
    if Region.wanted o (yielded ops a.tmps) = true then o.wp P a w K Q else R := by
  have hy : yielded ops a.tmps j = some b := by
    unfold yielded
    rw [hj]
    have : a.tmps[s]? = some (.bool b) := by
      rw [← hv]; simp [hs]
    simp [this]
  have hw : Region.wanted o (yielded ops a.tmps) = true := by unfold Region.wanted; rw [hg]; simp [hy]
  rw [if_pos hw]
  exact h
theorem wp_move {t : Tmp} (h : K (a.put dst (a.tmps.getD t undef)) w) : Oper.wp P { dst := dst, op := Op.move (.tmp t), type := ty, pos := pos, after := af, guard := gd } a w K Q := h
theorem wp_assign {t : Tmp} (h : K (a.put dst (a.tmps.getD t undef)) w) : Oper.wp P { dst := dst, op := Op.assign (.tmp t), type := ty, pos := pos, after := af, guard := gd } a w K Q := h
end
end Go.Proofs.Ytmkkhknbokfciaa
/-
  A region that draws its order, by what each of its temporaries holds (XRegion): the frame behind it, written out. No condition; nothing here speaks of a program.
-/
namespace Go.Proofs.Ytmkkhknbokfciaa
open Go.RowKit

section
variable {P : Program} {ops : Array Oper} {G : Nat → World → Value → Prop} {a0 a : Act} {w0 w : World} {listed : Array Bool}
/-- All that the region writes lies in these slots. -/
def writesIn (ops : Array Oper) (slots : List Tmp) : Bool := ops.all fun o => match o.dst with | some s => slots.contains s | none => true
theorem puts_tmps (vals : Tmp → Value) : ∀ (slots : List Tmp) (b : Act), (slots.foldl (fun c s => c.put (some s) (vals s)) b).tmps.size = b.tmps.size ∧ (slots.foldl (fun c s => c.put (some s) (vals s)) b).defers = b.defers ∧
    ∀ j, j < b.tmps.size → (slots.foldl (fun c s => c.put (some s) (vals s)) b).tmps.getD j undef = if j ∈ slots then vals j else b.tmps.getD j undef := by
  intro slots
  induction slots with
  | nil => intro b; simp
  | cons s r ih =>
    intro b
    have h := ih (b.put (some s) (vals s))
    have hsz : (b.put (some s) (vals s)).tmps.size = b.tmps.size := by simp [Act.put]
    have hdf : (b.put (some s) (vals s)).defers = b.defers := rfl
    refine ⟨h.1.trans hsz, h.2.1.trans hdf, fun j hj => ?_⟩
    rw [List.foldl_cons, h.2.2 j (by rw [hsz]; exact hj)]
    by_cases hr : j ∈ r
    · rw [if_pos hr, if_pos (by simp [hr])]
    · rw [if_neg hr]
      by_cases hs : j = s
      · subst hs
        rw [if_pos (by simp)]
        simp [Act.put, hj]
      · rw [if_neg (by simp [hr, hs])]
        simp [Act.put, Array.getElem?_setIfInBounds_ne (Ne.symm hs)]
theorem Way.puts (h : Way ops G a0 w0 listed a w) (slots : List Tmp) (hs : writesIn ops slots = true) : a = slots.foldl (fun c s => c.put (some s) (a.tmps.getD s undef)) a0 := by
  have hp := puts_tmps (fun s => a.tmps.getD s undef) slots a0
  have hd := h.defers
  have hz := h.size
  have hold : ∀ j, j ∉ slots → a.tmps.getD j undef = a0.tmps.getD j undef := fun j hj => h.old j fun i o ho => by
    have := Array.all_eq_true_iff_forall_mem.1 hs o (Array.mem_of_getElem? ho)
    intro e
    rw [e] at this
    simp at this
    exact hj this
  generalize hb : slots.foldl (fun c s => c.put (some s) (a.tmps.getD s undef)) a0 = b at hp ⊢
  obtain ⟨t, df⟩ := a
  obtain ⟨t', df'⟩ := b
  have e1 : df = df' := hd.trans hp.2.1.symm
  have e2 : t = t' := by
    apply Array.ext
    · exact hz.trans hp.1.symm
    · intro j h1 h2
      have h3 := hp.2.2 j (by rw [← hp.1]; exact h2)
      have h4 : t'.getD j undef = t.getD j undef := by
        rw [h3]
        by_cases hj : j ∈ slots
        · rw [if_pos hj]
        · rw [if_neg hj]
          exact (hold j hj).symm
      simpa [h1, h2] using h4.symm
  rw [e1, e2]
end
end Go.Proofs.Ytmkkhknbokfciaa
/-
  A region that draws its order, in which calls may turn what lies there: like XRegion, with a relation M between worlds and a state I that each operation carries on.
-/
namespace Go.Proofs.Ytmkkhknbokfciaa
open Go.RowKit

section
variable {P : Program} {ops : Array Oper} {Q : Exit → Act → World → Prop} {G : Nat → World → Value → Prop} {M : World → World → Prop} {I : Array Bool → World → Prop} {a0 : Act} {w0 : World}

structure Way2 (M : World → World → Prop) (I : Array Bool → World → Prop) (ops : Array Oper) (G : Nat → World → Value → Prop) (a0 : Act) (w0 : World) (listed : Array Bool) (a : Act) (w : World) : Prop where
  held : M w0 w
  inv : I listed w
  defers : a.defers = a0.defers
  size : a.tmps.size = a0.tmps.size
  old : ∀ s, (∀ (i : Nat) (o : Oper), ops[i]? = some o → o.dst ≠ some s) → a.tmps.getD s undef = a0.tmps.getD s undef
  come : ∀ (i : Nat) (o : Oper) (s : Tmp), ops[i]? = some o → listed.getD i false = true → o.dst = some s → G i w (a.tmps.getD s undef)
  lsize : listed.size = ops.size

theorem way_any2 (hMt : ∀ a b c, M a b → M b c → M a c) (hdep : ∀ (i : Nat) (o : Oper), ops[i]? = some o → ∀ e ∈ o.after, Region.binds .any e = true → e.on < i)
    (hdst : ∀ (i j : Nat) (o o' : Oper) (s : Tmp), ops[i]? = some o → ops[j]? = some o' → o.dst = some s → o'.dst = some s → i = j)
    (hsz : ∀ (i : Nat) (o : Oper) (s : Tmp), ops[i]? = some o → o.dst = some s → s < a0.tmps.size)
    (hmono : ∀ i v w w', M w w' → G i w v → G i w' v)
    (hstep : ∀ (i : Nat) (o : Oper), ops[i]? = some o → ∀ (listed : Array Bool) (a : Act) (w : World), Way2 M I ops G a0 w0 listed a w → listed.getD i false = false → (∀ e ∈ o.after, Region.binds .any e = true → listed.getD e.on false = true) →
      ∀ K : Act → World → Prop, (∀ v w', M w w' → I (listed.setIfInBounds i true) w' → (∀ s, o.dst = some s → G i w' v) → K (a.put o.dst v) w') →
      if Region.wanted o (yielded ops a.tmps) = true then o.wp P a w K Q else K (a.put o.dst undef) w)
    (hfin : ∀ (listed : Array Bool) (a : Act) (w : World), Way2 M I ops G a0 w0 listed a w → (∀ i, i < ops.size → listed.getD i false = true) → Q .normal a w) :
    ∀ (fuel : Nat) (listed : Array Bool) (a : Act) (w : World), listed.size = ops.size → unlisted ops listed ≤ fuel → Way2 M I ops G a0 w0 listed a w → wpAny P .any ops Q fuel listed a w := by
  intro fuel
  induction fuel with
  | zero =>
    intro listed a w hs hu hw
    have hall : ∀ i, i < ops.size → listed.getD i false = true := by
      intro i hi
      cases hl : listed.getD i false with
      | true => rfl
      | false => have := unlisted_set hs hi hl; omega
    refine ⟨?_, hfin listed a w hw hall⟩
    apply List.eq_nil_iff_forall_not_mem.2
    intro i hi
    rw [mem_ready] at hi
    obtain ⟨h1, o, ho, _⟩ := hi
    have hlt := (Array.getElem?_eq_some_iff.1 ho).1
    rw [getD_both (by omega) true false, hall i hlt] at h1
    cases h1
  | succ fuel ih =>
    intro listed a w hs hu hw
    refine ⟨fun hr => hfin listed a w hw (all_listed hs hdep hr), fun i hi => ?_⟩
    rw [mem_ready] at hi
    obtain ⟨h1, o, ho, hdeps⟩ := hi
    have hlt := (Array.getElem?_eq_some_iff.1 ho).1
    have h1' : listed.getD i false = false := by rw [getD_both (by omega) false true]; exact h1
    refine wpOp_step ho fun K hK => ?_
    refine hstep i o ho listed a w hw h1' hdeps K fun v w' hb hinv hg => hK _ _ ?_
    refine ih _ _ _ (by simp [hs]) (by have := unlisted_set hs hlt h1'; omega) ?_
    refine ⟨hMt _ _ _ hw.held hb, hinv, ?_, ?_, fun s hno => ?_, fun j o' s ho' hj hd => ?_, by simp [hs]⟩
    · unfold Act.put; split <;> exact hw.defers
    · unfold Act.put; split
      · simp [hw.size]
      · exact hw.size
    · have hne := hno i o ho
      unfold Act.put
      split
      · rename_i d hd
        have hds : d ≠ s := fun e => hne (by rw [hd, e])
        have : (a.tmps.setIfInBounds d v).getD s undef = a.tmps.getD s undef := by simp [Array.getElem?_setIfInBounds_ne hds]
        simp only
        rw [this]
        exact hw.old s hno
      · exact hw.old s hno
    · by_cases hij : j = i
      · subst hij
        obtain rfl : o' = o := Option.some.inj (ho'.symm.trans ho)
        have hlt2 : s < a.tmps.size := by rw [hw.size]; exact hsz _ _ _ ho hd
        have hv : (a.put o'.dst v).tmps.getD s undef = v := by
          unfold Act.put
          rw [hd]
          simp [hlt2]
        rw [hv]
        exact hg s hd
      · have hj' : listed.getD j false = true := by rwa [getD_set_ne false (Ne.symm hij)] at hj
        have hold := hw.come j o' s ho' hj' hd
        have hv : (a.put o.dst v).tmps.getD s undef = a.tmps.getD s undef := by
          unfold Act.put
          split
          · rename_i d hd2
            have hds : d ≠ s := fun e => hij (hdst j i o' o s ho' ho hd (by rw [hd2, e]))
            simp [Array.getElem?_setIfInBounds_ne hds]
          · rfl
        rw [hv]
        exact hmono _ _ _ _ hb hold
theorem Way2.kept {listed : Array Bool} {a : Act} {w : World} (h : Way2 M I ops G a0 w0 listed a w) (s : Tmp) (hu : unwritten ops s = true) : a.tmps.getD s undef = a0.tmps.getD s undef :=
  h.old s fun i o ho => by
    unfold unwritten at hu
    have := Array.all_eq_true_iff_forall_mem.1 hu o (Array.mem_of_getElem? ho)
    simpa using this
theorem Way2.at_ {listed : Array Bool} {a : Act} {w : World} (h : Way2 M I ops G a0 w0 listed a w) (i : Nat) (s : Tmp) (hi : (ops[i]?).bind (·.dst) = some s) (hl : listed.getD i false = true) : G i w (a.tmps.getD s undef) := by
  cases ho : ops[i]? with
  | none => rw [ho] at hi; cases hi
  | some o => rw [ho] at hi; exact h.come i o s ho hl hi
/-- What is to be shown of one operation. -/
def StepOf2 (P : Program) (ops : Array Oper) (Q : Exit → Act → World → Prop) (M : World → World → Prop) (I : Array Bool → World → Prop) (G : Nat → World → Value → Prop) (a : Act) (w : World) (i : Nat) (o : Oper) : Prop :=
  ∀ (listed : Array Bool) (a' : Act) (w' : World), Way2 M I ops G a w.drew listed a' w' → listed.getD i false = false → (∀ e ∈ o.after, Region.binds .any e = true → listed.getD e.on false = true) →
    ∀ K : Act → World → Prop, (∀ v w'', M w' w'' → I (listed.setIfInBounds i true) w'' → (∀ s, o.dst = some s → G i w'' v) → K (a'.put o.dst v) w'') →
    if Region.wanted o (yielded ops a'.tmps) = true then o.wp P a' w' K Q else K (a'.put o.dst undef) w'
theorem region_steps2 {id : Nat} {a : Act} {w : World} (M : World → World → Prop) (I : Array Bool → World → Prop) (G : Nat → World → Value → Prop) {n : Nat} (hm : P.follows .mixedOrders = true) (ht : tableOk ops n = true) (hn : a.tmps.size = n)
    (hMr : ∀ w, M w w) (hMt : ∀ a b c, M a b → M b c → M a c) (hI0 : I (Array.replicate ops.size false) w.drew)
    (hmono : ∀ i v w w', M w w' → G i w v → G i w' v) (hstep : StepAll (StepOf2 P ops Q M I G a w) ops.toList 0)
    (hfin : ∀ (listed : Array Bool) (a' : Act) (w' : World), Way2 M I ops G a w.drew listed a' w' → (∀ i, i < ops.size → listed.getD i false = true) → Q .normal a' w') :
    (Code.region id ops true).wp P Q a w := by
  refine wp_region_any hm (way_any2 (G := G) (M := M) (I := I) (a0 := a) (w0 := w.drew) hMt (tableOk_dep ht) (tableOk_dst ht) (fun i o s ho hd => by rw [hn]; exact tableOk_size ht i o s ho hd) hmono (fun i o ho => ?_) hfin ops.size _ a _ (by simp) ?_ ?_)
  · have := stepAll_get hstep i o (by rw [Array.getElem?_toList]; exact ho)
    rwa [Nat.zero_add] at this
  · unfold unlisted
    refine Nat.le_trans (List.length_filter_le _ _) (by simp)
  · refine ⟨hMr _, hI0, rfl, rfl, fun _ _ => rfl, fun i o s ho hl _ => ?_, by simp⟩
    have : (Array.replicate ops.size false).getD i false = false := by
      by_cases h : i < ops.size <;> simp [h]
    rw [this] at hl
    cases hl
/-- An operation that is not wanted: its guard did not yield b. -/
theorem step_unwanted {o : Oper} {ops : Array Oper} {j : Nat} {b : Bool} {s : Tmp} {R : Prop} {a : Act} {w : World} {K : Act → World → Prop} (hg : o.guard = some (j, b)) (hj : (ops[j]?).bind (·.dst) = some s) (hv : a.tmps.getD s undef ≠ .bool b) (h : R) :
    if Region.wanted o (yielded ops a.tmps) = true then o.wp P a w K Q else R := by
  have hy : yielded ops a.tmps j ≠ some b := by
    unfold yielded
    rw [hj]
    intro e
    cases hs : a.tmps[s]? with
    | none => simp [hs] at e
    | some v =>
      have e2 : a.tmps.getD s undef = v := by simp [hs]
      rw [e2] at hv
      cases v <;> simp [hs] at e
      rename_i c
      subst e
      exact hv rfl
  have hw : ¬ Region.wanted o (yielded ops a.tmps) = true := by
    unfold Region.wanted
    rw [hg]
    simp [hy]
  rw [if_neg hw]
  exact h
theorem Way2.puts {listed : Array Bool} {a : Act} {w : World} (h : Way2 M I ops G a0 w0 listed a w) (slots : List Tmp) (hs : writesIn ops slots = true) : a = slots.foldl (fun c s => c.put (some s) (a.tmps.getD s undef)) a0 := by
  have hp := puts_tmps (fun s => a.tmps.getD s undef) slots a0
  have hd := h.defers
  have hz := h.size
  have hold : ∀ j, j ∉ slots → a.tmps.getD j undef = a0.tmps.getD j undef := fun j hj => h.old j fun i o ho => by
    have := Array.all_eq_true_iff_forall_mem.1 hs o (Array.mem_of_getElem? ho)
    intro e
    rw [e] at this
    simp at this
    exact hj this
  generalize hb : slots.foldl (fun c s => c.put (some s) (a.tmps.getD s undef)) a0 = b at hp ⊢
  obtain ⟨t, df⟩ := a
  obtain ⟨t', df'⟩ := b
  have e1 : df = df' := hd.trans hp.2.1.symm
  have e2 : t = t' := by
    apply Array.ext
    · exact hz.trans hp.1.symm
    · intro j h1 h2
      have h3 := hp.2.2 j (by rw [← hp.1]; exact h2)
      have h4 : t'.getD j undef = t.getD j undef := by
        rw [h3]
        by_cases hj : j ∈ slots
        · rw [if_pos hj]
        · rw [if_neg hj]
          exact (hold j hj).symm
      simpa [h1, h2] using h4.symm
  rw [e1, e2]
end
end Go.Proofs.Ytmkkhknbokfciaa
/-
  Words for a seat's memory: a slice that reads as a row of bytes; a slice of bytes that the program itself made; what a call leaves alone. No condition.
-/
namespace Go.Proofs.Ytmkkhknbokfciaa
open Go.RowKit

/-- The number at place k of a row of bytes. -/
def at8 (l : List UInt8) (k : Nat) : Nat := (l.getD k 0).toNat
theorem at8_lt (l : List UInt8) (k : Nat) : at8 l k < 256 := (l.getD k 0).toNat_lt
/-- A slice's address A under which the bytes l lie, in a block below B. -/
def Bytes (w : World) (B : Nat) (A : Option Addr) (l : List UInt8) : Prop :=
  0 < l.length → ∃ b off, A = some ⟨b, off, none⟩ ∧ b < B ∧ ∀ k, k < l.length → w.cell? ⟨b, off + k, none⟩ = some (.int .u8 ((at8 l k : Nat) : Int))

/-- Nothing that was there has turned but the blocks that S names. -/
structure Only (S : Nat → Prop) (w w' : World) : Prop where
  os : w'.os = w.os
  tape : w'.tape = w.tape
  output : w'.output = w.output
  size : w.heap.size ≤ w'.heap.size
  block : ∀ k, k < w.heap.size → ¬ S k → w'.heap[k]? = w.heap[k]?
namespace Only
variable {S T : Nat → Prop} {a b c w w' : World}
theorem refl (S : Nat → Prop) (w : World) : Only S w w := ⟨rfl, rfl, rfl, Nat.le_refl _, fun _ _ _ => rfl⟩
theorem weak (h : Only T w w') (hS : ∀ k, k < w.heap.size → T k → S k) : Only S w w' := ⟨h.os, h.tape, h.output, h.size, fun k hk hn => h.block k hk fun ht => hn (hS k hk ht)⟩
theorem trans (h : Only S a b) (k : Only T b c) (hT : ∀ k, k < a.heap.size → T k → S k) : Only S a c :=
  ⟨k.os.trans h.os, k.tape.trans h.tape, k.output.trans h.output, Nat.le_trans h.size k.size, fun i hi hn => (k.block i (Nat.lt_of_lt_of_le hi h.size) fun ht => hn (hT i hi ht)).trans (h.block i hi hn)⟩
theorem ofBelow (h : Below w.heap.size w w') : Only S w w' := ⟨h.os, h.tape, h.output, h.size, fun k hk _ => h.block k hk⟩
theorem ofGrown {row : Option Nat} (h : w.grownBy w' row) : Only (fun k => row = some k) w w' := ⟨h.os, h.tape, h.output, h.size, fun k hk hn => h.block k hk fun e => hn e.symm⟩
theorem alloc (h : Only S a w) (o : Obj) : Only S a (w.alloc o) :=
  ⟨h.os, h.tape, h.output, by have := h.size; simp; omega, fun k hk hn => (Below.heap_alloc w o k (Nat.lt_of_lt_of_le hk h.size)).trans (h.block k hk hn)⟩
theorem setCell (h : Only S a w) {p : Addr} (hp : S p.block ∨ a.heap.size ≤ p.block) (u : Value) : Only S a (w.setCell p u) :=
  ⟨h.os, h.tape, h.output, by have := h.size; simpa using this, fun k hk hn => (Below.heap_setCell w p u k (fun e => by
    subst e
    rcases hp with hp | hp
    · exact hn hp
    · omega)).trans (h.block k hk hn)⟩
theorem drew (h : Only S a w) : Only S a w.drew := ⟨h.os, h.tape, h.output, h.size, h.block⟩
theorem drewN (h : Only S a w) (n : Nat) : Only S a (w.drewN n) := ⟨h.os, h.tape, h.output, h.size, h.block⟩
/-- What lies below all that turned is as it was. -/
theorem below {B : Nat} {w0 : World} (h : Only S w w') (hb : Below B w0 w) (hS : ∀ k, S k → B ≤ k) (hB : B ≤ w.heap.size) : Below B w0 w' :=
  ⟨h.os.trans hb.os, h.tape.trans hb.tape, h.output.trans hb.output, Nat.le_trans hb.size h.size, fun k hk => (h.block k (Nat.lt_of_lt_of_le hk hB) fun hs => by have := hS k hs; omega).trans (hb.block k hk)⟩
theorem cell (h : Only S w w') {p : Addr} (hp : p.block < w.heap.size) (hn : ¬ S p.block) : w'.cell? p = w.cell? p := World.cell?_of_block (w := w) (h.block p.block hp hn)
end Only
theorem lt_of_heap {w : World} {k : Nat} {o : Obj} (h : w.heap[k]? = some o) : k < w.heap.size := by
  rcases Nat.lt_or_ge k w.heap.size with hlt | hge
  · exact hlt
  · rw [Array.getElem?_eq_none hge] at h; cases h

section
variable {w w' : World} {B B' : Nat} {A : Option Addr} {l : List UInt8}
theorem Bytes.nil_ : Bytes w B A [] := fun h => absurd h (by simp)
theorem Bytes.keep (h : Bytes w B A l) (hk : ∀ b o, b < B → w'.cell? ⟨b, o, none⟩ = w.cell? ⟨b, o, none⟩) : Bytes w' B A l := fun hn => by
  obtain ⟨b, off, e, hb, hc⟩ := h hn
  exact ⟨b, off, e, hb, fun k hk' => (hk _ _ hb).trans (hc k hk')⟩
theorem Bytes.more (h : Bytes w B A l) (hB : B ≤ B') : Bytes w B' A l := fun hn => by
  obtain ⟨b, off, e, hb, hc⟩ := h hn
  exact ⟨b, off, e, by omega, hc⟩
theorem Bytes.below (h : Bytes w B A l) (hb : Below B w w') : Bytes w' B A l := h.keep fun b o hp => hb.cell (p := ⟨b, o, none⟩) hp
theorem Bytes.drew (h : Bytes w B A l) : Bytes w.drew B A l := h
theorem Bytes.drewN (h : Bytes w B A l) (k : Nat) : Bytes (w.drewN k) B A l := h
theorem Bytes.alloc (h : Bytes w B A l) (hB : B ≤ w.heap.size) (o : Obj) : Bytes (w.alloc o) B A l := h.keep fun b i hp => World.cell?_alloc_lt w o ⟨b, i, none⟩ (by simp only; omega)
theorem Bytes.setCell (h : Bytes w B A l) {p : Addr} (hB : B ≤ p.block) (u : Value) : Bytes (w.setCell p u) B A l :=
  h.keep fun b i hq => World.cell?_setCell_other w p ⟨b, i, none⟩ u (fun e => by subst e; simp only at hB; omega)
end

/-! Blocks of bytes that the call itself made. -/
def bv (l : List UInt8) : List Value := l.map fun c => .int .u8 ((c.toNat : Nat) : Int)
@[simp] theorem bv_length (l : List UInt8) : (bv l).length = l.length := by simp [bv]
theorem bv_append (a b : List UInt8) : bv (a ++ b) = bv a ++ bv b := by simp [bv]
theorem bv_one (l : List UInt8) : ∀ v ∈ bv l, v.oneCell' = true := by
  intro v hv
  obtain ⟨c, _, rfl⟩ := List.mem_map.1 hv
  rfl
theorem bv_get {l : List UInt8} {k : Nat} (h : k < l.length) : (bv l)[k]? = some (.int .u8 ((at8 l k : Nat) : Int)) := by simp [bv, at8, List.getD, h]
theorem bv_get_inv {l : List UInt8} {k : Nat} {u : Value} (h : (bv l)[k]? = some u) : k < l.length ∧ u = .int .u8 ((at8 l k : Nat) : Int) := by
  have hk : k < l.length := by
    have := (List.getElem?_eq_some_iff.1 h).1
    simpa using this
  rw [bv_get hk] at h
  exact ⟨hk, (Option.some.inj h).symm⟩
theorem Bytes.front {w : World} {B : Nat} {A : Option Addr} {l : List UInt8} (h : Bytes w B A l) (n : Nat) : Bytes w B A (l.take n) := fun hn => by
  rw [List.length_take] at hn
  obtain ⟨b, off, e, hb, hc⟩ := h (by omega)
  refine ⟨b, off, e, hb, fun k hk => ?_⟩
  rw [List.length_take] at hk
  rw [hc k (by omega)]
  simp only [at8, List.getD]
  rw [List.getElem?_take, if_pos (by omega)]
theorem Bytes.back {w : World} {B b off : Nat} {l : List UInt8} (h : Bytes w B (some ⟨b, off, none⟩) l) (n : Nat) : Bytes w B (some ⟨b, off + n, none⟩) (l.drop n) := fun hn => by
  rw [List.length_drop] at hn
  obtain ⟨b', off', e, hb, hc⟩ := h (by omega)
  obtain ⟨rfl, rfl⟩ : b = b' ∧ off = off' := by simpa using e
  refine ⟨b, off + n, rfl, hb, fun k hk => ?_⟩
  rw [List.length_drop] at hk
  rw [Nat.add_assoc, hc (n + k) (by omega)]
  simp [at8, List.getD, List.getElem?_drop]
theorem add_mk (b off j : Nat) : (⟨b, off, none⟩ : Addr).add j = ⟨b, off + j, none⟩ := by
  unfold Addr.add
  split
  · rename_i h; subst h; rfl
  · rfl
theorem Bytes.src {w : World} {B : Nat} {A : Option Addr} {l : List UInt8} (h : Bytes w B A l) (hn : 0 < (bv l).length) : ∃ ad, A = some ad ∧ ∀ j v, (bv l)[j]? = some v → w.cell? (ad.add j) = some v := by
  obtain ⟨b, off, rfl, _, hc⟩ := h (by simpa using hn)
  refine ⟨_, rfl, fun j v hv => ?_⟩
  obtain ⟨hj, rfl⟩ := bv_get_inv hv
  rw [add_mk]
  exact hc j hj
theorem Bytes.none_ {w : World} {B : Nat} {l : List UInt8} (h : Bytes w B none l) : l = [] := by
  rcases Nat.eq_zero_or_pos l.length with h0 | h0
  · exact List.eq_nil_of_length_eq_zero h0
  · obtain ⟨_, _, e, _⟩ := h h0; cases e
theorem Try.infoU8 : (Try.prog.info? 5).map (fun i => (i.zero, i.size, i.bytes)) = some (some (.int .u8 0), 1, 1) := by kernel_rfl
theorem Try.sizeU8 : (Try.prog.info? 5).map (·.size) = some 1 := by kernel_rfl
theorem made_u8 (n : Nat) : madeCells #[.int .u8 0] n = (bv (List.replicate n 0)).toArray := by
  apply Array.ext
  · simp [size_madeCells]
  · intro i h1 h2
    simp [madeCells, bv, Nat.mod_one]

/-- A slice of bytes that the call itself made. -/
def Own8 (w : World) (base : Nat) (A : Option Addr) (n cap : Nat) (l : List UInt8) : Prop := w.ownsRow base 5 1 (.slice A n cap) n (bv l)
/-- The block of an address, if there is one. -/
def blockOf (A : Option Addr) : Option Nat := A.map (·.block)
theorem ownBlock_slice (A : Option Addr) (n cap : Nat) : (Value.slice A n cap).ownBlock = blockOf A := by cases A <;> rfl
section
variable {w w' : World} {base base' n cap : Nat} {A : Option Addr} {l : List UInt8}
theorem Own8.len (h : Own8 w base A n cap l) : l.length = n := by
  have := h.1
  simpa using this
theorem Own8.bytes (h : Own8 w base A n cap l) : Bytes w w.heap.size A l := fun hn => by
  have hl := h.len
  rcases h.2 with ⟨hv, hx⟩ | ⟨g, c, cur, hv, hb, hh, _⟩
  · rw [hx] at hl; omega
  · have hv' : A = some ⟨g, 0, none⟩ ∧ n = n ∧ cap = c := by simpa using hv
    obtain ⟨rfl, -, rfl⟩ := hv'
    refine ⟨g, 0, rfl, lt_of_heap hh, fun k hk => ?_⟩
    have hc := h.cells (g := g) rfl k _ (bv_get hk)
    rw [add_mk] at hc
    exact hc
theorem Own8.cap_le (h : Own8 w base A n cap l) : n ≤ cap := by
  have hl := h.len
  rcases h.2 with ⟨hv, hx⟩ | ⟨g, c, cur, hv, hb, hh, hnc, _⟩
  · omega
  · have hv' : A = some ⟨g, 0, none⟩ ∧ cap = c := by simpa using hv
    omega
theorem Own8.none_cap (h : Own8 w base A n cap l) : A = none → cap = 0 := by
  intro hA
  subst hA
  rcases h.2 with ⟨hv, _⟩ | ⟨g, c, cur, hv, _⟩
  · have hv' : n = 0 ∧ cap = 0 := by simpa using hv
    exact hv'.2
  · simp at hv
theorem Own8.cap_max (h : Own8 w base A n cap l) : cap ≤ maxLen := by
  rcases h.2 with ⟨hv, hx⟩ | ⟨g, c, cur, hv, hb, hh, hnc, hm, _⟩
  · have hv' : A = none ∧ n = 0 ∧ cap = 0 := by simpa using hv
    omega
  · have hv' : A = some ⟨g, 0, none⟩ ∧ cap = c := by simpa using hv
    omega
theorem Own8.lower (h : Own8 w base A n cap l) (hb : base' ≤ base) : Own8 w base' A n cap l := by
  refine ⟨h.1, ?_⟩
  rcases h.2 with h1 | ⟨g, c, cur, hv, hg, hrest⟩
  · exact .inl h1
  · exact .inr ⟨g, c, cur, hv, Nat.le_trans hb hg, hrest⟩
theorem Own8.form8 (h : Own8 w base A n cap l) : A = none ∨ ∃ g, A = some ⟨g, 0, none⟩ := by
  rcases h.2 with ⟨hv, _⟩ | ⟨g, c, cur, hv, _⟩
  · have hv' : A = none := by
      have : A = none ∧ n = 0 ∧ cap = 0 := by simpa using hv
      exact this.1
    exact .inl hv'
  · have hv' : A = some ⟨g, 0, none⟩ ∧ cap = c := by simpa using hv
    exact .inr ⟨g, hv'.1⟩
theorem Own8.lt (h : Own8 w base A n cap l) {g : Nat} (hg : blockOf A = some g) : base ≤ g ∧ g < w.heap.size := World.ownsRow.lt h g (by rw [ownBlock_slice]; exact hg)
/-- The block itself, where there is one. -/
theorem Own8.block (h : Own8 w base A n cap l) {g : Nat} (hg : blockOf A = some g) : A = some ⟨g, 0, none⟩ ∧ ∃ cur, w.heap[g]? = some (.cells cur 5 (0, 0)) ∧ cur.size = cap ∧ n ≤ cap ∧ cur.toList.take n = bv l := by
  rcases h.2 with ⟨hv, hx⟩ | ⟨g', c, cur, hv, hb, hh, hnc, hm, hcs, htk⟩
  · have hv' : A = none ∧ n = 0 ∧ cap = 0 := by simpa using hv
    rw [hv'.1] at hg; cases hg
  · have hv' : A = some ⟨g', 0, none⟩ ∧ cap = c := by simpa using hv
    obtain ⟨rfl, rfl⟩ := hv'
    obtain rfl : g' = g := by simpa [blockOf] using hg
    exact ⟨rfl, cur, hh, by omega, hnc, by simpa using htk⟩
theorem Own8.keep (h : Own8 w base A n cap l) {S : Nat → Prop} (ho : Only S w w') (hn : ∀ k, blockOf A = some k → ¬ S k) : Own8 w' base A n cap l := by
  refine ⟨h.1, ?_⟩
  rcases h.2 with h1 | ⟨g, c, cur, hv, hg, hh, hrest⟩
  · exact .inl h1
  · have hv' : A = some ⟨g, 0, none⟩ := by
      have : A = some ⟨g, 0, none⟩ ∧ cap = c := by simpa using hv
      exact this.1
    exact .inr ⟨g, c, cur, hv, hg, (ho.block g (lt_of_heap hh) (hn g (by rw [hv']; rfl))).trans hh, hrest⟩
theorem Own8.alloc (h : Own8 w base A n cap l) (o : Obj) : Own8 (w.alloc o) base A n cap l := World.ownsRow.alloc h o
theorem Own8.drew (h : Own8 w base A n cap l) : Own8 w.drew base A n cap l := h
theorem Own8.nil_ : Own8 w base none 0 0 [] := World.ownsRow_nil _ _ _ _
end
theorem own_value {w : World} {base n : Nat} {v : Value} {xs : List Value} (h : w.ownsRow base 5 1 v n xs) : ∃ A cap, v = .slice A n cap := by
  rcases h.2 with ⟨hv, hx⟩ | ⟨g, c, cur, hv, _⟩
  · refine ⟨none, 0, ?_⟩
    rw [hx]
    exact hv
  · exact ⟨_, _, hv⟩
/-- The block is the one that it was, or a new one. -/
def NewOr (w : World) (g g' : Option Nat) : Prop := g' = g ∨ ∃ k, g' = some k ∧ w.heap.size ≤ k
theorem NewOr.refl (w : World) (g : Option Nat) : NewOr w g g := .inl rfl
theorem NewOr.trans {w w1 : World} {g g1 g2 : Option Nat} (h : NewOr w g g1) (h1 : NewOr w1 g1 g2) (hs : w.heap.size ≤ w1.heap.size) : NewOr w g g2 := by
  rcases h1 with rfl | ⟨k, rfl, hk⟩
  · exact h
  · exact .inr ⟨k, rfl, Nat.le_trans hs hk⟩
theorem NewOr.same {w : World} {g g' : Option Nat} (h : NewOr w g g') {k : Nat} (hk : k < w.heap.size) (e : g' = some k) : g = some k := by
  rcases h with rfl | ⟨j, rfl, hj⟩
  · exact e
  · cases e; omega
theorem NewOr.older {w w1 : World} {g g' : Option Nat} (h : NewOr w1 g g') (hs : w.heap.size ≤ w1.heap.size) : NewOr w g g' := by
  rcases h with rfl | ⟨j, rfl, hj⟩
  · exact .inl rfl
  · exact .inr ⟨j, rfl, Nat.le_trans hs hj⟩
theorem NewOr.ge {w : World} {g g' : Option Nat} (h : NewOr w g g') {B : Nat} (hB : B ≤ w.heap.size) (hg : ∀ k, g = some k → B ≤ k) : ∀ k, g' = some k → B ≤ k := by
  rcases h with rfl | ⟨j, rfl, hj⟩
  · exact hg
  · intro k e; cases e; omega

section
variable {P : Program} {w : World}
/-- 'append(out, xs...)', out the program's own bytes, xs any bytes, nil or not. -/
theorem wpList_append8 {ops : Array Oper} {rest : List Oper} {o : Oper} {a : Act} {Q : Exit → Act → World → Prop} (hgd : o.guard = none) (s x : Operand)
    (ho : o.op = .call { callee := .builtin .append, args := #[s, x], argTypes := #[26, 26] })
    (A : Option Addr) (n cap : Nat) (l : List UInt8) (hs : a.eval s = .slice A n cap) (hown : Own8 w 0 A n cap l)
    (A1 : Option Addr) (m c B : Nat) (xs : List UInt8) (hx : a.eval x = .slice A1 m c) (hl : xs.length = m) (hA : A1 = none → c = 0) (hb : Bytes w B A1 xs)
    (hbytes : n + m ≤ 140737488355328)
    (h : ∀ A' cap' w', Hid (Own8 w' 0 A' (n + m) cap' (l ++ xs)) → Hid (Only (fun k => blockOf A = some k) w w') → Hid (NewOr w (blockOf A) (blockOf A')) → wpList Try.prog ops Q rest (a.put o.dst (.slice A' (n + m) cap')) w') :
    wpList Try.prog ops Q (o :: rest) a w := by
  obtain ⟨i0, hi0, hz0, hz1, hz2⟩ := info_parts Try.infoU8
  rcases A1 with _ | ad
  · have hc := hA rfl
    subst hc
    have hxs := hb.none_
    subst hxs
    obtain rfl : m = 0 := by simpa using hl.symm
    refine wpList_append_own_none hgd s x 26 ho 0 5 i0 1 Try.underlying26 hi0 (.slice A n cap) n (bv l) hs hown hx ?_
    have := h A cap w (by rw [List.append_nil, Nat.add_zero]; exact hown) (Only.refl _ _) (NewOr.refl _ _)
    simpa using this
  · refine wpList_append_own_at _ hgd s x 26 ho 0 5 i0 _ 1 1 Try.underlying26 hi0 hz0 hz1 hz2 rfl (by omega) (.slice A n cap) n (bv l) hs hown ad m c (bv xs) hx (by simp [hl]) (fun j u hu => ?_) (bv_one xs) (by unfold maxLen; omega) (by omega) (Nat.zero_le _) ?_
    · obtain ⟨ad', e, h'⟩ := hb.src (by have := (List.getElem?_eq_some_iff.1 hu).1; omega)
      cases e
      exact h' j u hu
    · intro v' w1 hown' hg _ hat
      obtain ⟨A', cap', rfl⟩ := own_value hown'
      rw [ownBlock_slice, ownBlock_slice] at hat
      rw [ownBlock_slice] at hg
      refine h A' cap' w1 (by unfold Own8; rw [bv_append]; exact hown') (Only.ofGrown hg) ?_
      rcases hat with e | e
      · exact .inl e
      · exact .inr ⟨_, e, Nat.le_refl _⟩
end
/-- One byte, laid in a block of its own for an append. -/
theorem bytes_one (w : World) (x : UInt8) : Bytes (w.alloc (.cells #[.int .u8 ((x.toNat : Nat) : Int)] 5)) (w.heap.size + 1) (some ⟨w.heap.size, 0, none⟩) [x] := fun _ => by
  refine ⟨_, 0, rfl, by omega, fun k hk => ?_⟩
  obtain rfl : k = 0 := by simpa using hk
  have h := cell_one_new w (.int .u8 ((x.toNat : Nat) : Int)) 5 0 _ rfl
  rw [add_mk] at h
  exact h
theorem conv_str {w : World} {B : Nat} {A : Option Addr} {l : List UInt8} {n : Nat} (cap : Nat) (h : Bytes w B A l) (hn : l.length = n) :
    Sem.run Try.prog (convert 26 9 (.slice A n cap)) w = .ok (.string ⟨l.toArray⟩) w := by
  subst hn
  rcases A with _ | a
  · have := h.none_
    subst this
    exact run_convert_bytes_nil w 26 5 Try.underlying26 Try.underlying5 0 cap 9 Try.underlying9
  · refine run_convert_bytes_back w 26 9 5 a cap l Try.underlying26 Try.underlying5 Try.underlying9 fun j hj => ?_
    obtain ⟨b, off, e, _, hc⟩ := h (by omega)
    cases e
    rw [add_mk, hc j hj]
    simp [at8, List.getD, hj]
end Go.Proofs.Ytmkkhknbokfciaa
/-
  The append of bytes as one step of a region that draws its order. No condition.
-/
namespace Go.Proofs.Ytmkkhknbokfciaa
open Go.RowKit

/-- 'append(out, xs...)' as one step of a region that draws its order: for 'go_region_law (refine step_append8 rfl rfl ..)'. -/
theorem step_append8 {P : Program} {ops : Array Oper} {o : Oper} {a : Act} {w : World} {K : Act → World → Prop} {Q : Exit → Act → World → Prop} {E : Prop} (hP : P = Try.prog) (hgd : o.guard = none) (s x : Operand)
    (ho : o.op = .call { callee := .builtin .append, args := #[s, x], argTypes := #[26, 26] })
    (A : Option Addr) (n cap : Nat) (l : List UInt8) (hs : a.eval s = .slice A n cap) (hown : Own8 w 0 A n cap l)
    (A1 : Option Addr) (m c B : Nat) (xs : List UInt8) (hx : a.eval x = .slice A1 m c) (hl : xs.length = m) (hA : A1 = none → c = 0) (hb : Bytes w B A1 xs)
    (hbytes : n + m ≤ 140737488355328)
    (h : ∀ A' cap' w', Hid (Own8 w' 0 A' (n + m) cap' (l ++ xs)) → Hid (Only (fun k => blockOf A = some k) w w') → Hid (NewOr w (blockOf A) (blockOf A')) → K (a.put o.dst (.slice A' (n + m) cap')) w') :
    if Region.wanted o (yielded ops a.tmps) = true then Oper.wp P o a w K Q else E := by
  subst hP
  have hw : Region.wanted o (yielded ops a.tmps) = true := by simp [Region.wanted, hgd]
  rw [if_pos hw]
  obtain ⟨i0, hi0, hz0, hz1, hz2⟩ := info_parts Try.infoU8
  rcases A1 with _ | ad
  · have hc := hA rfl
    subst hc
    have hxs := hb.none_
    subst hxs
    obtain rfl : m = 0 := by simpa using hl.symm
    have hrun := run_append_owned_none (P := Try.prog) (w := w) 0 26 o.type 5 i0 1 Try.underlying26 hi0 (.slice A n cap) n (bv l) hown
    have h1 := h A cap w (by rw [List.append_nil, Nat.add_zero]; exact hown) (Only.refl _ _) (NewOr.refl _ _)
    rw [Nat.add_zero] at h1
    unfold Oper.wp
    simp [execOp, ho, resolve, invoke, builtin, hs, hx, hrun, Result.andThen]
    exact h1
  · obtain ⟨v', w', hr, h2, h3, _, h5⟩ := run_append_own_at (P := Try.prog) w 0 26 o.type 5 i0 (.int .u8 0) 1 1 Try.underlying26 hi0 hz0 hz1 hz2 rfl (by omega) (.slice A n cap) n (bv l) hown ad m c (bv xs) (by simp [hl]) (fun j u hu => by
      obtain ⟨ad', e, h'⟩ := hb.src (by have := (List.getElem?_eq_some_iff.1 hu).1; omega)
      cases e
      exact h' j u hu) (bv_one xs) (by unfold maxLen; omega) (by omega) (Nat.zero_le _)
    unfold Oper.wp execOp
    simp only [ho, resolve, invoke, builtin, Sem.run_bind, Sem.run_pure, Result.andThen_ok, List.map_toArray, List.map_cons, List.map_nil, hs, hx, hr]
    obtain ⟨A', cap', rfl⟩ := own_value h2
    rw [ownBlock_slice, ownBlock_slice] at h5
    rw [ownBlock_slice] at h3
    refine h A' cap' w' (by unfold Own8; rw [bv_append]; exact h2) (Only.ofGrown h3) ?_
    rcases h5 with e | e
    · exact .inl e
    · exact .inr ⟨_, e, Nat.le_refl _⟩
end Go.Proofs.Ytmkkhknbokfciaa
/-
  Plain numbers as bytes: wide and short ones, and how short ones are read. Nothing here speaks of a program.
-/
namespace Go.Proofs.Ytmkkhknbokfciaa

/-- The lowest n bytes of x, the lowest first. -/
def wideL (x : Nat) : Nat → List UInt8
  | 0 => []
  | n + 1 => wideL x n ++ [UInt8.ofNat (x / 256 ^ n % 256)]
theorem wideL_length (x n : Nat) : (wideL x n).length = n := by
  induction n with
  | zero => rfl
  | succ n ih => simp [wideL, ih]
/-- A short number. -/
def shortL (x : Nat) : List UInt8 := if x < 128 then [UInt8.ofNat x] else UInt8.ofNat (x % 128 + 128) :: shortL (x / 128)
termination_by x
decreasing_by omega
theorem shortL_last {x : Nat} (h : x < 128) : shortL x = [UInt8.ofNat x] := by rw [shortL, if_pos h]
theorem shortL_more {x : Nat} (h : ¬ x < 128) : shortL x = UInt8.ofNat (x % 128 + 128) :: shortL (x / 128) := by rw [shortL, if_neg h]
theorem shortL_pos (x : Nat) : 0 < (shortL x).length := by
  by_cases h : x < 128
  · rw [shortL_last h]; simp
  · rw [shortL_more h]; simp
theorem shortL_le (k x : Nat) (h : x < 128 ^ (k + 1)) : (shortL x).length ≤ k + 1 := by
  induction k generalizing x with
  | zero => rw [shortL_last (by simpa using h)]; simp
  | succ k ih =>
    by_cases h1 : x < 128
    · rw [shortL_last h1]; simp
    · rw [shortL_more h1]
      have := ih (x / 128) (by rw [Nat.pow_succ] at h; omega)
      simp; omega
theorem shortL_ten {x : Nat} (h : x < 18446744073709551616) : (shortL x).length ≤ 10 := shortL_le 9 x (by omega)
def shortsL (l : List Nat) : List UInt8 := (l.map shortL).flatten
theorem shortsL_take (l : List Nat) (k : Nat) (hk : k < l.length) : shortsL (l.take (k + 1)) = shortsL (l.take k) ++ shortL (l.getD k 0) := by
  unfold shortsL
  rw [List.take_add_one, List.getElem?_eq_getElem hk, List.map_append, List.flatten_append]
  simp [List.getD, hk]
theorem shortsL_le (l : List Nat) (h : ∀ x ∈ l, x < 18446744073709551616) : (shortsL l).length ≤ 10 * l.length := by
  induction l with
  | nil => simp [shortsL]
  | cons x l ih =>
    have h1 := ih fun y hy => h y (by simp [hy])
    have h2 := shortL_ten (h x (by simp))
    simp only [shortsL, List.map_cons, List.flatten_cons, List.length_append, List.length_cons] at h1 ⊢
    omega
end Go.Proofs.Ytmkkhknbokfciaa
/-
  How short numbers are read. Nothing here speaks of a program.
-/
namespace Go.Proofs.Ytmkkhknbokfciaa
/-- A short number read from place i on, x being what was read so far: its worth, and how many bytes it has. -/
def scan : List UInt8 → Nat → Nat → Option (Nat × Nat)
  | [], _, _ => none
  | b :: r, i, x =>
    if 18446744073709551616 ≤ b.toNat % 128 * 2 ^ (7 * i) then none
    else if 128 ≤ b.toNat then scan r (i + 1) (x + b.toNat % 128 * 2 ^ (7 * i))
    else if b.toNat = 0 ∧ 0 < i then none
    else some (x + b.toNat % 128 * 2 ^ (7 * i), i + 1)
/-- The short number in front: its worth, and how many bytes it has; noughts where there is none. -/
def parse (l : List UInt8) : Nat × Nat := (scan l 0 0).getD (0, 0)
theorem scan_le {l : List UInt8} {i x y n : Nat} (h : scan l i x = some (y, n)) : i < n ∧ n ≤ i + l.length := by
  induction l generalizing i x with
  | nil => cases h
  | cons b r ih =>
    rw [scan] at h
    split at h
    · cases h
    · split at h
      · have := ih h
        simp only [List.length_cons]
        omega
      · split at h
        · cases h
        · cases h
          simp
theorem parse_le (l : List UInt8) : (parse l).2 ≤ l.length := by
  unfold parse
  cases h : scan l 0 0 with
  | none => simp
  | some p =>
    obtain ⟨y, n⟩ := p
    have := scan_le h
    simp
    omega
theorem scan_lt {l : List UInt8} {i x y n : Nat} (hx : x < 2 ^ (7 * i)) (hx2 : x < 18446744073709551616) (h : scan l i x = some (y, n)) : y < 18446744073709551616 := by
  induction l generalizing i x with
  | nil => cases h
  | cons b r ih =>
    rw [scan] at h
    split at h
    · cases h
    · rename_i hf
      have hb : x + b.toNat % 128 * 2 ^ (7 * i) < 2 ^ (7 * (i + 1)) ∧ x + b.toNat % 128 * 2 ^ (7 * i) < 18446744073709551616 := by
        have h1 : (b.toNat % 128 + 1) * 2 ^ (7 * i) ≤ 128 * 2 ^ (7 * i) := Nat.mul_le_mul_right _ (by omega)
        rw [Nat.add_mul] at h1
        have e : 2 ^ (7 * (i + 1)) = 128 * 2 ^ (7 * i) := by rw [Nat.mul_add, Nat.pow_add, Nat.mul_comm]
        refine ⟨by rw [e]; omega, ?_⟩
        have e2 : x + b.toNat % 128 * 2 ^ (7 * i) = x ||| (b.toNat % 128 * 2 ^ (7 * i)) := by
          rw [Nat.mul_comm, Nat.or_comm, ← Nat.two_pow_add_eq_or_of_lt hx, Nat.add_comm]
        rw [e2]
        exact Nat.or_lt_two_pow (n := 64) hx2 (by omega)
      split at h
      · exact ih hb.1 hb.2 h
      · split at h
        · cases h
        · cases h
          exact hb.2
theorem parse_lt (l : List UInt8) : (parse l).1 < 18446744073709551616 := by
  unfold parse
  cases h : scan l 0 0 with
  | none => simp
  | some p =>
    obtain ⟨y, n⟩ := p
    exact scan_lt (by decide) (by decide) h
/-- The first k bytes of a row, as a number, the lowest first. -/
def numLE (l : List UInt8) : Nat → Nat
  | 0 => 0
  | k + 1 => numLE l k + (l.getD k 0).toNat * 2 ^ (8 * k)
theorem numLE_lt (l : List UInt8) (k : Nat) : numLE l k < 2 ^ (8 * k) := by
  induction k with
  | zero => simp [numLE]
  | succ k ih =>
    have h := (l.getD k 0).toNat_lt
    have h1 : ((l.getD k 0).toNat + 1) * 2 ^ (8 * k) ≤ 256 * 2 ^ (8 * k) := Nat.mul_le_mul_right _ (by omega)
    rw [numLE, show 8 * (k + 1) = 8 + 8 * k by omega, Nat.pow_add]
    rw [Nat.add_mul] at h1
    omega

/-! A Reader: what is left, and whether there was a fault. -/
structure RS where
  l : List UInt8
  bad : Bool
deriving DecidableEq
def rUint (s : RS) : Nat × RS := if s.bad = true ∨ (parse s.l).2 = 0 then (0, ⟨s.l, true⟩) else ((parse s.l).1, ⟨s.l.drop (parse s.l).2, false⟩)
def rRaw (s : RS) (n : Int) : List UInt8 × RS := if s.bad = true ∨ n < 0 ∨ (s.l.length : Int) < n then ([], ⟨s.l, true⟩) else (s.l.take n.toNat, ⟨s.l.drop n.toNat, false⟩)
def rText (s : RS) (most : Int) : List UInt8 × RS :=
  if s.bad = true ∨ (parse s.l).2 = 0 ∨ most < 0 ∨ most < ((parse s.l).1 : Int) ∨ s.l.length < (parse s.l).2 + (parse s.l).1 then ([], ⟨s.l, true⟩)
  else ((s.l.drop (parse s.l).2).take (parse s.l).1, ⟨s.l.drop ((parse s.l).2 + (parse s.l).1), false⟩)
def rWide (s : RS) (n : Nat) : Nat × RS := if s.bad = true ∨ s.l.length < n then (0, ⟨s.l, true⟩) else (numLE (s.l.take n) n, ⟨s.l.drop n, false⟩)
def rEnd (s : RS) : RS := ⟨s.l, s.bad || !s.l.isEmpty⟩
theorem rWide_lt (s : RS) (n : Nat) : (rWide s n).1 < 2 ^ (8 * n) := by
  unfold rWide
  split
  · exact Nat.two_pow_pos _
  · exact numLE_lt _ _
end Go.Proofs.Ytmkkhknbokfciaa
/-
  Short numbers have one form: what was written is read; what is read would be written; no beginning is one; unlike rows are apart. Nothing here speaks of a program.
-/
namespace Go.Proofs.Ytmkkhknbokfciaa

theorem toNat_lo {x : Nat} (h : x < 256) : (UInt8.ofNat x).toNat = x := by rw [UInt8.toNat_ofNat']; omega
theorem pow_next (i : Nat) : 2 ^ (7 * (i + 1)) = 128 * 2 ^ (7 * i) := by rw [Nat.mul_add, Nat.pow_add, Nat.mul_comm]
theorem split128 (x p : Nat) : x % 128 * p + x / 128 * (128 * p) = x * p := by
  have h : x / 128 * (128 * p) = (128 * (x / 128)) * p := by rw [Nat.mul_comm 128 (x / 128), Nat.mul_assoc]
  rw [h, ← Nat.add_mul]
  congr 1
  omega
theorem scan_short (x : Nat) : ∀ (i y : Nat) (r : List UInt8), x * 2 ^ (7 * i) < 18446744073709551616 → (0 < i → 0 < x) → scan (shortL x ++ r) i y = some (y + x * 2 ^ (7 * i), i + (shortL x).length) := by
  induction x using Nat.strongRecOn with
  | _ x ih =>
    intro i y r hf hp
    by_cases h : x < 128
    · rw [shortL_last h]
      rw [List.singleton_append, scan, toNat_lo (by omega), Nat.mod_eq_of_lt h, if_neg (by omega), if_neg (by omega), if_neg (by omega)]
      rfl
    · rw [shortL_more h, List.cons_append, scan, toNat_lo (by omega), show (x % 128 + 128) % 128 = x % 128 by omega]
      have hs := split128 x (2 ^ (7 * i))
      have hq := ih (x / 128) (by omega) (i + 1) (y + x % 128 * 2 ^ (7 * i)) r (by rw [pow_next]; omega) (fun _ => by omega)
      rw [if_neg (by omega), if_pos (by omega), hq, pow_next]
      simp only [List.length_cons, Option.some.injEq, Prod.mk.injEq]
      omega
theorem parse_short {x : Nat} (h : x < 18446744073709551616) (r : List UInt8) : parse (shortL x ++ r) = (x, (shortL x).length) := by
  unfold parse
  rw [scan_short x 0 0 r (by simpa using h) (fun h => absurd h (by omega))]
  simp
theorem scan_form : ∀ (l : List UInt8) (i y z n : Nat), scan l i y = some (z, n) → ∃ x, z = y + x * 2 ^ (7 * i) ∧ (0 < i → 0 < x) ∧ n = i + (shortL x).length ∧ l.take (shortL x).length = shortL x
  | [], _, _, _, _, h => by cases h
  | b :: r, i, y, z, n, h => by
    have hb := b.toNat_lt
    rw [scan] at h
    split at h
    · cases h
    · split at h
      · rename_i hm
        obtain ⟨x, h1, h2, h3, h4⟩ := scan_form r (i + 1) _ z n h
        have hx := h2 (by omega)
        refine ⟨b.toNat % 128 + 128 * x, ?_, fun _ => by omega, ?_, ?_⟩
        · rw [h1, pow_next, Nat.add_mul]
          have : x * (128 * 2 ^ (7 * i)) = 128 * x * 2 ^ (7 * i) := by rw [Nat.mul_comm 128 x, Nat.mul_assoc]
          omega
        · rw [shortL_more (by omega), show (b.toNat % 128 + 128 * x) / 128 = x by omega, List.length_cons]
          omega
        · rw [shortL_more (by omega), show (b.toNat % 128 + 128 * x) / 128 = x by omega, List.length_cons, List.take_succ_cons, h4]
          congr 1
          rw [show (b.toNat % 128 + 128 * x) % 128 + 128 = b.toNat by omega]
          simp
      · split at h
        · cases h
        · rename_i hm h0
          cases h
          refine ⟨b.toNat, by rw [Nat.mod_eq_of_lt (by omega)], fun hi => by omega, ?_, ?_⟩
          · rw [shortL_last (by omega)]; rfl
          · rw [shortL_last (by omega)]
            simp
/-- What is read has one form. -/
theorem parse_form (l : List UInt8) (h : (parse l).2 ≠ 0) : (parse l).2 = (shortL (parse l).1).length ∧ l.take (parse l).2 = shortL (parse l).1 := by
  unfold parse at *
  cases hs : scan l 0 0 with
  | none => rw [hs] at h; exact absurd rfl h
  | some p =>
    obtain ⟨z, n⟩ := p
    obtain ⟨x, h1, _, h3, h4⟩ := scan_form l 0 0 z n hs
    have hz : z = x := by simpa using h1
    subst hz
    have hn : n = (shortL z).length := by simpa using h3
    subst hn
    exact ⟨rfl, h4⟩
theorem scan_highs : ∀ (l : List UInt8) (i y : Nat), (∀ b ∈ l, 128 ≤ b.toNat) → scan l i y = none
  | [], _, _, _ => rfl
  | b :: r, i, y, h => by
    rw [scan]
    split
    · rfl
    · rw [if_pos (h b (by simp))]
      exact scan_highs r _ _ fun c hc => h c (by simp [hc])
theorem shortL_highs (x : Nat) : ∀ k, k < (shortL x).length → ∀ b ∈ (shortL x).take k, 128 ≤ b.toNat := by
  induction x using Nat.strongRecOn with
  | _ x ih =>
    intro k hk b hb
    by_cases h : x < 128
    · rw [shortL_last h] at hk hb
      have : k = 0 := by simpa using hk
      subst this
      simp at hb
    · rw [shortL_more h] at hk hb
      cases k with
      | zero => simp at hb
      | succ k =>
        rw [List.take_succ_cons] at hb
        rcases List.mem_cons.1 hb with rfl | hb
        · rw [toNat_lo (by omega)]; omega
        · exact ih (x / 128) (by omega) k (by simpa using hk) b hb
/-- No beginning of a short number is one. -/
theorem parse_cut (x k : Nat) (hk : k < (shortL x).length) : parse ((shortL x).take k) = (0, 0) := by
  unfold parse
  rw [scan_highs _ _ _ (shortL_highs x k hk)]
  rfl

/-! Rows of numbers. -/
theorem shortsL_append (a b : List Nat) : shortsL (a ++ b) = shortsL a ++ shortsL b := by simp [shortsL]
theorem shortsL_cons (x : Nat) (l : List Nat) : shortsL (x :: l) = shortL x ++ shortsL l := by simp [shortsL]
theorem apart_heads {x y : Nat} (hx : x < 18446744073709551616) (hy : y < 18446744073709551616) (hne : x ≠ y) (r s t : List UInt8) : shortL x ++ r ≠ (shortL y ++ s) ++ t := by
  intro e
  have h1 := parse_short hx r
  rw [e, List.append_assoc, parse_short hy] at h1
  simp only [Prod.mk.injEq] at h1
  exact hne h1.1.symm
theorem take_min_eq {a b : List UInt8} (h : a.take (min a.length b.length) = b.take (min a.length b.length)) : (∃ t, b = a ++ t) ∨ ∃ t, a = b ++ t := by
  rcases Nat.le_total a.length b.length with hl | hl
  · rw [Nat.min_eq_left hl, List.take_length] at h
    exact .inl ⟨b.drop a.length, (List.take_append_drop a.length b).symm.trans (by rw [← h])⟩
  · rw [Nat.min_eq_right hl, List.take_length] at h
    exact .inr ⟨a.drop b.length, by rw [← h]; rw [List.length_take, Nat.min_eq_left hl, List.take_append_drop]⟩
/-- Behind what is alike, unlike numbers: neither row's bytes are a beginning of the other's. -/
theorem rows_apart {l m : List Nat} {k : Nat} (hl : ∀ x ∈ l, x < 18446744073709551616) (hm : ∀ x ∈ m, x < 18446744073709551616) (hk : l.take k = m.take k) (h1 : k < l.length) (h2 : k < m.length) (hne : l.getD k 0 ≠ m.getD k 0) :
    ¬ (shortsL l).take (min (shortsL l).length (shortsL m).length) = (shortsL m).take (min (shortsL l).length (shortsL m).length) := by
  have e1 : l = l.take k ++ l.getD k 0 :: l.drop (k + 1) := by
    rw [show l.getD k 0 = l[k] by simp [List.getD, h1], ← List.drop_eq_getElem_cons h1, List.take_append_drop]
  have e2 : m = l.take k ++ m.getD k 0 :: m.drop (k + 1) := by
    rw [hk, show m.getD k 0 = m[k] by simp [List.getD, h2], ← List.drop_eq_getElem_cons h2, List.take_append_drop]
  have hx : l.getD k 0 < 18446744073709551616 := hl _ (by rw [show l.getD k 0 = l[k] by simp [List.getD, h1]]; exact List.getElem_mem h1)
  have hy : m.getD k 0 < 18446744073709551616 := hm _ (by rw [show m.getD k 0 = m[k] by simp [List.getD, h2]]; exact List.getElem_mem h2)
  generalize l.getD k 0 = x at *
  generalize m.getD k 0 = y at *
  generalize l.take k = c at *
  generalize l.drop (k + 1) = r at *
  generalize m.drop (k + 1) = s at *
  subst e1
  subst e2
  intro h
  rw [shortsL_append, shortsL_append, shortsL_cons, shortsL_cons] at h
  rcases take_min_eq h with ⟨t, ht⟩ | ⟨t, ht⟩
  · rw [List.append_assoc] at ht
    exact apart_heads hy hx (Ne.symm hne) _ _ t (List.append_cancel_left ht)
  · rw [List.append_assoc] at ht
    exact apart_heads hx hy hne _ _ t (List.append_cancel_left ht)
theorem shortsL_pos {l : List Nat} (h : l ≠ []) : 0 < (shortsL l).length := by
  cases l with
  | nil => exact absurd rfl h
  | cons x l =>
    rw [shortsL_cons, List.length_append]
    have := shortL_pos x
    omega
theorem shortsL_front (l : List Nat) (k : Nat) : (shortsL l).take (shortsL (l.take k)).length = shortsL (l.take k) ∧ (shortsL (l.take k)).length ≤ (shortsL l).length := by
  have e : shortsL l = shortsL (l.take k) ++ shortsL (l.drop k) := by rw [← shortsL_append, List.take_append_drop]
  constructor
  · rw [e]; exact List.take_left
  · rw [e, List.length_append]; omega
/-- Unlike rows have unlike bytes. -/
theorem rows_eq {l m : List Nat} {k : Nat} (hl : ∀ x ∈ l, x < 18446744073709551616) (hm : ∀ x ∈ m, x < 18446744073709551616) (hk : l.take k = m.take k) (hk1 : k ≤ l.length) (hk2 : k ≤ m.length) (hne : k < l.length → k < m.length → l.getD k 0 ≠ m.getD k 0) :
    (l.length = k ∧ m.length = k) ↔ shortsL l = shortsL m := by
  constructor
  · rintro ⟨h1, h2⟩
    have e1 : l.take k = l := List.take_of_length_le (by omega)
    have e2 : m.take k = m := List.take_of_length_le (by omega)
    rw [← e1, ← e2, hk]
  · intro e
    by_cases h1 : k < l.length
    · by_cases h2 : k < m.length
      · exact absurd (by rw [e]) (rows_apart hl hm hk h1 h2 (hne h1 h2))
      · have e2 : m.take k = m := List.take_of_length_le (by omega)
        have e3 : shortsL l = shortsL m ++ shortsL (l.drop k) := by rw [← e2, ← hk, ← shortsL_append, List.take_append_drop]
        have h4 := shortsL_pos (l := l.drop k) (by intro h; have := congrArg List.length h; rw [List.length_drop] at this; simp at this; omega)
        have := congrArg List.length e
        rw [e3, List.length_append] at this
        omega
    · by_cases h2 : k < m.length
      · have e1 : l.take k = l := List.take_of_length_le (by omega)
        have e3 : shortsL m = shortsL l ++ shortsL (m.drop k) := by rw [← e1, hk, ← shortsL_append, List.take_append_drop]
        have h4 := shortsL_pos (l := m.drop k) (by intro h; have := congrArg List.length h; rw [List.length_drop] at this; simp at this; omega)
        have := congrArg List.length e
        rw [e3, List.length_append] at this
        omega
      · omega
end Go.Proofs.Ytmkkhknbokfciaa
/-
  What a Writer's calls do: each lays its bytes behind what was there, and turns nothing else; Bytes makes new memory. For at most 2^46 bytes.
-/
namespace Go.Proofs.Ytmkkhknbokfciaa
open Go.RowKit

theorem frozen_plain {w : World} {b : Nat} {cs : Array Value} {t : TypeId} (h : w.heap[b]? = some (.cells cs t (0, 0))) (k : Nat) : w.frozen? ⟨b, k, none⟩ = false := by
  simp [World.frozen?, h]
theorem cell_plain {w : World} {b : Nat} {cs : Array Value} {t : TypeId} (h : w.heap[b]? = some (.cells cs t (0, 0))) (k : Nat) : w.cell? ⟨b, k, none⟩ = cs[k]? := cell_of_row w b k cs t (0, 0) h
/-- A block of one cell, stored into. -/
theorem block_set1 {w : World} {b : Nat} {v u : Value} {t : TypeId} (h : w.heap[b]? = some (.cells #[v] t (0, 0))) : (w.setCell ⟨b, 0, none⟩ u).heap[b]? = some (.cells #[u] t (0, 0)) := by
  simp [World.setCell, Array.getElem?_modify, h]

end Go.Proofs.Ytmkkhknbokfciaa
/-
  What a Writer's calls do, all of them: the document's bytes, behind what was there; Bytes in new memory. For at most 2^46 bytes.
-/
namespace Go.Proofs.Ytmkkhknbokfciaa
open Go.RowKit

theorem byte_lo (x : Nat) : (x : Int) % 256 = (((UInt8.ofNat x).toNat : Nat) : Int) := by simp [UInt8.toNat_ofNat']
theorem pow256 (i : Nat) : (2 : Int) ^ (8 * i) = ((256 ^ i : Nat) : Int) := by
  have h : (2 : Nat) ^ (8 * i) = 256 ^ i := by rw [Nat.pow_mul]
  rw [← h]
  simp
theorem byte_at (x i : Nat) : (x : Int) / 2 ^ (8 * i) % 256 = (((UInt8.ofNat (x / 256 ^ i % 256)).toNat : Nat) : Int) := by
  rw [pow256]
  simp only [UInt8.toNat_ofNat']
  omega

/-- The byte of a group that is not the last, in the walk's own spelling. -/
theorem group_byte (x : Nat) : bits .or .u8 ((x : Int) % 256) 128 = (((UInt8.ofNat (x % 128 + 128)).toNat : Nat) : Int) := by
  have h := u8_or_nat (x % 256) 128 (by omega) (by omega)
  have d : ∀ y < 256, y ||| 128 = y % 128 + 128 := by decide +kernel
  rw [d _ (by omega)] at h
  rw [Int.natCast_emod] at h
  simp only [UInt8.toNat_ofNat']
  rw [show ((256 : Nat) : Int) = 256 from rfl, show ((128 : Nat) : Int) = 128 from rfl] at h
  rw [h]
  omega
/-- A string's bytes. -/
def strL (s : ByteArray) : List UInt8 := s.data.toList
/-- '[]byte(s)': new memory. -/
theorem conv_bytes (s : ByteArray) (w : World) : ∃ W cap, Sem.run Try.prog (convert 9 26 (.string s)) w = .ok (.slice (some ⟨w.heap.size, 0, none⟩) s.size cap) W ∧
    Hid (Bytes W W.heap.size (some ⟨w.heap.size, 0, none⟩) (strL s)) ∧ Hid (Only (fun _ => False) w W) := by
  have C := run_bytes_of_string (P := Try.prog) w 9 26 5 s Try.underlying9 Try.underlying26 Try.underlying5
  refine ⟨_, _, C, Lib.hid fun hn => ⟨_, 0, rfl, by simp, fun k hk => ?_⟩, Lib.hid (((Only.refl _ _).drew).alloc _)⟩
  have h := World.cell?_alloc_mark w.drew (bytesRow s (grownCap w s.size 0 5)) 5 ((bytesRow s (grownCap w s.size 0 5)).size, (bytesRow s (grownCap w s.size 0 5)).size + 1) k
  rw [Nat.zero_add]
  refine Eq.trans h ?_
  have hk' : k < s.data.size := hk
  unfold bytesRow
  rw [Array.getElem?_append_left (by simpa using hk')]
  simp [at8, strL, List.getD, Array.getElem?_eq_getElem hk']
/-- What Bytes answers: new memory. -/
def BytesE (w : World) (l : List UInt8) (e : Ending) (w' : World) : Prop := ∃ A cap, e = .returned (.slice A l.length cap) ∧ Hid (Own8 w' w.heap.size A l.length cap l) ∧ Hid (Below w.heap.size w w')

set_option maxHeartbeats 400000 in
theorem clone_any (A : Option Addr) (l : List UInt8) (n cap B : Nat) (w : World) (hn : l.length = n) (hA : A = none → cap = 0) (hb : Bytes w B A l) (hB : B ≤ w.heap.size) (hr : n ≤ 70368744177664) :
    Calls Try.prog 32 #[.slice A n cap] w (BytesE w l) := by
  subst hn
  rcases A with _ | ad
  · obtain rfl := hA rfl
    obtain rfl := hb.none_
    have C := Lib.run_eql_slice_nil (P := Try.prog) w 26 5 none 0 0 0 0 Try.underlying26
    clear hb hA
    go_enter Try.func32, Try.ntmps32
    go_wp2
    go_ret
    exact ⟨none, 0, rfl, Own8.nil_, Below.refl _ _⟩
  · have C := Lib.run_eql_slice_nil (P := Try.prog) w 26 5 (some ad) l.length cap 0 0 Try.underlying26
    have C1 := Lib.hid (World.ownsRow_made (base := 0) (e := 5) (size := 1) w #[] 0 (Nat.zero_le _) (by unfold maxLen; omega) rfl)
    have C3 := Lib.hid (hb.alloc hB (.cells #[] 5))
    have HA := Lib.hid hA
    clear hb hA
    generalize hn : l.length = n at hr C ⊢
    have HN := Lib.hid hn
    clear hn
    go_enter Try.func32, Try.ntmps32
    go_wp2_with (at_builtin; refine wpList_append8 rfl (.tmp 5) (.tmp 6) rfl (some ⟨w.heap.size, 0, none⟩) 0 0 [] rfl C1.out (some ad) n cap B l rfl HN.out HA.out C3.out (by omega) ?_)
    intro A' cap' w1 hO1 ho1 hn1
    have hge := Lib.hid (hn1.out.ge (B := w.heap.size) (by simp) (fun k hk => by cases hk; exact Nat.le_refl _))
    clear C C1 C3
    go_wp2
    go_ret
    refine ⟨A', cap', by rw [HN.out]; simp, ?_, ?_⟩
    · rw [HN.out]
      have h1 : Own8 w1 0 A' n cap' l := by simpa using hO1.out
      refine ⟨h1.1, ?_⟩
      rcases h1.2 with h2 | ⟨g, c, cur, hv, hg, hrest⟩
      · exact .inl h2
      · have hv' : A' = some ⟨g, 0, none⟩ ∧ cap' = c := by simpa using hv
        exact .inr ⟨g, c, cur, hv, hge.out g (by rw [hv'.1]; rfl), hrest⟩
    · exact ho1.out.below ((Below.refl _ _).alloc (Nat.le_refl _) _) (fun k hk => by cases hk; exact Nat.le_refl _) (by simp)

/-- A slice's address under which the numbers ns lie, in a block below B. -/
def Nums (w : World) (B : Nat) (A : Option Addr) (ns : List Nat) : Prop :=
  0 < ns.length → ∃ b off, A = some ⟨b, off, none⟩ ∧ b < B ∧ ∀ k, k < ns.length → w.cell? ⟨b, off + k, none⟩ = some (.int .u64 ((ns.getD k 0 : Nat) : Int))
theorem Nums.keep {w w' : World} {B : Nat} {A : Option Addr} {ns : List Nat} (h : Nums w B A ns) (hk : ∀ b o, b < B → w'.cell? ⟨b, o, none⟩ = w.cell? ⟨b, o, none⟩) : Nums w' B A ns := fun hn => by
  obtain ⟨b, off, e, hb, hc⟩ := h hn
  exact ⟨b, off, e, hb, fun k hk' => (hk _ _ hb).trans (hc k hk')⟩
theorem Nums.below {w w' : World} {B : Nat} {A : Option Addr} {ns : List Nat} (h : Nums w B A ns) (hb : Below B w w') : Nums w' B A ns := h.keep fun b o hp => hb.cell (p := ⟨b, o, none⟩) hp
theorem Nums.more {w : World} {B B' : Nat} {A : Option Addr} {ns : List Nat} (h : Nums w B A ns) (hB : B ≤ B') : Nums w B' A ns := fun hn => by
  obtain ⟨b, off, e, hb, hc⟩ := h hn
  exact ⟨b, off, e, by omega, hc⟩
theorem getD_mem_lt {ns : List Nat} {M k : Nat} (h : ∀ x ∈ ns, x < M) (hk : k < ns.length) : ns.getD k 0 < M := by
  have := h ns[k] (List.getElem_mem hk)
  simpa [List.getD, hk] using this
def AllU64 (ns : List Nat) : Prop := ∀ x ∈ ns, x < 18446744073709551616

end Go.Proofs.Ytmkkhknbokfciaa
/-
  What a Reader's inner calls do: take, short, Err, Left, Fail, End. No condition but the Reader's own form.
-/
namespace Go.Proofs.Ytmkkhknbokfciaa
open Go.RowKit

/-- A slice of bytes that lie in a block of the program's own, with room behind them. -/
def Bts (w : World) (A : Option Addr) (cap : Nat) (l : List UInt8) : Prop :=
  l.length ≤ cap ∧ cap ≤ maxLen ∧ ((A = none ∧ cap = 0) ∨ ∃ b off cur, A = some ⟨b, off, none⟩ ∧ w.heap[b]? = some (.cells cur 5 (0, 0)) ∧ off + cap ≤ cur.size ∧ ∀ k, k < l.length → cur[off + k]? = some (.int .u8 ((at8 l k : Nat) : Int)))
theorem Bts.bytes {w : World} {A : Option Addr} {cap : Nat} {l : List UInt8} (h : Bts w A cap l) : Bytes w w.heap.size A l := fun hn => by
  rcases h.2.2 with ⟨_, hc⟩ | ⟨b, off, cur, rfl, hh, _, hc⟩
  · have := h.1; omega
  · exact ⟨b, off, rfl, lt_of_heap hh, fun k hk => (cell_plain hh _).trans (hc k hk)⟩
theorem Bts.none_cap {w : World} {A : Option Addr} {cap : Nat} {l : List UInt8} (h : Bts w A cap l) (hA : A = none) : cap = 0 := by
  rcases h.2.2 with ⟨_, hc⟩ | ⟨b, off, cur, rfl, _⟩
  · exact hc
  · cases hA
theorem Bts.keep {w w' : World} {A : Option Addr} {cap : Nat} {l : List UInt8} {S : Nat → Prop} (h : Bts w A cap l) (ho : Only S w w') (hn : ∀ k, blockOf A = some k → ¬ S k) : Bts w' A cap l := by
  refine ⟨h.1, h.2.1, ?_⟩
  rcases h.2.2 with h1 | ⟨b, off, cur, e, hh, hs, hc⟩
  · exact .inl h1
  · exact .inr ⟨b, off, cur, e, (ho.block b (lt_of_heap hh) (hn b (by rw [e]; rfl))).trans hh, hs, hc⟩
theorem Own8.bts {w : World} {base n cap : Nat} {A : Option Addr} {l : List UInt8} (h : Own8 w base A n cap l) : Bts w A cap l := by
  have hl := h.len
  refine ⟨by have := h.cap_le; omega, h.cap_max, ?_⟩
  rcases h.form8 with rfl | ⟨g, rfl⟩
  · exact .inl ⟨rfl, h.none_cap rfl⟩
  · obtain ⟨-, cur, hh, hs, hnc, ht⟩ := h.block (g := g) rfl
    refine .inr ⟨g, 0, cur, rfl, hh, by omega, fun k hk => ?_⟩
    have h1 := bv_get hk
    rw [← ht, List.getElem?_take, if_pos (by omega)] at h1
    rw [Nat.zero_add]
    simpa using h1
theorem at8_take {l : List UInt8} {n k : Nat} (h : k < n) : at8 (l.take n) k = at8 l k := by
  simp [at8, List.getD, h]
theorem at8_drop {l : List UInt8} {n k : Nat} : at8 (l.drop n) k = at8 l (n + k) := by
  simp [at8, List.getD, List.getElem?_drop]
theorem Bts.front {w : World} {A : Option Addr} {cap : Nat} {l : List UInt8} (h : Bts w A cap l) (n : Nat) (hn : n ≤ l.length) : Bts w A n (l.take n) := by
  refine ⟨by rw [List.length_take]; omega, by have := h.1; have := h.2.1; omega, ?_⟩
  rcases h.2.2 with ⟨h1, h2⟩ | ⟨b, off, cur, e, hh, hs, hc⟩
  · exact .inl ⟨h1, by have := h.1; omega⟩
  · refine .inr ⟨b, off, cur, e, hh, by have := h.1; omega, fun k hk => ?_⟩
    rw [List.length_take] at hk
    rw [hc k (by omega), at8_take (by omega)]
/-- Where what is behind the first n begins. -/
def behind (A : Option Addr) (cap n : Nat) : Option Addr := if cap = n then A else A.map (·.add n)
theorem behind_block {A : Option Addr} {cap n : Nat} : blockOf (behind A cap n) = blockOf A := by
  unfold behind
  split
  · rfl
  · cases A with
    | none => rfl
    | some a => obtain ⟨b, off, s⟩ := a; simp [blockOf, Addr.add]; split <;> rfl
theorem Bts.back {w : World} {A : Option Addr} {cap : Nat} {l : List UInt8} (h : Bts w A cap l) (n : Nat) (hn : n ≤ l.length) : Bts w (behind A cap n) (cap - n) (l.drop n) := by
  have h0 := h.1
  refine ⟨by rw [List.length_drop]; omega, by have := h.2.1; omega, ?_⟩
  rcases h.2.2 with ⟨h1, h2⟩ | ⟨b, off, cur, rfl, hh, hs, hc⟩
  · subst h1 h2
    exact .inl ⟨by unfold behind; split <;> rfl, by omega⟩
  · by_cases hcn : cap = n
    · refine .inr ⟨b, off, cur, by unfold behind; rw [if_pos hcn], hh, by omega, fun k hk => ?_⟩
      rw [List.length_drop] at hk; omega
    · refine .inr ⟨b, off + n, cur, by unfold behind; rw [if_neg hcn]; simp [add_mk], hh, by omega, fun k hk => ?_⟩
      rw [List.length_drop] at hk
      rw [Nat.add_assoc, hc (n + k) (by omega), at8_drop]

/-- A struct of what is left and whether there was a fault, in block q. -/
def Rd (T : TypeId) (w : World) (q : Nat) (d : Option Nat) (l : List UInt8) (bad : Bool) : Prop :=
  ∃ A cap, w.heap[q]? = some (.cells #[.slice A l.length cap, .bool bad] T (0, 0)) ∧ Bts w A cap l ∧ blockOf A = d
section
variable {T : TypeId} {w w' : World} {q : Nat} {d : Option Nat} {l : List UInt8} {bad : Bool}
theorem Rd.lt (h : Rd T w q d l bad) : q < w.heap.size := by
  obtain ⟨A, cap, h1, _⟩ := h
  exact lt_of_heap h1
theorem Rd.ne (h : Rd T w q d l bad) (hT : T ≠ 5) : d ≠ some q := by
  obtain ⟨A, cap, h1, h2, h3⟩ := h
  intro e
  rw [e] at h3
  rcases h2.2.2 with ⟨rfl, _⟩ | ⟨b, off, cur, rfl, hh, _⟩
  · cases h3
  · cases h3
    rw [h1] at hh
    simp at hh
    exact hT hh.2
theorem Rd.dlt (h : Rd T w q d l bad) : ∀ k, d = some k → k < w.heap.size := by
  obtain ⟨A, cap, h1, h2, h3⟩ := h
  intro k e
  rw [e] at h3
  rcases h2.2.2 with ⟨rfl, _⟩ | ⟨b, off, cur, rfl, hh, _⟩
  · cases h3
  · cases h3
    exact lt_of_heap hh
theorem Rd.keep {S : Nat → Prop} (h : Rd T w q d l bad) (ho : Only S w w') (h1 : ¬ S q) (h2 : ∀ k, d = some k → ¬ S k) : Rd T w' q d l bad := by
  have hlt := h.lt
  obtain ⟨A, cap, e, hb, hd⟩ := h
  exact ⟨A, cap, (ho.block q hlt h1).trans e, hb.keep ho fun k hk => h2 k (hd.symm.trans hk), hd⟩
end
theorem block_set2 {w : World} {b : Nat} {v0 v1 u : Value} {t : TypeId} (h : w.heap[b]? = some (.cells #[v0, v1] t (0, 0))) : (w.setCell ⟨b, 0, none⟩ u).heap[b]? = some (.cells #[u, v1] t (0, 0)) := by
  simp [World.setCell, Array.getElem?_modify, h]
theorem block_set2' {w : World} {b : Nat} {v0 v1 u : Value} {t : TypeId} (h : w.heap[b]? = some (.cells #[v0, v1] t (0, 0))) : (w.setCell ⟨b, 1, none⟩ u).heap[b]? = some (.cells #[v0, u] t (0, 0)) := by
  simp [World.setCell, Array.getElem?_modify, h]

/-! The Reader's calls that look alone, and Fail. -/
def errOf (bad : Bool) : Int := if bad then 3 else 0
/-! take, over either package's struct (T). -/
def TookE (T : TypeId) (w : World) (q : Nat) (d : Option Nat) (l : List UInt8) (bad : Bool) (n : Nat) (e : Ending) (w' : World) : Prop :=
  ∃ A, e = .returned (.slice A n n) ∧ Hid (Rd T w' q d (l.drop n) bad) ∧ Hid (Bts w' A n (l.take n)) ∧ Hid (blockOf A = d) ∧ Hid (Only (fun k => k = q) w w')
theorem took_of {T : TypeId} {w : World} {q : Nat} {d : Option Nat} {l : List UInt8} {bad : Bool} {A : Option Addr} {cap m : Nat} (hT : T ≠ 5) (n : Nat) (h1 : w.heap[q]? = some (.cells #[.slice A m cap, .bool bad] T (0, 0))) (h2 : Bts w A cap l) (h3 : blockOf A = d) (hl : l.length = m) (hn : n ≤ m) :
    TookE T w q d l bad n (.returned (.slice A n n)) (w.setCell ⟨q, 0, none⟩ (.slice (behind A cap n) (m - n) (cap - n))) := by
  have hne : d ≠ some q := (show Rd T w q d l bad from ⟨A, cap, by rw [hl]; exact h1, h2, h3⟩).ne hT
  have ho : Only (fun k => k = q) w (w.setCell ⟨q, 0, none⟩ (.slice (behind A cap n) (m - n) (cap - n))) := (Only.refl (fun k => k = q) w).setCell (p := ⟨q, 0, none⟩) (.inl rfl) _
  have hk : ∀ k, blockOf A = some k → ¬ k = q := fun k hk e => by subst e; exact hne (h3.symm.trans hk)
  refine ⟨A, rfl, ⟨behind A cap n, cap - n, ?_, ?_, ?_⟩, ?_, h3, ho⟩
  · rw [List.length_drop, hl]
    exact block_set2 h1
  · exact (h2.back n (by omega)).keep ho (fun k e => hk k (by rw [← behind_block (cap := cap) (n := n)]; exact e))
  · rw [behind_block]; exact h3
  · exact (h2.front n (by omega)).keep ho hk
def FaultE (T : TypeId) (w : World) (q : Nat) (d : Option Nat) (l : List UInt8) (v : Value) (e : Ending) (w' : World) : Prop :=
  e = .returned v ∧ Hid (Rd T w' q d l true) ∧ Hid (Only (fun k => k = q) w w')
theorem fault_of {T : TypeId} {w : World} {q : Nat} {d : Option Nat} {l : List UInt8} {bad : Bool} {A : Option Addr} {cap : Nat} (hT : T ≠ 5) (h1 : w.heap[q]? = some (.cells #[.slice A l.length cap, .bool bad] T (0, 0))) (h2 : Bts w A cap l) (h3 : blockOf A = d) (v : Value) :
    FaultE T w q d l v (.returned v) (w.setCell ⟨q, 1, none⟩ (.bool true)) := by
  have hne : d ≠ some q := (show Rd T w q d l bad from ⟨A, cap, h1, h2, h3⟩).ne hT
  have ho : Only (fun k => k = q) w (w.setCell ⟨q, 1, none⟩ (.bool true)) := (Only.refl (fun k => k = q) w).setCell (p := ⟨q, 1, none⟩) (.inl rfl) _
  exact ⟨rfl, ⟨A, cap, block_set2' h1, h2.keep ho (fun k hk e => by subst e; exact hne (h3.symm.trans hk)), h3⟩, ho⟩
end Go.Proofs.Ytmkkhknbokfciaa
/-
  What a Reader's look at the short number in front does: it tells its worth and its groups, or noughts; it leaves all as it was. For at most 2^46 bytes.
-/
namespace Go.Proofs.Ytmkkhknbokfciaa
open Go.RowKit

theorem or_place {n x k : Nat} (h : n < 2 ^ k) : n ||| (x * 2 ^ k) = n + x * 2 ^ k := by
  rw [Nat.mul_comm, Nat.or_comm, ← Nat.two_pow_add_eq_or_of_lt h, Nat.add_comm]
theorem low7 (b : Nat) (hb : b < 256) : bits .andNot .u8 (b : Int) 128 = ((b % 128 : Nat) : Int) := by
  have h := u8_andNot_nat b 128 hb (by omega)
  rw [show 255 - 128 = 2 ^ 7 - 1 from rfl, Nat.and_two_pow_sub_one_eq_mod] at h
  exact h
theorem drop_cons_at {l : List UInt8} {i : Nat} (h : i < l.length) : l.drop i = l.getD i 0 :: l.drop (i + 1) := by
  rw [List.drop_eq_getElem_cons h]
  simp [List.getD, h]
/-- What one round makes of the shift there and back, in the walk's own spelling. -/
theorem fits_yes (g k : Nat) (h : g * 2 ^ (7 * k) < 18446744073709551616) :
    Op.shift .shl .u64 (g : Int) .i64 (7 * (k : Int)) = pure (.int .u64 ((g * 2 ^ (7 * k) : Nat) : Int)) ∧ Op.shift .shr .u64 ((g * 2 ^ (7 * k) : Nat) : Int) .i64 (7 * (k : Int)) = pure (.int .u64 (g : Int)) := by
  have ht : (7 * (k : Int)).toNat = 7 * k := by omega
  rw [shift_shl_any _ _ _ _ (by omega), shift_shr_any _ _ _ _ (by omega), ht]
  have hb : IntKind.u64.bits = 64 := rfl
  rw [hb, IntKind.wrap_u64]
  by_cases hk : 7 * k ≤ 64
  · rw [Nat.min_eq_left hk]
    have hp : 0 < (2 : Nat) ^ (7 * k) := Nat.two_pow_pos _
    have e : (g : Int) * 2 ^ (7 * k) = ((g * 2 ^ (7 * k) : Nat) : Int) := by simp
    have e2 : (2 : Int) ^ (7 * k) = ((2 ^ (7 * k) : Nat) : Int) := by simp
    rw [e, e2]
    refine ⟨by congr 2; omega, ?_⟩
    rw [← Int.natCast_ediv, Nat.mul_div_cancel _ hp]
  · rw [Nat.min_eq_right (by omega)]
    have hg : g = 0 := by
      rcases Nat.eq_zero_or_pos g with h0 | h0
      · exact h0
      · have h1 : 2 ^ 64 ≤ 2 ^ (7 * k) := Nat.pow_le_pow_right (by omega) (by omega)
        have h2 : 1 * 2 ^ (7 * k) ≤ g * 2 ^ (7 * k) := Nat.mul_le_mul_right _ h0
        omega
    subst hg
    simp
theorem fits_no (g k : Nat) (hg : g < 128) (h : 18446744073709551616 ≤ g * 2 ^ (7 * k)) :
    ∃ X Y : Int, Op.shift .shl .u64 (g : Int) .i64 (7 * (k : Int)) = pure (.int .u64 X) ∧ Op.shift .shr .u64 X .i64 (7 * (k : Int)) = pure (.int .u64 Y) ∧ ¬ Y = (g : Int) := by
  have ht : (7 * (k : Int)).toNat = 7 * k := by omega
  refine ⟨_, _, by rw [shift_shl_any _ _ _ _ (by omega)], by rw [shift_shr_any _ _ _ _ (by omega)], ?_⟩
  have hb : IntKind.u64.bits = 64 := rfl
  rw [ht, hb, IntKind.wrap_u64]
  by_cases hk : 7 * k ≤ 64
  · rw [Nat.min_eq_left hk]
    have e : (g : Int) * 2 ^ (7 * k) = ((g * 2 ^ (7 * k) : Nat) : Int) := by simp
    have e2 : (2 : Int) ^ (7 * k) = ((2 ^ (7 * k) : Nat) : Int) := by simp
    rw [e, e2]
    intro hc
    have h1 : (((g * 2 ^ (7 * k) : Nat) : Int)) % 18446744073709551616 = ((g * 2 ^ (7 * k) % 18446744073709551616 : Nat) : Int) := by omega
    rw [h1, ← Int.natCast_ediv] at hc
    have hc' : g * 2 ^ (7 * k) % 18446744073709551616 / 2 ^ (7 * k) = g := by exact_mod_cast hc
    have h2 : g * 2 ^ (7 * k) % 18446744073709551616 / 2 ^ (7 * k) * 2 ^ (7 * k) ≤ g * 2 ^ (7 * k) % 18446744073709551616 := Nat.div_mul_le_self _ _
    rw [hc'] at h2
    have := Nat.mod_lt (g * 2 ^ (7 * k)) (show 0 < 18446744073709551616 by omega)
    omega
  · rw [Nat.min_eq_right (by omega)]
    have h0 : g ≠ 0 := by rintro rfl; simp at h
    have e : (g : Int) * 2 ^ 64 % 18446744073709551616 = 0 := by omega
    rw [e]
    simp only [Int.zero_ediv]
    omega
theorem or_add {y g k : Nat} (hy : y < 2 ^ (7 * k)) (hy2 : y < 18446744073709551616) (h : g * 2 ^ (7 * k) < 18446744073709551616) :
    bits .or .u64 (y : Int) ((g * 2 ^ (7 * k) : Nat) : Int) = ((y + g * 2 ^ (7 * k) : Nat) : Int) := by
  rw [u64_or_nat _ _ hy2 h, or_place hy]
theorem or_bound {y g k : Nat} (hy : y < 2 ^ (7 * k)) (hg : g < 128) (hy2 : y < 18446744073709551616) (h : g * 2 ^ (7 * k) < 18446744073709551616) :
    y + g * 2 ^ (7 * k) < 2 ^ (7 * (k + 1)) ∧ y + g * 2 ^ (7 * k) < 18446744073709551616 := by
  have h1 : (g + 1) * 2 ^ (7 * k) ≤ 128 * 2 ^ (7 * k) := Nat.mul_le_mul_right _ (by omega)
  rw [Nat.add_mul] at h1
  have e : 2 ^ (7 * (k + 1)) = 128 * 2 ^ (7 * k) := by rw [Nat.mul_add, Nat.pow_add, Nat.mul_comm]
  refine ⟨by rw [e]; omega, ?_⟩
  rw [← or_place hy]
  exact Nat.or_lt_two_pow (n := 64) hy2 h
def ShortRel (l : List UInt8) (x i : Value) : Prop :=
  ∃ k y, k ≤ l.length ∧ i = .int .i64 (k : Nat) ∧ x = .int .u64 ((y : Nat) : Int) ∧ Hid (scan l 0 0 = scan (l.drop k) k y) ∧ Hid (y < 2 ^ (7 * k) ∧ y < 18446744073709551616)
end Go.Proofs.Ytmkkhknbokfciaa
/-
  What a Reader's calls answer, and what they leave: the document's, whatever the bytes. For at most 2^46 bytes.
-/
namespace Go.Proofs.Ytmkkhknbokfciaa
open Go.RowKit

/-- A call that answers v and leaves the Reader so; only the Reader's own struct has turned. -/
def RdE (T : TypeId) (w : World) (q : Nat) (d : Option Nat) (v : Value) (s : RS) (e : Ending) (w' : World) : Prop :=
  e = .returned v ∧ Hid (Rd T w' q d s.l s.bad) ∧ Hid (Only (fun k => k = q) w w')
theorem only_trans {S : Nat → Prop} {a b c : World} (h : Only S a b) (k : Only S b c) : Only S a c := h.trans k fun _ _ h => h

/-! End -/
/-! Raw -/
/-! Uint -/
/-! Text -/
theorem text_conv (A : Option Addr) (l : List UInt8) (n x : Nat) (hl : n + x ≤ l.length) (w : World) (h : Bts w A (n + x) (l.take (n + x))) :
    Sem.run Try.prog (convert 26 9 (.slice (if n + x = n then A else A.map (fun a => a.add n)) x x)) w = .ok (.string ⟨((l.drop n).take x).toArray⟩) w := by
  have h1 := (h.back n (by rw [List.length_take]; omega)).bytes
  have e : (l.take (n + x)).drop n = (l.drop n).take x := by rw [List.drop_take, Nat.add_sub_cancel_left]
  rw [e] at h1
  exact conv_str x h1 (by rw [List.length_take, List.length_drop]; omega)
end Go.Proofs.Ytmkkhknbokfciaa
/-
  What a Reader's look at a wide number does. For at most 2^46 bytes.
-/
namespace Go.Proofs.Ytmkkhknbokfciaa
open Go.RowKit

theorem Only.drew_left {S : Nat → Prop} {w w' : World} (h : Only S w.drew w') : Only S w w' := ⟨h.os, h.tape, h.output, h.size, h.block⟩
/-- Eight bytes, by value. -/
def agg8 (l : List UInt8) : Array Value := #[.int .u8 (at8 l 0 : Nat), .int .u8 (at8 l 1 : Nat), .int .u8 (at8 l 2 : Nat), .int .u8 (at8 l 3 : Nat), .int .u8 (at8 l 4 : Nat), .int .u8 (at8 l 5 : Nat), .int .u8 (at8 l 6 : Nat), .int .u8 (at8 l 7 : Nat)]
theorem agg8_eq {l : List UInt8} (h : l.length = 8) : (bv l).toArray = agg8 l := by
  match l, h with
  | [a, b, c, d, e, f, g, i], _ => rfl
/-- The eight bytes out of which a wide number is read. -/
def wideF (s : RS) (n : Nat) : List UInt8 := if s.l.length < n then List.replicate 8 0 else s.l.take n ++ List.replicate (8 - n) 0
theorem wideF_length (s : RS) (n : Nat) (hn : n ≤ 8) : (wideF s n).length = 8 := by
  unfold wideF
  split
  · simp
  · simp; omega
theorem numLE_zeros (n k : Nat) : numLE (List.replicate n 0) k = 0 := by
  induction k with
  | zero => rfl
  | succ k ih =>
    rw [numLE, ih]
    have : ((List.replicate n (0 : UInt8)).getD k 0).toNat = 0 := by
      simp only [List.getD, List.getElem?_replicate]
      split <;> rfl
    rw [this]; simp
theorem numLE_front (l r : List UInt8) (k : Nat) (hk : k ≤ l.length) : numLE (l ++ r) k = numLE l k := by
  induction k with
  | zero => rfl
  | succ k ih =>
    rw [numLE, numLE, ih (by omega)]
    congr 2
    simp only [List.getD]
    rw [List.getElem?_append_left (by omega)]
theorem numLE_pad (l : List UInt8) (n k : Nat) : numLE (l ++ List.replicate n 0) (l.length + k) = numLE l l.length := by
  induction k with
  | zero => exact numLE_front l _ _ (Nat.le_refl _)
  | succ k ih =>
    rw [show l.length + (k + 1) = (l.length + k) + 1 by omega, numLE, ih]
    have : ((l ++ List.replicate n (0 : UInt8)).getD (l.length + k) 0).toNat = 0 := by
      simp only [List.getD]
      rw [List.getElem?_append_right (by omega)]
      simp only [List.getElem?_replicate]
      split <;> rfl
    rw [this]; simp
theorem wide_worth (s : RS) (n : Nat) (hn : n ≤ 8) (hb : s.bad = false) : (rWide s n).1 = numLE (wideF s n) 8 := by
  unfold rWide wideF
  by_cases h : s.l.length < n
  · rw [if_pos (.inr h), if_pos h, numLE_zeros]
  · rw [if_neg (by rw [hb]; simpa using h), if_neg h]
    have e : (s.l.take n).length = n := by rw [List.length_take]; omega
    have := numLE_pad (s.l.take n) (8 - n) (8 - n)
    rw [e, show n + (8 - n) = 8 by omega] at this
    exact this.symm

theorem last_step (n x k : Nat) (hk : k < 8) (hn : n < 2 ^ (8 * k)) (hx : x < 256) :
    bits .or .u64 (n : Int) ((x : Int) * 2 ^ (8 * k) % 18446744073709551616) = ((n + x * 2 ^ (8 * k) : Nat) : Int) := by
  have hp : (2 : Nat) ^ (8 * k) ≤ 2 ^ 56 := Nat.pow_le_pow_right (by omega) (by omega)
  have hm : x * 2 ^ (8 * k) ≤ 255 * 2 ^ 56 := Nat.mul_le_mul (by omega) hp
  have h2 : (x : Int) * 2 ^ (8 * k) = ((x * 2 ^ (8 * k) : Nat) : Int) := by simp
  rw [h2]
  have h3 : ((x * 2 ^ (8 * k) : Nat) : Int) % 18446744073709551616 = ((x * 2 ^ (8 * k) : Nat) : Int) := by omega
  rw [h3, u64_or_nat _ _ (by omega) (by omega), or_place hn]
theorem splice8 {xs : List UInt8} {k : Nat} (hx : xs.length = k) : splice (bv (List.replicate 8 0)) 0 (bv xs) = bv (xs ++ List.replicate (8 - k) 0) := by
  subst hx
  unfold splice
  rw [bv_append, Nat.zero_add, bv_length, List.take_zero, List.nil_append]
  congr 1
  simp only [bv, List.map_replicate, List.drop_replicate]

end Go.Proofs.Ytmkkhknbokfciaa
/-
  What the statements' own examples come to: awake answers true, and what was there stays as it was. No condition.
-/
namespace Go.Proofs.Ytmkkhknbokfciaa
open Go.RowKit

theorem sh300 : shortL 300 = [172, 2] := by rw [shortL_more (by decide), shortL_last (by decide)]; rfl
theorem sh128 : shortL 128 = [128, 1] := by rw [shortL_more (by decide), shortL_last (by decide)]; rfl
theorem sh1 : shortL 1 = [1] := by rw [shortL_last (by decide)]; rfl
theorem sh2 : shortL 2 = [2] := by rw [shortL_last (by decide)]; rfl
def exAll : List UInt8 := [2, 1, 172, 2, 1, 128, 1, 2, 97, 98]
theorem ex_all : ((([] ++ wideL 258 2) ++ shortL 300) ++ shortsL [1, 128]) ++ (shortL 2 ++ strL ⟨#[97, 98]⟩) = exAll := by
  simp only [shortsL, List.map_cons, List.map_nil, List.flatten_cons, List.flatten_nil, sh300, sh128, sh1, sh2]
  rfl
theorem ex_uint : rUint ⟨[129, 0], false⟩ = (0, ⟨[129, 0], true⟩) := by decide +kernel
theorem ex_wide : rWide ⟨[129, 0], true⟩ 1 = (0, ⟨[129, 0], true⟩) := by decide +kernel
theorem ex_text : rText ⟨[2, 97, 98], false⟩ 1 = ([], ⟨[2, 97, 98], true⟩) := by decide +kernel
/-- Two numbers, laid in a block of their own. -/
theorem nums_two (w : World) (a b : Nat) : Nums (w.alloc (.cells #[.int .u64 (a : Int), .int .u64 (b : Int)] 22)) (w.alloc (.cells #[.int .u64 (a : Int), .int .u64 (b : Int)] 22)).heap.size (some ⟨w.heap.size, 0, none⟩) [a, b] := fun _ => by
  refine ⟨_, 0, rfl, by simp, fun k hk => ?_⟩
  rw [cell_of_row _ _ _ _ _ (0, 0) (heap_alloc_new w _)]
  have : k = 0 ∨ k = 1 := by simp at hk; omega
  rcases this with rfl | rfl <;> rfl
theorem bytes_new (w : World) (l : List UInt8) : Bytes (w.alloc (.cells (bv l).toArray 5)) (w.heap.size + 1) (some ⟨w.heap.size, 0, none⟩) l := fun _ => by
  refine ⟨_, 0, rfl, by omega, fun k hk => ?_⟩
  rw [cell_of_row _ _ _ _ _ (0, 0) (heap_alloc_new w _), Nat.zero_add]
  simpa using bv_get hk

/-- A Reader of the law's own. -/
structure RdS (T : TypeId) (B : Nat) (w0 W : World) (q : Nat) (d : Option Nat) (s : RS) : Prop where
  rd : Rd T W q d s.l s.bad
  below : Below B w0 W
  hq : B ≤ q
  hd : ∀ k, d = some k → B ≤ k
theorem RdS.size {T : TypeId} {B : Nat} {w0 W : World} {q : Nat} {d : Option Nat} {s : RS} (h : RdS T B w0 W q d s) : B ≤ W.heap.size := Nat.le_trans h.hq (Nat.le_of_lt h.rd.lt)
theorem RdS.step {T : TypeId} {B : Nat} {w0 W W' : World} {q : Nat} {d : Option Nat} {s s' : RS} (h : RdS T B w0 W q d s) (h1 : Hid (Rd T W' q d s'.l s'.bad)) (ho : Hid (Only (fun k => k = q) W W')) : RdS T B w0 W' q d s' :=
  ⟨h1.out, ho.out.below h.below (by rintro k rfl; exact h.hq) h.size, h.hq, h.hd⟩
theorem RdS.later {T : TypeId} {B : Nat} {w0 W W' : World} {q : Nat} {d : Option Nat} {s : RS} (h : RdS T B w0 W q d s) (hb : Below W.heap.size W W') : RdS T B w0 W' q d s :=
  ⟨h.rd.keep (S := fun _ => False) (Only.ofBelow hb) (fun h => h) (fun _ _ h => h), h.below.trans (hb.mono h.size), h.hq, h.hd⟩
theorem RdS.other {T : TypeId} {B : Nat} {w0 W W' : World} {q : Nat} {d : Option Nat} {s : RS} {S : Nat → Prop} (h : RdS T B w0 W q d s) (ho : Only S W W') (hS : ∀ k, S k → B ≤ k) (h1 : ¬ S q) (h2 : ∀ k, d = some k → ¬ S k) : RdS T B w0 W' q d s :=
  ⟨h.rd.keep ho h1 h2, ho.below h.below hS h.size, h.hq, h.hd⟩

end Go.Proofs.Ytmkkhknbokfciaa
