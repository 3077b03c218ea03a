/-
  A range over a function whose elements lie in memory of their own: what an iterator promises of each element, what a round keeps; the law for the loop. No condition.
-/
import Derived.Test.YtmkkhknbokfciaaRows
import Derived.RangeFuncNested
import Derived.OwnWalkIn
import Derived.TacticsInMore
import Derived.LoopIn
import Derived.Shelf.RegionOpen
namespace Go.Proofs.Ytmkkhknbokfciaa
open Go.RowKit

/-- Every block that R names, but b, is as it was. -/
structure Kept (R : Nat → Prop) (b : Nat) (W W' : World) : Prop where
  size : W.heap.size ≤ W'.heap.size
  same : ∀ j, R j → j ≠ b → j < W.heap.size → W'.heap[j]? = W.heap[j]?
/-- An iterator of k rounds: the i-th hands over values of which E speaks; b: the block that the round may write; R: the blocks that a round that goes on leaves alone, by where the iterator begins; m: how many blocks it makes ahead of the first round. -/
def SeqX (P : Program) (g : Nat) (lb : Array Value) (k : Nat) (E : Nat → Array Value → Nat → World → Prop) (m : Nat) (R : Nat → Nat → Prop) (w : World) : Prop :=
  ∀ (l : Nat) (J Jx : Nat → World → Prop) (W : World), Below w.heap.size w W → OwnFrom W.heap.size J → OwnFrom W.heap.size Jx →
    (∀ i vs b W1, i < k → W.heap.size + m ≤ W1.heap.size → W.heap.size ≤ b → J i W1 → E i vs b W1 → YieldAt Fence.wide 0 P l vs W1 fun e W' =>
      (e = .returned (.bool true) ∧ J (i + 1) W' ∧ Kept (R W.heap.size) b W1 W') ∨ (e = .returned (.bool false) ∧ Jx (i + 1) W' ∧ Kept (fun j => W.heap.size ≤ j) b W1 W')) →
    J 0 W →
    CallsIn Fence.wide 0 P g (#[.func (.yield l) #[] #[]] ++ lb) W fun e W' => (∃ v, e = .returned v) ∧ (J k W' ∨ ∃ i, i < k ∧ Jx (i + 1) W')
/-- The same, where R does not ask where the iterator begins. -/
def SeqG (P : Program) (g : Nat) (lb : Array Value) (k : Nat) (E : Nat → Array Value → Nat → World → Prop) (R : Nat → Prop) (w : World) : Prop := SeqX P g lb k E 0 (fun _ => R) w

/-- How a round's body may be left. -/
def postG (R : Nat → Prop) (I : Nat → World → Prop) (Ix : Code → Nat → World → Prop) (D b i : Nat) (W : World) : Exit → Act → World → Prop
  | .normal, _, W' => Kept (fun j => R j ∨ j = D ∨ j = D + 1) b W W' ∧ I i W'
  | .ret, _, W' => Kept (fun j => D ≤ j) b W W' ∧ Ix .ret i W'
  | .exit id, _, W' => Kept (fun j => D ≤ j) b W W' ∧ Ix (.exit id) i W'
  | .goto t, _, W' => Kept (fun j => D ≤ j) b W W' ∧ Ix (.goto t) i W'
  | .panic _, _, _ => False
  | .outgrown, _, _ => False

variable {P : Program}
/-- The law of the loop. -/
theorem wp_rangeX {g : Operand} {ps : Array Tmp} {assign body : Code} {Q : Exit → Act → World → Prop} {a : Act} {w : World}
    {gf : Nat} {lb : Array Value} (hg : a.eval g = .func (.func gf) #[] lb) (eg : ∀ args w, (callFunc gf args).run P w = .ok (.enter gf args) w)
    {k : Nat} {E : Nat → Array Value → Nat → World → Prop} {m : Nat} {R : Nat → Nat → Prop} (hseq : SeqX P gf lb k E m R w) (hps : ∀ i vs b W, E i vs b W → vs.size = ps.size)
    (hE : ∀ i vs b, OwnFrom w.heap.size (fun (_ : Unit) W => E i vs b W))
    (I : Nat → World → Prop) (Ix : Code → Nat → World → Prop) (hI : OwnFrom w.heap.size I) (hIx : ∀ c, OwnFrom w.heap.size (Ix c)) (h0 : I 0 w) (a₁ : Array Value → Act)
    (hassign : ∀ (l : Nat) (vs : Array Value) (W : World) (K : Act → World → Prop), vs.size = ps.size → K (a₁ vs) W →
      assign.wpIn (Fence.wide.inRound l) 0 P (Exit.then K (fun _ _ _ => False)) { tmps := (ps.zip vs).foldl (fun t (p, v) => t.setIfInBounds p v) a.tmps, defers := [] } W)
    (hbody : ∀ (l i : Nat) (vs : Array Value) (b : Nat) (W : World), i < k → w.heap.size + 2 + m ≤ W.heap.size → w.heap.size + 2 ≤ b → I i W → E i vs b W → body.wpIn (Fence.wide.inRound l) 0 P (postG (R (w.heap.size + 2)) I Ix w.heap.size b (i + 1) W) (a₁ vs) W)
    (hdone : ∀ (W : World), I k W → W.heap[w.heap.size]? = some (.deferred (some [])) → Q .normal { a with defers := { target := .collected w.heap.size, args := #[] } :: a.defers } W)
    (hstop : ∀ (c : Code) (i : Nat) (W : World), i < k → Ix c (i + 1) W → W.heap[w.heap.size]? = some (.deferred (some [])) → c.wp P Q { a with defers := { target := .collected w.heap.size, args := #[] } :: a.defers } W) :
    (Code.rangeFunc g ps assign body).wp P Q a w := by
  refine (wpIn_wide (n := 0)).1 (wpIn_rangeFunc (fun fn _ => ?_))
  have hsize : ∀ (o o' : Obj), ((w.alloc o).alloc o').heap.size = w.heap.size + 2 := fun o o' => by simp
  let rc : LoopState → Option Code → Loop := fun st pe => { state := st, pending := pe, fn := fn, tmps := a.tmps, params := ps, assign := assign, body := body, defers := w.heap.size }
  let V : World := (w.alloc (.deferred (some []))).alloc (.loop (rc .ready none))
  have hVs : V.heap.size = w.heap.size + 2 := hsize _ _
  have hVl : V.heap[w.heap.size + 1]? = some (.loop (rc .ready none)) := by
    have h := World.alloc_heap_new (w.alloc (.deferred (some []))) (.loop (rc .ready none))
    rwa [World.size_alloc] at h
  have hVd : V.heap[w.heap.size]? = some (.deferred (some [])) := (Below.heap_alloc _ _ _ (by simp)).trans (World.alloc_heap_new w _)
  have hVb : Below w.heap.size w V := ((Below.refl _ w).alloc (Nat.le_refl _) _).alloc (by simp) _
  have hVI : I 0 V := hI.alloc _ (hI.alloc _ h0)
  refine ⟨w.heap.size + 1, [{ target := .collected w.heap.size, args := #[] }], V, { target := .fn (.func gf) lb, args := #[.func (.yield (w.heap.size + 1)) #[] #[]] }, V, gf, #[.func (.yield (w.heap.size + 1)) #[] #[]] ++ lb, V, ?_, ?_, fun _ _ => trivial, ?_, fun h => absurd h (by simp [Fence.wide]), ?_⟩
  · exact run_enterLoop_outer _ _ _ _ _
  · simp only [resolve, hg]
    simp [go_sem]
  · simp [invoke, go_sem, eg]
  have own3 : ∀ {X : World → Prop}, OwnFrom w.heap.size (fun (_ : Unit) W => X W) → ∀ {A B : World} {row : Option Nat}, X A → A.grownBy B row → (∀ r, row = some r → V.heap.size ≤ r ∧ ∃ o : Obj, A.heap[r]? = some o ∧ o.isCells = false) → X B :=
    fun {X} hX {A} {B} {row} hA hgr hr => hX () A B row hA hgr (fun r e => ⟨by have := (hr r e).1; omega, (hr r e).2⟩)
  have rowkeep : ∀ {A B : World} {row : Option Nat} {j : Nat} {o : Obj}, A.heap[j]? = some o → j < V.heap.size → A.grownBy B row → (∀ r, row = some r → V.heap.size ≤ r ∧ ∃ o : Obj, A.heap[r]? = some o ∧ o.isCells = false) → B.heap[j]? = some o :=
    fun {A} {B} {row} {j} {o} hA hj hgr hr => (hgr.block j (Array.getElem?_eq_some_iff.1 hA).1 (fun e => by have := (hr j e.symm).1; omega)).trans hA
  refine (hseq (w.heap.size + 1)
    (fun i W => I i W ∧ W.heap[w.heap.size + 1]? = some (.loop (rc .ready none)) ∧ W.heap[w.heap.size]? = some (.deferred (some [])))
    (fun i W => ∃ c, Ix c i W ∧ W.heap[w.heap.size + 1]? = some (.loop (rc .done (some c))) ∧ W.heap[w.heap.size]? = some (.deferred (some [])))
    V hVb
    (fun i A B row hs hgr hr => ⟨own3 (X := I i) (fun _ => hI i) hs.1 hgr hr, rowkeep hs.2.1 (by omega) hgr hr, rowkeep hs.2.2 (by omega) hgr hr⟩)
    (fun i A B row hs hgr hr => by
      obtain ⟨c, h1, h2, h3⟩ := hs
      exact ⟨c, own3 (X := Ix c i) (fun _ => hIx c i) h1 hgr hr, rowkeep h2 (by omega) hgr hr, rowkeep h3 (by omega) hgr hr⟩)
    ?_ ⟨hVI, hVl, hVd⟩).mono ?_
  · rintro i vs b W hik hWs hbb ⟨hi, hl, hk⟩ he
    rw [hVs] at hWs hbb
    have hy := run_yield (P := P) (args := vs) hl (hps i vs b W he)
    refine ⟨fn, _, assign, body, hy, roundIn_of_wpIn trivial (hassign _ vs W _ (hps i vs b W he) ?_)⟩
    refine ⟨_, run_beginRound hl rfl, ?_⟩
    let Wb := W.putObj (w.heap.size + 1) (.loop { rc .ready none with state := .busy })
    have hbl : Wb.heap[w.heap.size + 1]? = some (.loop { rc .ready none with state := .busy }) := World.putObj_heap_same (by omega)
    have hbd : Wb.heap[w.heap.size]? = some (.deferred (some [])) := (World.putObj_heap_other (by omega)).trans hk
    have hbs : Wb.heap.size = W.heap.size := World.putObj_size
    refine wpIn_mono (hbody _ i vs b Wb hik (by omega) hbb (hI.putObj _ hi (by omega) hl rfl) ((hE i vs b).putObj (s := ()) _ he (by omega) hl rfl)) ?_
    -- the two blocks of book-keeping behind the body
    have fin : ∀ (jump : Option Code) (S : Nat → Prop) (W3 : World), Kept S b Wb W3 → S w.heap.size → S (w.heap.size + 1) →
        (Instr.endRound (w.heap.size + 1) jump).run P W3 = .ok (.bool jump.isNone) (W3.putObj (w.heap.size + 1) (.loop (rc (if jump.isNone then .ready else .done) jump))) ∧
        W3.heap[w.heap.size + 1]? = some (.loop { rc .ready none with state := .busy }) ∧
        (W3.putObj (w.heap.size + 1) (.loop (rc (if jump.isNone then .ready else .done) jump))).heap[w.heap.size + 1]? = some (.loop (rc (if jump.isNone then .ready else .done) jump)) ∧
        (W3.putObj (w.heap.size + 1) (.loop (rc (if jump.isNone then .ready else .done) jump))).heap[w.heap.size]? = some (.deferred (some [])) := fun jump S W3 hk3 s0 s1 => by
      have hl3 := (hk3.same _ s1 (by omega) (by omega)).trans hbl
      have hd3 := (hk3.same _ s0 (by omega) (by omega)).trans hbd
      exact ⟨run_endRound (P := P) jump hl3, hl3, World.putObj_heap_same (Array.getElem?_eq_some_iff.1 hl3).1, (World.putObj_heap_other (by omega)).trans hd3⟩
    have back : ∀ (S : Nat → Prop) (W3 : World) (o : Obj), Kept S b Wb W3 → (∀ j, S j → j ≠ w.heap.size + 1 ∨ W.heap[w.heap.size + 1]? = some o) → Kept S b W (W3.putObj (w.heap.size + 1) o) := fun S W3 o hk3 ho =>
      ⟨by rw [World.putObj_size]; have := hk3.size; omega, fun j hs hj hlt => by
        by_cases e : j = w.heap.size + 1
        · subst e
          have h2 := (ho _ hs).resolve_left (fun h => h rfl)
          rw [h2]
          exact World.putObj_heap_same (by have := hk3.size; omega)
        · rw [World.putObj_heap_other e, hk3.same j hs hj (by omega)]
          exact World.putObj_heap_other e⟩
    rintro e a3 W3 hp
    cases e with
    | normal =>
      obtain ⟨hk3, hi3⟩ := hp
      obtain ⟨hr, hl3, hl4, hd4⟩ := fin none _ W3 hk3 (.inr (.inl rfl)) (.inr (.inr rfl))
      have hkk := back _ W3 (.loop (rc .ready none)) hk3 (fun j _ => .inr hl)
      exact ⟨_, _, hr, .inl ⟨rfl, ⟨hI.putObj _ hi3 (by omega) hl3 rfl, hl4, hd4⟩, ⟨hkk.size, fun j hj => hkk.same j (.inl (by rw [hVs] at hj; exact hj))⟩⟩⟩
    | ret =>
      obtain ⟨hk3, hi3⟩ := hp
      obtain ⟨hr, hl3, hl4, hd4⟩ := fin (some .ret) _ W3 hk3 (Nat.le_refl _) (by omega)
      have hkk := back (fun j => V.heap.size ≤ j) W3 (.loop (rc .done (some .ret))) ⟨hk3.size, fun j hj => hk3.same j (by omega)⟩ (fun j hj => .inl (by omega))
      exact ⟨_, _, hr, .inr ⟨rfl, ⟨.ret, (hIx _).putObj _ hi3 (by omega) hl3 rfl, hl4, hd4⟩, hkk⟩⟩
    | exit id =>
      obtain ⟨hk3, hi3⟩ := hp
      obtain ⟨hr, hl3, hl4, hd4⟩ := fin (some (.exit id)) _ W3 hk3 (Nat.le_refl _) (by omega)
      have hkk := back (fun j => V.heap.size ≤ j) W3 (.loop (rc .done (some (.exit id)))) ⟨hk3.size, fun j hj => hk3.same j (by omega)⟩ (fun j hj => .inl (by omega))
      exact ⟨_, _, hr, .inr ⟨rfl, ⟨.exit id, (hIx _).putObj _ hi3 (by omega) hl3 rfl, hl4, hd4⟩, hkk⟩⟩
    | goto t =>
      obtain ⟨hk3, hi3⟩ := hp
      obtain ⟨hr, hl3, hl4, hd4⟩ := fin (some (.goto t)) _ W3 hk3 (Nat.le_refl _) (by omega)
      have hkk := back (fun j => V.heap.size ≤ j) W3 (.loop (rc .done (some (.goto t)))) ⟨hk3.size, fun j hj => hk3.same j (by omega)⟩ (fun j hj => .inl (by omega))
      exact ⟨_, _, hr, .inr ⟨rfl, ⟨.goto t, (hIx _).putObj _ hi3 (by omega) hl3 rfl, hl4, hd4⟩, hkk⟩⟩
    | panic ch => exact hp.elim
    | outgrown => exact hp.elim
  · rintro e W2 ⟨⟨v, rfl⟩, (⟨hi, hl, hk⟩ | ⟨i, hik, c, hi, hl, hk⟩)⟩
    · exact ⟨none, _, run_endLoop (P := P) hl (by simp [rc]), hdone _ (hI.putObj _ hi (by omega) hl rfl) ((World.putObj_heap_other (by omega)).trans hk)⟩
    · exact ⟨some c, _, run_endLoop (P := P) hl (by simp [rc]), wpIn_wide.2 (hstop c i _ hik ((hIx c).putObj _ hi (by omega) hl rfl) ((World.putObj_heap_other (by omega)).trans hk))⟩

/-- The same, where R does not ask where the iterator begins. -/
theorem wp_rangeG {g : Operand} {ps : Array Tmp} {assign body : Code} {Q : Exit → Act → World → Prop} {a : Act} {w : World}
    {gf : Nat} {lb : Array Value} (hg : a.eval g = .func (.func gf) #[] lb) (eg : ∀ args w, (callFunc gf args).run P w = .ok (.enter gf args) w)
    {k : Nat} {E : Nat → Array Value → Nat → World → Prop} {R : Nat → Prop} (hseq : SeqG P gf lb k E R w) (hps : ∀ i vs b W, E i vs b W → vs.size = ps.size)
    (hE : ∀ i vs b, OwnFrom w.heap.size (fun (_ : Unit) W => E i vs b W))
    (I : Nat → World → Prop) (Ix : Code → Nat → World → Prop) (hI : OwnFrom w.heap.size I) (hIx : ∀ c, OwnFrom w.heap.size (Ix c)) (h0 : I 0 w) (a₁ : Array Value → Act)
    (hassign : ∀ (l : Nat) (vs : Array Value) (W : World) (K : Act → World → Prop), vs.size = ps.size → K (a₁ vs) W →
      assign.wpIn (Fence.wide.inRound l) 0 P (Exit.then K (fun _ _ _ => False)) { tmps := (ps.zip vs).foldl (fun t (p, v) => t.setIfInBounds p v) a.tmps, defers := [] } W)
    (hbody : ∀ (l i : Nat) (vs : Array Value) (b : Nat) (W : World), i < k → w.heap.size + 2 ≤ W.heap.size → w.heap.size + 2 ≤ b → I i W → E i vs b W → body.wpIn (Fence.wide.inRound l) 0 P (postG R I Ix w.heap.size b (i + 1) W) (a₁ vs) W)
    (hdone : ∀ (W : World), I k W → W.heap[w.heap.size]? = some (.deferred (some [])) → Q .normal { a with defers := { target := .collected w.heap.size, args := #[] } :: a.defers } W)
    (hstop : ∀ (c : Code) (i : Nat) (W : World), i < k → Ix c (i + 1) W → W.heap[w.heap.size]? = some (.deferred (some [])) → c.wp P Q { a with defers := { target := .collected w.heap.size, args := #[] } :: a.defers } W) :
    (Code.rangeFunc g ps assign body).wp P Q a w :=
  wp_rangeX (R := fun _ => R) hg eg hseq hps hE I Ix hI hIx h0 a₁ hassign hbody hdone hstop

/-- A function's end behind such a loop. -/
theorem leave_mark {fn : Func} {R : Ending → World → Prop} {tmps : Array Value} {D : Nat} {W : World} {v : Value} (hK : W.heap[D]? = some (.deferred (some []))) (hr : (results fn tmps).run P (W.putObj D (.deferred none)) = .ok v (W.putObj D (.deferred none))) (h : R (.returned v) (W.putObj D (.deferred none))) :
    bodyPostM Fence.wide 0 P fn R .ret { tmps := tmps, defers := [{ target := .collected D, args := #[] }] } W :=
  ⟨by simp, .inl ⟨_, _, rfl, run_takeDeferred hK, ⟨v, hr, h⟩⟩⟩
theorem leave_end {fn : Func} {R : Ending → World → Prop} {tmps : Array Value} {D : Nat} {W : World} {v : Value} (hK : W.heap[D]? = some (.deferred (some []))) (hr : (results fn tmps).run P (W.putObj D (.deferred none)) = .ok v (W.putObj D (.deferred none))) (h : R (.returned v) (W.putObj D (.deferred none))) :
    bodyPostM Fence.wide 0 P fn R .normal { tmps := tmps, defers := [{ target := .collected D, args := #[] }] } W :=
  ⟨by simp, .inl ⟨_, _, rfl, run_takeDeferred hK, ⟨v, hr, h⟩⟩⟩
/-- A function that holds such a loop. -/
theorem calls_of_marks {f : FuncId} {fn : Func} {c : Code} {args : Array Value} {w : World} {R : Ending → World → Prop} (hf : P.funcs[f]? = some fn) (hb : fn.body = some c)
    (h : c.wp P (bodyPostM Fence.wide 0 P fn R) { tmps := args ++ Array.replicate (fn.ntmps - args.size) undef, defers := [] } w) : Calls P f args w R :=
  (callsIn_wide (n := 0)).1 (callsIn_of_wp_marks hf hb trivial (wpIn_wide.2 h) rfl)
end Go.Proofs.Ytmkkhknbokfciaa
