/-
  The law of the loop at two loop variables, its first act left to be found. No condition.
-/
import Derived.Test.YtmkkhknbokfciaaQrange
namespace Go.Proofs.Ytmkkhknbokfciaa
open Go.RowKit

theorem two_arr {vs : Array Value} (h : vs.size = 2) : ∃ x y, vs = #[x, y] := by
  obtain ⟨l⟩ := vs
  rcases l with _ | ⟨x, _ | ⟨y, _ | ⟨z, l⟩⟩⟩
  · simp at h
  · simp at h
  · exact ⟨x, y, rfl⟩
  · simp at h
variable {P : Program}
theorem wp_rangeG2 {g : Operand} {p q : Tmp} {assign body : Code} {Q : Exit → Act → World → Prop} {a : Act} {w : World}
    {gf : Nat} {lb : Array Value} (hg : a.eval g = .func (.func gf) #[] lb) (eg : ∀ args w, (callFunc gf args).run P w = .ok (.enter gf args) w)
    {k : Nat} {E : Nat → Array Value → Nat → World → Prop} {R : Nat → Prop} (hseq : SeqG P gf lb k E R w) (hps : ∀ i vs b W, E i vs b W → vs.size = 2)
    (hE : ∀ i vs b, OwnFrom w.heap.size (fun (_ : Unit) W => E i vs b W))
    (I : Nat → World → Prop) (Ix : Code → Nat → World → Prop) (hI : OwnFrom w.heap.size I) (hIx : ∀ c, OwnFrom w.heap.size (Ix c)) (h0 : I 0 w) {a₁ : Value → Value → Act}
    (hassign : ∀ (l : Nat) (x y : Value) (W : World) (K : Act → World → Prop), K (a₁ x y) W →
      assign.wpIn (Fence.wide.inRound l) 0 P (Exit.then K (fun _ _ _ => False)) { tmps := (a.tmps.setIfInBounds p x).setIfInBounds q y, defers := [] } W)
    (hbody : ∀ (l i : Nat) (x y : Value) (b : Nat) (W : World), i < k → w.heap.size + 2 ≤ W.heap.size → w.heap.size + 2 ≤ b → I i W → E i #[x, y] b W → body.wpIn (Fence.wide.inRound l) 0 P (postG R I Ix w.heap.size b (i + 1) W) (a₁ x y) W)
    (hdone : ∀ (W : World), I k W → W.heap[w.heap.size]? = some (.deferred (some [])) → Q .normal { a with defers := { target := .collected w.heap.size, args := #[] } :: a.defers } W)
    (hstop : ∀ (c : Code) (i : Nat) (W : World), i < k → Ix c (i + 1) W → W.heap[w.heap.size]? = some (.deferred (some [])) → c.wp P Q { a with defers := { target := .collected w.heap.size, args := #[] } :: a.defers } W) :
    (Code.rangeFunc g #[p, q] assign body).wp P Q a w := by
  refine wp_rangeG hg eg hseq (fun i vs b W e => hps i vs b W e) hE I Ix hI hIx h0 (fun vs => a₁ (vs.getD 0 undef) (vs.getD 1 undef)) (fun l vs W K hvs hK => ?_) (fun l i vs b W h1 h2 h3 h4 h5 => ?_) hdone hstop
  · obtain ⟨x, y, rfl⟩ := two_arr hvs
    have e : ((#[p, q] : Array Tmp).zip #[x, y]).foldl (fun t (p, v) => t.setIfInBounds p v) a.tmps = (a.tmps.setIfInBounds p x).setIfInBounds q y := by simp
    rw [e]
    exact hassign l x y W K hK
  · obtain ⟨x, y, rfl⟩ := two_arr (hps i vs b W h5)
    exact hbody l i x y b W h1 h2 h3 h4 h5
theorem wp_rangeX2 {g : Operand} {p q : Tmp} {assign body : Code} {Q : Exit → Act → World → Prop} {a : Act} {w : World}
    {gf : Nat} {lb : Array Value} (hg : a.eval g = .func (.func gf) #[] lb) (eg : ∀ args w, (callFunc gf args).run P w = .ok (.enter gf args) w)
    {k : Nat} {E : Nat → Array Value → Nat → World → Prop} {m : Nat} {R : Nat → Nat → Prop} (hseq : SeqX P gf lb k E m R w) (hps : ∀ i vs b W, E i vs b W → vs.size = 2)
    (hE : ∀ i vs b, OwnFrom w.heap.size (fun (_ : Unit) W => E i vs b W))
    (I : Nat → World → Prop) (Ix : Code → Nat → World → Prop) (hI : OwnFrom w.heap.size I) (hIx : ∀ c, OwnFrom w.heap.size (Ix c)) (h0 : I 0 w) {a₁ : Value → Value → Act}
    (hassign : ∀ (l : Nat) (x y : Value) (W : World) (K : Act → World → Prop), K (a₁ x y) W →
      assign.wpIn (Fence.wide.inRound l) 0 P (Exit.then K (fun _ _ _ => False)) { tmps := (a.tmps.setIfInBounds p x).setIfInBounds q y, defers := [] } W)
    (hbody : ∀ (l i : Nat) (x y : Value) (b : Nat) (W : World), i < k → w.heap.size + 2 + m ≤ W.heap.size → w.heap.size + 2 ≤ b → I i W → E i #[x, y] b W → body.wpIn (Fence.wide.inRound l) 0 P (postG (R (w.heap.size + 2)) I Ix w.heap.size b (i + 1) W) (a₁ x y) W)
    (hdone : ∀ (W : World), I k W → W.heap[w.heap.size]? = some (.deferred (some [])) → Q .normal { a with defers := { target := .collected w.heap.size, args := #[] } :: a.defers } W)
    (hstop : ∀ (c : Code) (i : Nat) (W : World), i < k → Ix c (i + 1) W → W.heap[w.heap.size]? = some (.deferred (some [])) → c.wp P Q { a with defers := { target := .collected w.heap.size, args := #[] } :: a.defers } W) :
    (Code.rangeFunc g #[p, q] assign body).wp P Q a w := by
  refine wp_rangeX hg eg hseq (fun i vs b W e => hps i vs b W e) hE I Ix hI hIx h0 (fun vs => a₁ (vs.getD 0 undef) (vs.getD 1 undef)) (fun l vs W K hvs hK => ?_) (fun l i vs b W h1 h2 h3 h4 h5 => ?_) hdone hstop
  · obtain ⟨x, y, rfl⟩ := two_arr hvs
    have e : ((#[p, q] : Array Tmp).zip #[x, y]).foldl (fun t (p, v) => t.setIfInBounds p v) a.tmps = (a.tmps.setIfInBounds p x).setIfInBounds q y := by simp
    rw [e]
    exact hassign l x y W K hK
  · obtain ⟨x, y, rfl⟩ := two_arr (hps i vs b W h5)
    exact hbody l i x y b W h1 h2 h3 h4 h5
end Go.Proofs.Ytmkkhknbokfciaa
