/-
  A Writer's and a Reader's calls within a law: what each leaves, told against the world in which the law began. No condition.
-/
import Derived.Test.YtadpbcbgmopfaaaLawp
import Derived.Test.YtadpbcbgmopfaaaForm
import Derived.Test.YtadpbcbgmopfaaaRegp
namespace Go.Proofs.Ytadpbcbgmopfaaa
set_option maxRecDepth 20000
open Go.RowKit

theorem Wr.cross {w : World} {p p' : Nat} {g g' : Option Nat} {l l' : List UInt8} (h : Wr w p g l) (h' : Wr w p' g' l') : g ≠ some p' := by
  obtain ⟨A, cap, h1, h2, h3⟩ := h
  obtain ⟨A', cap', h1', _⟩ := h'
  intro e
  obtain ⟨-, cur, hc, _⟩ := h2.block (h3.trans e)
  rw [h1'] at hc
  simp at hc
theorem below_drew_left {B : Nat} {w w' : World} (h : Below B w.drew w') : Below B w w' := ⟨h.os, h.tape, h.output, h.size, h.block⟩
theorem below_drewN {B : Nat} {a w : World} (h : Below B a w) (n : Nat) : Below B a (w.drewN n) := ⟨h.os, h.tape, h.output, h.size, h.block⟩
/-- A slice that reads as these bytes. -/
def BytesV (l : List UInt8) (w : World) (v : Value) : Prop := ∃ A cap, v = .slice A l.length cap ∧ Bytes w w.heap.size A l
theorem BytesV.mono {l : List UInt8} {v : Value} {w w' : World} (hb : Below w.heap.size w w') (h : BytesV l w v) : BytesV l w' v := by
  obtain ⟨A, cap, e, h1⟩ := h
  exact ⟨A, cap, e, (h1.below hb).more hb.size⟩
/-- A new Writer, within a law. -/
theorem new_at {B : Nat} {w0 V : World} (hb : Below B w0 V) (hB : B ≤ V.heap.size) : Calls Try.prog 16 #[] V fun e w' =>
    ∃ p, e = .returned (.pointer (some ⟨p, 0, none⟩)) ∧ Hid (WS B w0 w' p none []) ∧ Hid (Below V.heap.size V w') ∧ Hid (V.heap.size ≤ p) := by
  refine (wnew_any V).mono ?_
  rintro e w' ⟨rfl, h1, h2, _⟩
  exact ⟨_, rfl, ⟨h1, hb.trans (h2.mono hB), hB, fun _ e => by cases e⟩, h2, Nat.le_refl _⟩
/-- What a Writer's call leaves, within a law. -/
def WsE (B : Nat) (w0 W : World) (p : Nat) (g : Option Nat) (l : List UInt8) (e : Ending) (W' : World) : Prop :=
  e = .returned (.tuple #[]) ∧ ∃ g', Hid (WS B w0 W' p g' l) ∧ Hid (NewOr W g g') ∧ Hid (Only (fun k => k = p ∨ g = some k) W W')
theorem WsE.of {B : Nat} {w0 W W' : World} {p : Nat} {g : Option Nat} {l xs : List UInt8} {e : Ending} (h : WS B w0 W p g l) (hw : WroteE W p g l xs e W') : WsE B w0 W p g (l ++ xs) e W' := by
  obtain ⟨he, hw⟩ := hw
  obtain ⟨g', h1, h2, h3⟩ := h.wrote hw
  exact ⟨he, g', h1, h2, h3⟩
theorem put_at {B : Nat} {w0 W : World} {p : Nat} {g : Option Nat} {l : List UInt8} (h : WS B w0 W p g l) (A : Option Addr) (ns : List Nat) (n cap : Nat) (hn : ns.length = n) (hN : Nums w0 B A ns) (hu : AllU64 ns) (hl : n ≤ 2000) (hr : l.length ≤ 35184372088832) :
    Calls Try.prog 21 #[.pointer (some ⟨p, 0, none⟩), .slice A n cap] W (WsE B w0 W p g (l ++ shortsL ns)) := by
  subst hn
  refine (wput_any p g l A ns cap W h.wr ((hN.below h.below).more h.size) (fun hp b hb => ?_) hu (by omega) (by omega)).mono fun e W' hh => WsE.of h hh
  obtain ⟨b', off, rfl, hbB, _⟩ := hN hp
  obtain rfl : b' = b := by simpa [blockOf] using hb
  exact ⟨by have := h.hp; omega, fun e => by have := h.hg _ e; omega⟩
theorem Nums.front {w : World} {B : Nat} {A : Option Addr} {ns : List Nat} (h : Nums w B A ns) (k : Nat) : Nums w B A (ns.take k) := fun hn => by
  rw [List.length_take] at hn
  obtain ⟨b, off, e, hb, hc⟩ := h (by omega)
  refine ⟨b, off, e, hb, fun j hj => ?_⟩
  rw [List.length_take] at hj
  rw [hc j (by omega)]
  simp only [List.getD]
  rw [List.getElem?_take, if_pos (by omega)]
/-- Another Writer stays over it. -/
theorem WS.beside {B : Nat} {w0 W W' : World} {p p' : Nat} {g g' : Option Nat} {l l' : List UInt8} (h : WS B w0 W p g l) (h' : WS B w0 W p' g' l') (hne : p ≠ p') (hg : ∀ k, g = some k → g' ≠ some k) (ho : Only (fun k => k = p' ∨ g' = some k) W W') : WS B w0 W' p g l :=
  h.other ho (by rintro k (e | e); exact Nat.le_trans h'.hp (Nat.le_of_eq e.symm); exact h'.hg k e) (by rintro (e | e); exact hne e; exact h'.wr.cross h.wr e) (by
    rintro k hk (e | e)
    · rw [e] at hk; exact h.wr.cross h'.wr hk
    · exact hg k hk e)
end Go.Proofs.Ytadpbcbgmopfaaa
