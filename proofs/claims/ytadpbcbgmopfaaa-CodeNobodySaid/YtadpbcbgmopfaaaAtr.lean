/-
  A Reader's calls within a law, beside a Writer's. No condition.
-/
import Derived.Test.YtadpbcbgmopfaaaAts
namespace Go.Proofs.Ytadpbcbgmopfaaa
set_option maxRecDepth 20000
open Go.RowKit

theorem newr_at {B : Nat} {w0 V : World} (hb : Below B w0 V) (hB : B ≤ V.heap.size) (A : Option Addr) (l : List UInt8) (n cap : Nat) (hn : l.length = n) (hA : A = none → cap = 0) (hl : Bytes V V.heap.size A l) (hr : n ≤ 70368744177664) :
    Calls Try.prog 27 #[.slice A n cap] V fun e w' =>
      ∃ q d, e = .returned (.pointer (some ⟨q, 0, none⟩)) ∧ Hid (RdS RdT B w0 w' q d ⟨l, false⟩) ∧ Hid (Below V.heap.size V w') ∧ Hid (V.heap.size ≤ q ∧ ∀ k, d = some k → V.heap.size ≤ k) := by
  refine (newr_any A l n cap V.heap.size V hn hA hl (Nat.le_refl _) hr).mono ?_
  rintro e w' ⟨q, d, rfl, h1, h2, h3⟩
  exact ⟨q, d, rfl, ⟨h1.out, hb.trans (h3.out.mono hB), Nat.le_trans hB h2.out.1, fun k hk => Nat.le_trans hB (h2.out.2 k hk)⟩, h3, h2⟩
/-- A Reader and a Writer lie apart. -/
theorem Rd.nowr {w : World} {q p : Nat} {d g : Option Nat} {s : RS} {l : List UInt8} (h : Rd RdT w q d s.l s.bad) (h' : Wr w p g l) : q ≠ p ∧ d ≠ some p ∧ g ≠ some q := by
  obtain ⟨A, cap, h1, h2, h3⟩ := h
  obtain ⟨A', cap', h1', h2', h3'⟩ := h'
  refine ⟨?_, ?_, ?_⟩
  · rintro rfl
    rw [h1] at h1'
    simp at h1'
  · intro e
    rw [e] at h3
    rcases h2.2.2 with ⟨rfl, _⟩ | ⟨b, off, cur, rfl, hh, _⟩
    · cases h3
    · cases h3
      rw [h1'] at hh
      simp at hh
  · intro e
    obtain ⟨-, cur, hc, _⟩ := h2'.block (h3'.trans e)
    rw [h1] at hc
    simp at hc
    exact absurd hc.2 (by decide)
theorem RdS.dlt {T : TypeId} {B : Nat} {w0 W : World} {q : Nat} {d : Option Nat} {s : RS} (h : RdS T B w0 W q d s) : ∀ k, d = some k → k < W.heap.size := h.rd.dlt
/-- A Reader over a Writer's call; a Writer over a Reader's. -/
theorem RdS.over {B : Nat} {w0 W W' : World} {q p : Nat} {d g : Option Nat} {s : RS} {l : List UInt8} (h : RdS RdT B w0 W q d s) (h' : WS B w0 W p g l) (hap : Ap d g) (ho : Only (fun k => k = p ∨ g = some k) W W') : RdS RdT B w0 W' q d s :=
  h.other ho (by rintro k (e | e); exact Nat.le_trans h'.hp (Nat.le_of_eq e.symm); exact h'.hg k e) (by rintro (e | e); exact (h.rd.nowr h'.wr).1 e; exact (h.rd.nowr h'.wr).2.2 e) (by
    rintro k hk (e | e)
    · rw [e] at hk; exact (h.rd.nowr h'.wr).2.1 hk
    · exact hap k hk e)
theorem WS.overR {B : Nat} {w0 W W' : World} {q p : Nat} {d g : Option Nat} {s : RS} {l : List UInt8} (h : WS B w0 W p g l) (h' : RdS RdT B w0 W q d s) (ho : Only (fun k => k = q) W W') : WS B w0 W' p g l :=
  h.other ho (by rintro k rfl; exact h'.hq) (fun e => (h'.rd.nowr h.wr).1 e.symm) (by rintro k hk rfl; exact (h'.rd.nowr h.wr).2.2 hk)
theorem uint_none {s : RS} (h : (parse s.l).2 = 0) : rUint s = (0, ⟨s.l, true⟩) := if_pos (.inr h)
theorem uint_some {l : List UInt8} (h : (parse l).2 ≠ 0) : rUint ⟨l, false⟩ = ((parse l).1, ⟨l.drop (parse l).2, false⟩) := if_neg (by simpa using h)
theorem text_ok {l : List UInt8} {m : Int} (h : ¬ ((parse l).2 = 0 ∨ m < 0 ∨ m < ((parse l).1 : Int) ∨ l.length < (parse l).2 + (parse l).1)) : rText ⟨l, false⟩ m = ((l.drop (parse l).2).take (parse l).1, ⟨l.drop ((parse l).2 + (parse l).1), false⟩) := if_neg (by simpa using h)
theorem text_not {l : List UInt8} {m : Int} (h : (parse l).2 = 0 ∨ m < 0 ∨ m < ((parse l).1 : Int) ∨ l.length < (parse l).2 + (parse l).1) : rText ⟨l, false⟩ m = ([], ⟨l, true⟩) := if_pos (.inr h)
end Go.Proofs.Ytadpbcbgmopfaaa
