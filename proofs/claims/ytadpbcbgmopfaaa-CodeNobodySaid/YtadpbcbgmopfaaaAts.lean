/-
  A Writer's calls within a law, and a law's own slice of bytes beside them. No condition.
-/
import Derived.Test.YtadpbcbgmopfaaaAt
import Derived.Test.YtadpbcbgmopfaaaRefw
namespace Go.Proofs.Ytadpbcbgmopfaaa
set_option maxRecDepth 20000
open Go.RowKit

/-- No block is both. -/
def Ap (a b : Option Nat) : Prop := ∀ k, a = some k → b ≠ some k
theorem Ap.symm {a b : Option Nat} (h : Ap a b) : Ap b a := fun k e e' => h k e' e
theorem Ap.none_left {b : Option Nat} : Ap none b := fun _ h => by cases h
theorem Ap.none_right {b : Option Nat} : Ap b none := fun _ _ h => by cases h
theorem Ap.new {W : World} {a a' b : Option Nat} (h : Ap a b) (hn : NewOr W a a') (hb : ∀ k, b = some k → k < W.heap.size) : Ap a' b := by
  rcases hn with rfl | ⟨k, rfl, hk⟩
  · exact h
  · intro j e e'
    cases e
    have := hb _ e'
    omega
theorem Ap.late {a b : Option Nat} {n : Nat} (ha : ∀ k, a = some k → k < n) (hb : ∀ k, b = some k → n ≤ k) : Ap a b := fun k e e' => by have := ha k e; have := hb k e'; omega
theorem WS.glt {B : Nat} {w0 W : World} {p : Nat} {g : Option Nat} {l : List UInt8} (h : WS B w0 W p g l) : ∀ k, g = some k → k < W.heap.size := h.wr.glt
/-- A law's own slice of bytes. -/
structure BS (B : Nat) (w0 W : World) (A : Option Addr) (n cap : Nat) (l : List UInt8) : Prop where
  own : Own8 W 0 A n cap l
  below : Below B w0 W
  hA : ∀ k, blockOf A = some k → B ≤ k
section
variable {B : Nat} {w0 W W' : World} {A : Option Addr} {n cap : Nat} {l : List UInt8} {p : Nat} {g : Option Nat} {l' : List UInt8}
theorem BS.lt (h : BS B w0 W A n cap l) : ∀ k, blockOf A = some k → k < W.heap.size := fun _ hk => (h.own.lt hk).2
theorem BS.nowr (h : BS B w0 W A n cap l) (h' : Wr W p g l') : blockOf A ≠ some p := by
  obtain ⟨A', cap', h1, _⟩ := h'
  intro e
  obtain ⟨-, cur, hc, _⟩ := h.own.block e
  rw [h1] at hc
  simp at hc
theorem BS.later (h : BS B w0 W A n cap l) (hB : B ≤ W.heap.size) (hb : Below W.heap.size W W') : BS B w0 W' A n cap l :=
  ⟨h.own.keep (S := fun _ => False) (Only.ofBelow hb) (fun _ _ h => h), h.below.trans (hb.mono hB), h.hA⟩
/-- Over a Writer's call. -/
theorem BS.over (h : BS B w0 W A n cap l) (h' : WS B w0 W p g l') (hap : Ap (blockOf A) g) (ho : Only (fun k => k = p ∨ g = some k) W W') : BS B w0 W' A n cap l :=
  ⟨h.own.keep ho (by
    rintro k hk (e | e)
    · subst e; exact h.nowr h'.wr hk
    · exact hap k hk e), ho.below h.below (by rintro k (e | e); exact Nat.le_trans h'.hp (Nat.le_of_eq e.symm); exact h'.hg k e) h'.size, h.hA⟩
/-- A Writer over an append to it. -/
theorem WS.over (h : WS B w0 W p g l') (h' : BS B w0 W A n cap l) (hap : Ap (blockOf A) g) (ho : Only (fun k => blockOf A = some k) W W') : WS B w0 W' p g l' :=
  h.other ho h'.hA (fun e => h'.nowr h.wr e) (fun k hk e => hap k e hk)
theorem BS.grown {A' : Option Addr} {n' cap' : Nat} {l2 : List UInt8} (h : BS B w0 W A n cap l) (hB : B ≤ W.heap.size) (h1 : Own8 W' 0 A' n' cap' l2) (ho : Only (fun k => blockOf A = some k) W W') (hn : NewOr W (blockOf A) (blockOf A')) : BS B w0 W' A' n' cap' l2 :=
  ⟨h1, ho.below h.below h.hA hB, hn.ge hB h.hA⟩
end
theorem uint_at {B : Nat} {w0 W : World} {p : Nat} {g : Option Nat} {l : List UInt8} (h : WS B w0 W p g l) (x : Nat) (hx : x < 18446744073709551616) (hr : l.length ≤ 35184372088832) :
    Calls Try.prog 22 #[.pointer (some ⟨p, 0, none⟩), .int .u64 (x : Int)] W (WsE B w0 W p g (l ++ shortL x)) :=
  (wuint_any p g l x W h.wr hx (by omega)).mono fun _ _ hh => WsE.of h hh
theorem text_at {B : Nat} {w0 W : World} {p : Nat} {g : Option Nat} {l : List UInt8} (h : WS B w0 W p g l) (s : ByteArray) (hs : s.size ≤ 1048576) (hr : l.length ≤ 35184372088832) :
    Calls Try.prog 24 #[.pointer (some ⟨p, 0, none⟩), .string s] W (WsE B w0 W p g (l ++ (shortL s.size ++ strL s))) :=
  (wtext_any p g l s W h.wr (by omega) (by omega)).mono fun _ _ hh => WsE.of h hh
theorem bytes_at {B : Nat} {w0 W : World} {p : Nat} {g : Option Nat} {l : List UInt8} (h : WS B w0 W p g l) (hr : l.length ≤ 35184372088832) :
    Calls Try.prog 19 #[.pointer (some ⟨p, 0, none⟩)] W (BytesE W l) := wbytes_any p g l W h.wr (by omega)
theorem len_at {B : Nat} {w0 W : World} {p : Nat} {g : Option Nat} {l : List UInt8} (h : WS B w0 W p g l) (n : Nat) (hn : l.length = n) :
    Calls Try.prog 20 #[.pointer (some ⟨p, 0, none⟩)] W fun e w' => e = .returned (.int .i64 (n : Int)) ∧ W = w' := wlen_any p g l n W h.wr hn
end Go.Proofs.Ytadpbcbgmopfaaa
