/-
  What Encode, Decode, May and Same come to, at frames whose cells are written out. Condition: the sum's table stands as it was laid.
-/
import Derived.Test.YtelbhlkojpnmgaaDoorFawake
namespace Go.Proofs.YtelbhlkojpnmgaaDoor
set_option maxRecDepth 20000
open Go.RowKit

theorem enc_at (k s t : Int) (x c p q a e : Nat) (A : Option Addr) (n cap : Nat) (B : Nat) (l : List UInt8) (W : World) (ht : Tab W) (hn : l.length = n) (hb : Bytes W B A l) (hB : B ≤ W.heap.size) :
    Calls Tryd.prog 14 #[.agg #[.int .i64 k, .int .i64 s, .int .i64 t, .int .u64 (x : Int), .int .u64 (c : Int), .int .u64 (p : Int), .int .u64 (q : Int), .int .u64 (a : Int), .int .u64 (e : Int), .slice A n cap]] W (EncE W ⟨k, s, t, x, c, p, q, a, e, l⟩) := enc_any ⟨k, s, t, x, c, p, q, a, e, l⟩ A n cap B W ht hn hb hB
theorem may_at (k s t : Int) (x c p q a e : Nat) (A : Option Addr) (n cap : Nat) (l : List UInt8) (W : World) (hn : l.length = n) :
    Calls Tryd.prog 10 #[.agg #[.int .i64 k, .int .i64 s, .int .i64 t, .int .u64 (x : Int), .int .u64 (c : Int), .int .u64 (p : Int), .int .u64 (q : Int), .int .u64 (a : Int), .int .u64 (e : Int), .slice A n cap]] W (fun en w' => en = .returned (.bool (decide (mayF ⟨k, s, t, x, c, p, q, a, e, l⟩))) ∧ Hid (Below W.heap.size W w')) := fmay_any ⟨k, s, t, x, c, p, q, a, e, l⟩ A n cap hn W
theorem dec_none {w w' : World} {e : Ending} {l : List UInt8} (hm : readF l = none) (h : DecE w l e w') : ∃ A cap, e = .returned (.tuple #[.agg #[.int .i64 0, .int .i64 0, .int .i64 0, .int .u64 0, .int .u64 0, .int .u64 0, .int .u64 0, .int .u64 0, .int .u64 0, .slice A 0 cap], .int .i64 3]) ∧ Hid (Below w.heap.size w w') := by
  unfold DecE at h
  rw [hm] at h
  obtain ⟨A, cap, he, _, hb⟩ := h
  exact ⟨A, cap, he, hb⟩
theorem dec_at {w w' : World} {en : Ending} {k s t : Int} {x c p q a e : Nat} {l : List UInt8} (hm : mayF ⟨k, s, t, x, c, p, q, a, e, l⟩) (h : DecE w (frameL ⟨k, s, t, x, c, p, q, a, e, l⟩) en w') : ∃ A cap, en = .returned (.tuple #[.agg #[.int .i64 k, .int .i64 s, .int .i64 t, .int .u64 (x : Int), .int .u64 (c : Int), .int .u64 (p : Int), .int .u64 (q : Int), .int .u64 (a : Int), .int .u64 (e : Int), .slice A l.length cap], .int .i64 0]) ∧ Hid (Wbl w' w.heap.size A cap l) ∧ Hid (Below w.heap.size w w') := dec_put hm h
theorem readF_nil : readF [] = none := readF_unsealed (by decide)
theorem same_at (k s t : Int) (x c p q a e : Nat) (A A' : Option Addr) (n cap cap' B : Nat) (l : List UInt8) (W : World) (hn : l.length = n) (h1 : Bytes W B A l) (h2 : Bytes W B A' l) (hB : B ≤ W.heap.size) :
    Calls Tryd.prog 16 #[.agg #[.int .i64 k, .int .i64 s, .int .i64 t, .int .u64 (x : Int), .int .u64 (c : Int), .int .u64 (p : Int), .int .u64 (q : Int), .int .u64 (a : Int), .int .u64 (e : Int), .slice A n cap], .agg #[.int .i64 k, .int .i64 s, .int .i64 t, .int .u64 (x : Int), .int .u64 (c : Int), .int .u64 (p : Int), .int .u64 (q : Int), .int .u64 (a : Int), .int .u64 (e : Int), .slice A' n cap']] W fun en w' => en = .returned (.bool true) ∧ Hid (Below W.heap.size W w') := by
  have h := fsame_any ⟨k, s, t, x, c, p, q, a, e, l⟩ ⟨k, s, t, x, c, p, q, a, e, l⟩ A A' n cap n cap' B hn hn W h1 h2 hB
  rw [decide_eq_true rfl] at h
  exact h
end Go.Proofs.YtelbhlkojpnmgaaDoor
