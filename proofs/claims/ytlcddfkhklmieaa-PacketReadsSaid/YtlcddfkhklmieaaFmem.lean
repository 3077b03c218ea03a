/-
  A frame in memory: ten cells, the last of them a slice of bytes. No condition.
-/
import Derived.Test.YtlcddfkhklmieaaFset
import Derived.Test.YtlcddfkhklmieaaGa
namespace Go.Proofs.Ytlcddfkhklmieaa
open Go.RowKit

theorem fcell_new (w : World) (cs : Array Value) (t : TypeId) (k : Nat) (v : Value) (h : cs[k]? = some v) : (w.alloc (.cells cs t)).cell? ⟨w.heap.size, k, none⟩ = some v := by
  rw [cell_of_row _ _ _ _ _ (0, 0) (heap_alloc_new w _)]; exact h
theorem fcell_below {w w' : World} {a : Addr} {v : Value} (h : w.cell? a = some v) (hb : Below w.heap.size w w') : w'.cell? a = some v := (hb.cell (World.block_lt_of_cell? w a h)).trans h
theorem fbelow_box (w : World) (o : Obj) : Below w.heap.size w (w.alloc o) := (Below.refl w.heap.size w).alloc (Nat.le_refl _) o
theorem fbtr {w W W' : World} (h : Below w.heap.size w W) (k : Below W.heap.size W W') : Below w.heap.size w W' := h.trans (k.mono h.size)
/-- A frame's ten cells. -/
def frC (f : Fr) (A : Option Addr) (n cap : Nat) : Array Value := #[.int .i64 f.kind, .int .i64 f.src, .int .i64 f.dst, .int .u64 (f.inc : Int), .int .u64 (f.conn : Int), .int .u64 (f.pinc : Int), .int .u64 (f.pconn : Int), .int .u64 (f.ack : Int), .int .u64 (f.seq : Int), .slice A n cap]
def frV (f : Fr) (A : Option Addr) (n cap : Nat) : Value := .agg (frC f A n cap)
/-- They lie in block b. -/
def FBox (b : Nat) (k s t i c p q a e : Int) (A : Option Addr) (n cap : Nat) (w : World) : Prop :=
  w.cell? ⟨b, 0, none⟩ = some (.int .i64 k) ∧ w.cell? ⟨b, 1, none⟩ = some (.int .i64 s) ∧ w.cell? ⟨b, 2, none⟩ = some (.int .i64 t) ∧ w.cell? ⟨b, 3, none⟩ = some (.int .u64 i) ∧ w.cell? ⟨b, 4, none⟩ = some (.int .u64 c) ∧
  w.cell? ⟨b, 5, none⟩ = some (.int .u64 p) ∧ w.cell? ⟨b, 6, none⟩ = some (.int .u64 q) ∧ w.cell? ⟨b, 7, none⟩ = some (.int .u64 a) ∧ w.cell? ⟨b, 8, none⟩ = some (.int .u64 e) ∧ w.cell? ⟨b, 9, none⟩ = some (.slice A n cap)
theorem FBox.below {b : Nat} {k s t i c p q a e : Int} {A : Option Addr} {n cap : Nat} {w w' : World} (h : FBox b k s t i c p q a e A n cap w) (hb : Below w.heap.size w w') : FBox b k s t i c p q a e A n cap w' := by
  obtain ⟨k0, k1, k2, k3, k4, k5, k6, k7, k8, k9⟩ := h
  exact ⟨fcell_below k0 hb, fcell_below k1 hb, fcell_below k2 hb, fcell_below k3 hb, fcell_below k4 hb, fcell_below k5 hb, fcell_below k6 hb, fcell_below k7 hb, fcell_below k8 hb, fcell_below k9 hb⟩
theorem fbox_new (w : World) (k s t i c p q a e : Int) (A : Option Addr) (n cap : Nat) (ty : TypeId) :
    FBox w.heap.size k s t i c p q a e A n cap (w.alloc (.cells #[.int .i64 k, .int .i64 s, .int .i64 t, .int .u64 i, .int .u64 c, .int .u64 p, .int .u64 q, .int .u64 a, .int .u64 e, .slice A n cap] ty)) :=
  ⟨fcell_new w _ _ 0 _ rfl, fcell_new w _ _ 1 _ rfl, fcell_new w _ _ 2 _ rfl, fcell_new w _ _ 3 _ rfl, fcell_new w _ _ 4 _ rfl, fcell_new w _ _ 5 _ rfl, fcell_new w _ _ 6 _ rfl, fcell_new w _ _ 7 _ rfl, fcell_new w _ _ 8 _ rfl, fcell_new w _ _ 9 _ rfl⟩
/-- Whether a frame may be, by its numbers. -/
def mayI (k s t i c p q a e : Int) (n : Nat) : Prop :=
  1 ≤ s ∧ s ≤ 10 ∧ 1 ≤ t ∧ t ≤ 10 ∧ s ≠ t ∧ i < 34359738368 ∧ c < 34359738368 ∧ p < 34359738368 ∧ q < 34359738368 ∧ a < 34359738368 ∧ e < 34359738368 ∧ i ≠ 0 ∧ c ≠ 0 ∧
  ((p = 0 ∧ q = 0 ∧ a = 0) ∨ (p ≠ 0 ∧ q ≠ 0)) ∧ ((k = 1 ∧ e = 0 ∧ n = 0) ∨ (k = 2 ∧ p ≠ 0 ∧ q ≠ 0 ∧ e ≠ 0 ∧ 1 ≤ n ∧ n ≤ 448))
instance (k s t i c p q a e : Int) (n : Nat) : Decidable (mayI k s t i c p q a e n) := by unfold mayI; infer_instance
theorem mayF_int (f : Fr) (n : Nat) (hn : f.body.length = n) : decide (mayF f) = decide (mayI f.kind f.src f.dst f.inc f.conn f.pinc f.pconn f.ack f.seq n) := by
  subst hn
  have hb : f.body = [] ↔ f.body.length = 0 := List.length_eq_zero_iff.symm
  rw [Bool.eq_iff_iff, decide_eq_true_iff, decide_eq_true_iff]
  unfold mayF mayI nodeF countsF cnt noPeer peer helloF dataF peer
  rw [hb]
  omega
end Go.Proofs.Ytlcddfkhklmieaa
