/-
  A packet in memory: ten cells; its heads. No condition.
-/
import Derived.Test.YtlcddfkhklmieaaKset
import Derived.Test.YtlcddfkhklmieaaGa
namespace Go.Proofs.Ytlcddfkhklmieaa
open Go.RowKit

theorem mcell_below {w w' : World} {a : Addr} {v : Value} (h : w.cell? a = some v) (hb : Below w.heap.size w w') : w'.cell? a = some v := (hb.cell (World.block_lt_of_cell? w a h)).trans h
/-- A packet's ten cells, in block b. -/
def KBox (b : Nat) (k s t h x y z : Int) (H A P : Option Addr) (nh ch n cap np cp : Nat) (w : World) : Prop :=
  w.cell? ⟨b, 0, none⟩ = some (.int .i64 k) ∧ w.cell? ⟨b, 1, none⟩ = some (.int .i64 s) ∧ w.cell? ⟨b, 2, none⟩ = some (.int .u64 t) ∧ w.cell? ⟨b, 3, none⟩ = some (.int .i64 h) ∧ w.cell? ⟨b, 4, none⟩ = some (.slice H nh ch) ∧
  w.cell? ⟨b, 5, none⟩ = some (.slice A n cap) ∧ w.cell? ⟨b, 6, none⟩ = some (.int .i64 x) ∧ w.cell? ⟨b, 7, none⟩ = some (.int .u64 y) ∧ w.cell? ⟨b, 8, none⟩ = some (.int .u64 z) ∧ w.cell? ⟨b, 9, none⟩ = some (.slice P np cp)
section
variable {b : Nat} {k s t h x y z : Int} {H A P : Option Addr} {nh ch n cap np cp : Nat} {w w' : World}
theorem KBox.below (hk : KBox b k s t h x y z H A P nh ch n cap np cp w) (hb : Below w.heap.size w w') : KBox b k s t h x y z H A P nh ch n cap np cp w' := by
  obtain ⟨k0, k1, k2, k3, k4, k5, k6, k7, k8, k9⟩ := hk
  exact ⟨mcell_below k0 hb, mcell_below k1 hb, mcell_below k2 hb, mcell_below k3 hb, mcell_below k4 hb, mcell_below k5 hb, mcell_below k6 hb, mcell_below k7 hb, mcell_below k8 hb, mcell_below k9 hb⟩
theorem kbox_new (ty : TypeId) : KBox w.heap.size k s t h x y z H A P nh ch n cap np cp (w.alloc (.cells #[.int .i64 k, .int .i64 s, .int .u64 t, .int .i64 h, .slice H nh ch, .slice A n cap, .int .i64 x, .int .u64 y, .int .u64 z, .slice P np cp] ty)) := by
  have hh := heap_alloc_new w (.cells #[.int .i64 k, .int .i64 s, .int .u64 t, .int .i64 h, .slice H nh ch, .slice A n cap, .int .i64 x, .int .u64 y, .int .u64 z, .slice P np cp] ty)
  exact ⟨by rw [cell_of_row _ _ _ _ _ (0, 0) hh]; rfl, by rw [cell_of_row _ _ _ _ _ (0, 0) hh]; rfl, by rw [cell_of_row _ _ _ _ _ (0, 0) hh]; rfl, by rw [cell_of_row _ _ _ _ _ (0, 0) hh]; rfl, by rw [cell_of_row _ _ _ _ _ (0, 0) hh]; rfl, by rw [cell_of_row _ _ _ _ _ (0, 0) hh]; rfl, by rw [cell_of_row _ _ _ _ _ (0, 0) hh]; rfl, by rw [cell_of_row _ _ _ _ _ (0, 0) hh]; rfl, by rw [cell_of_row _ _ _ _ _ (0, 0) hh]; rfl, by rw [cell_of_row _ _ _ _ _ (0, 0) hh]; rfl⟩
end
/-- A slice's address under which the heads l lie, in a block below B. -/
def Hds (w : World) (B : Nat) (A : Option Addr) (l : List Hd) : Prop :=
  0 < l.length → ∃ b off, A = some ⟨b, off, none⟩ ∧ b < B ∧ ∀ k, k < l.length → w.cell? ⟨b, off + k * 4, none⟩ = some (.int .i64 (atH l k).dst) ∧ w.cell? ⟨b, off + k * 4 + 1, none⟩ = some (.int .u64 ((atH l k).conn : Int)) ∧
    w.cell? ⟨b, off + k * 4 + 2, none⟩ = some (.int .u64 ((atH l k).seq : Int)) ∧ w.cell? ⟨b, off + k * 4 + 3, none⟩ = some (.int .u64 ((atH l k).inc : Int))
theorem Hds.below {w w' : World} {B : Nat} {A : Option Addr} {l : List Hd} (h : Hds w B A l) (hb : Below B w w') : Hds w' B A l := fun hn => by
  obtain ⟨b, off, e, hlt, hc⟩ := h hn
  refine ⟨b, off, e, hlt, fun k hk => ?_⟩
  obtain ⟨c0, c1, c2, c3⟩ := hc k hk
  exact ⟨(hb.cell (p := ⟨b, off + k * 4, none⟩) hlt).trans c0, (hb.cell (p := ⟨b, off + k * 4 + 1, none⟩) hlt).trans c1, (hb.cell (p := ⟨b, off + k * 4 + 2, none⟩) hlt).trans c2, (hb.cell (p := ⟨b, off + k * 4 + 3, none⟩) hlt).trans c3⟩
theorem Hds.more {w : World} {B B' : Nat} {A : Option Addr} {l : List Hd} (h : Hds w B A l) (hB : B ≤ B') : Hds w B' A l := fun hn => by
  obtain ⟨b, off, e, hlt, hc⟩ := h hn
  exact ⟨b, off, e, Nat.lt_of_lt_of_le hlt hB, hc⟩
theorem Hds.nil_ {w : World} {B : Nat} {A : Option Addr} : Hds w B A [] := fun h => by simp at h
def HBox (b : Nat) (d c q i : Int) (w : World) : Prop := w.cell? ⟨b, 0, none⟩ = some (.int .i64 d) ∧ w.cell? ⟨b, 1, none⟩ = some (.int .u64 c) ∧ w.cell? ⟨b, 2, none⟩ = some (.int .u64 q) ∧ w.cell? ⟨b, 3, none⟩ = some (.int .u64 i)
theorem HBox.below {b : Nat} {d c q i : Int} {w w' : World} (h : HBox b d c q i w) (hb : Below w.heap.size w w') : HBox b d c q i w' := ⟨mcell_below h.1 hb, mcell_below h.2.1 hb, mcell_below h.2.2.1 hb, mcell_below h.2.2.2 hb⟩
theorem hbox_new (w : World) (d c q i : Int) (ty : TypeId) : HBox w.heap.size d c q i (w.alloc (.cells #[.int .i64 d, .int .u64 c, .int .u64 q, .int .u64 i] ty)) := by
  have hh := heap_alloc_new w (.cells #[.int .i64 d, .int .u64 c, .int .u64 q, .int .u64 i] ty)
  exact ⟨by rw [cell_of_row _ _ _ _ _ (0, 0) hh]; rfl, by rw [cell_of_row _ _ _ _ _ (0, 0) hh]; rfl, by rw [cell_of_row _ _ _ _ _ (0, 0) hh]; rfl, by rw [cell_of_row _ _ _ _ _ (0, 0) hh]; rfl⟩
end Go.Proofs.Ytlcddfkhklmieaa
