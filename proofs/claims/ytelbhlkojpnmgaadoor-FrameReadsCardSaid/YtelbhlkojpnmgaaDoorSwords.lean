/-
  Words for this seat's memory: a slice that reads as a row of bytes, the sixteen entries of the sum's table in their block. No condition.
-/
import Derived.Test.YtelbhlkojpnmgaaDoorRows
import Derived.Test.YtelbhlkojpnmgaaDoorCrc
import Derived.Test.YtelbhlkojpnmgaaDoorGa
import Derived.Test.YtelbhlkojpnmgaaDoorGb
import Derived.WalkKit
import Derived.WalkLawsBesides
import Derived.WalkSpells
import Derived.IntWalk
import Derived.Lib.Hide
import Derived.BigQuiet
import Derived.Deep.QuietTactic
import Derived.Deep.LoopGhost
import Derived.Deep.AppendLies
import Derived.Maps.AppendAt
import Derived.Deep.OwnRows
import Derived.Laws.CopyOwn
namespace Go.Proofs.YtelbhlkojpnmgaaDoor
open Go.RowKit

/-- The sum's table, in the block of its variable. -/
def Tab (w : World) : Prop := ∀ k, k < 16 → w.cell? ⟨0, k, none⟩ = some (.int .u32 ((Crc.half k : Nat) : Int))
/-- A slice's address A under which slices lie that read as the rows ls, all below block B. -/
def Rows8 (w : World) (B : Nat) (A : Option Addr) (ls : List (List UInt8)) : Prop :=
  0 < ls.length → ∃ b off, A = some ⟨b, off, none⟩ ∧ b < B ∧ ∀ k, k < ls.length → ∃ A' cap, w.cell? ⟨b, off + k, none⟩ = some (.slice A' (ls.getD k []).length cap) ∧ Bytes w B A' (ls.getD k []) ∧ (ls.getD k []).length ≤ 140737488355328
section
variable {w w' : World} {B B' : Nat} {A : Option Addr} {l : List UInt8} {ls : List (List UInt8)}
theorem Bytes.grown (h : Bytes w B A l) {row : Option Nat} (hg : w.grownBy w' row) (hB : B ≤ w.heap.size) (hr : ∀ g, row = some g → B ≤ g) : Bytes w' B A l :=
  h.keep fun b i hp => World.cell?_of_block (a := ⟨b, i, none⟩) (hg.block b (by omega) (fun e => by have := hr _ e.symm; omega))
theorem Tab.keep (h : Tab w) (hB : 0 < B) (hk : ∀ b o, b < B → w'.cell? ⟨b, o, none⟩ = w.cell? ⟨b, o, none⟩) : Tab w' := fun k hk' => (hk _ _ hB).trans (h k hk')
theorem Tab.below (h : Tab w) (hB : 0 < B) (hb : Below B w w') : Tab w' := h.keep hB fun b o hp => hb.cell (p := ⟨b, o, none⟩) hp
theorem Tab.drew (h : Tab w) : Tab w.drew := h
theorem Tab.drewN (h : Tab w) (k : Nat) : Tab (w.drewN k) := h
theorem Tab.pos (h : Tab w) : 0 < w.heap.size := World.block_lt_of_cell? _ _ (h 0 (by omega))
theorem Tab.alloc (h : Tab w) (o : Obj) : Tab (w.alloc o) := fun k hk => (World.cell?_alloc_lt w o ⟨0, k, none⟩ h.pos).trans (h k hk)
theorem Tab.setCell (h : Tab w) {p : Addr} (hB : 0 < p.block) (u : Value) : Tab (w.setCell p u) := fun k hk =>
  (World.cell?_setCell_other w p ⟨0, k, none⟩ u (fun e => by subst e; simp only at hB; omega)).trans (h k hk)
theorem Tab.grown (h : Tab w) {row : Option Nat} (hg : w.grownBy w' row) (hr : ∀ g, row = some g → 0 < g) : Tab w' := fun k hk =>
  (World.cell?_of_block (a := ⟨0, k, none⟩) (hg.block _ h.pos (fun e => absurd (hr _ e.symm) (by simp)))).trans (h k hk)
theorem Rows8.keep (h : Rows8 w B A ls) (hk : ∀ b o, b < B → w'.cell? ⟨b, o, none⟩ = w.cell? ⟨b, o, none⟩) : Rows8 w' B A ls := fun hn => by
  obtain ⟨b, off, e, hb, hc⟩ := h hn
  refine ⟨b, off, e, hb, fun k hk' => ?_⟩
  obtain ⟨A', cap, h1, h2, h3⟩ := hc k hk'
  exact ⟨A', cap, (hk _ _ hb).trans h1, h2.keep hk, h3⟩
theorem Rows8.below (h : Rows8 w B A ls) (hb : Below B w w') : Rows8 w' B A ls := h.keep fun b o hp => hb.cell (p := ⟨b, o, none⟩) hp
end

/-! Blocks of bytes that the call itself made. -/
section
variable {w w' : World} {g : Nat} {l : List UInt8}
theorem Blk8.lt (h : Blk8 w g l) : g < w.heap.size := by
  rcases Nat.lt_or_ge g w.heap.size with hlt | hge
  · exact hlt
  · unfold Blk8 at h; rw [Array.getElem?_eq_none hge] at h; cases h
theorem Blk8.drew (h : Blk8 w g l) : Blk8 w.drew g l := h
theorem Blk8.drewN (h : Blk8 w g l) (n : Nat) : Blk8 (w.drewN n) g l := h
theorem Blk8.alloc (h : Blk8 w g l) (o : Obj) : Blk8 (w.alloc o) g l := (Below.heap_alloc w o g h.lt).trans h
theorem Blk8.below {B : Nat} (h : Blk8 w g l) (hb : Below B w w') (hg : g < B) : Blk8 w' g l := (hb.block g hg).trans h
theorem Blk8.grown {row : Option Nat} (h : Blk8 w g l) (hb : w.grownBy w' row) (hg : some g ≠ row) : Blk8 w' g l := (hb.block g h.lt hg).trans h
theorem Blk8.far (h : Blk8 w g l) {p : Addr} (hp : g ≠ p.block) (u : Value) : Blk8 (w.setCell p u) g l := (Below.heap_setCell w p u g hp).trans h
theorem Blk8.bytes (h : Blk8 w g l) (off n : Nat) (hn : off + n ≤ l.length) : Bytes w (g + 1) (some ⟨g, off, none⟩) ((l.drop off).take n) := fun _ => by
  refine ⟨g, off, rfl, by omega, fun k hk => ?_⟩
  have hk' : k < n := by rw [List.length_take] at hk; omega
  rw [h.cell (by omega)]
  simp [at8, List.getD, List.getElem?_drop, hk']
theorem Blk8.all (h : Blk8 w g l) : Bytes w (g + 1) (some ⟨g, 0, none⟩) l := fun _ => ⟨g, 0, rfl, by omega, fun k hk => by rw [Nat.zero_add]; exact h.cell hk⟩
end
end Go.Proofs.YtelbhlkojpnmgaaDoor
