/-
  Words for this seat's memory: a slice that reads as a row of bytes, the sixteen entries of the sum's table in their block. No condition.
-/
import Derived.Test.YthobaicphdhflaaDoorRows
import Derived.Test.YthobaicphdhflaaDoorCrc
import Derived.WalkKit
import Derived.WalkLawsBesides
import Derived.WalkSpells
import Derived.IntWalk
import Derived.Lib.Hide
import Derived.BigQuiet
import Derived.Deep.QuietTactic
import Derived.Deep.LoopGhost
import Derived.Deep.AppendLies
import Derived.Maps.AppendAt
import Derived.Deep.OwnRows
import Derived.Laws.CopyOwn
namespace Go.Proofs.YthobaicphdhflaaDoor
open Go.RowKit

/-- The number at place k of a row of bytes. -/
def at8 (l : List UInt8) (k : Nat) : Nat := (l.getD k 0).toNat
theorem at8_lt (l : List UInt8) (k : Nat) : at8 l k < 256 := (l.getD k 0).toNat_lt
/-- The sum's table, in the block of its variable. -/
def Tab (w : World) : Prop := ∀ k, k < 16 → w.cell? ⟨0, k, none⟩ = some (.int .u32 ((Crc.half k : Nat) : Int))
/-- A slice's address A under which the bytes l lie, in a block below B. -/
def Bytes (w : World) (B : Nat) (A : Option Addr) (l : List UInt8) : Prop :=
  0 < l.length → ∃ b off, A = some ⟨b, off, none⟩ ∧ b < B ∧ ∀ k, k < l.length → w.cell? ⟨b, off + k, none⟩ = some (.int .u8 ((at8 l k : Nat) : Int))
/-- A slice's address A under which slices lie that read as the rows ls, all below block B. -/
def Rows8 (w : World) (B : Nat) (A : Option Addr) (ls : List (List UInt8)) : Prop :=
  0 < ls.length → ∃ b off, A = some ⟨b, off, none⟩ ∧ b < B ∧ ∀ k, k < ls.length → ∃ A' cap, w.cell? ⟨b, off + k, none⟩ = some (.slice A' (ls.getD k []).length cap) ∧ Bytes w B A' (ls.getD k []) ∧ (ls.getD k []).length ≤ 140737488355328
section
variable {w w' : World} {B B' : Nat} {A : Option Addr} {l : List UInt8} {ls : List (List UInt8)}
theorem Bytes.nil_ : Bytes w B A [] := fun h => absurd h (by simp)
theorem Bytes.keep (h : Bytes w B A l) (hk : ∀ b o, b < B → w'.cell? ⟨b, o, none⟩ = w.cell? ⟨b, o, none⟩) : Bytes w' B A l := fun hn => by
  obtain ⟨b, off, e, hb, hc⟩ := h hn
  exact ⟨b, off, e, hb, fun k hk' => (hk _ _ hb).trans (hc k hk')⟩
theorem Bytes.more (h : Bytes w B A l) (hB : B ≤ B') : Bytes w B' A l := fun hn => by
  obtain ⟨b, off, e, hb, hc⟩ := h hn
  exact ⟨b, off, e, by omega, hc⟩
theorem Bytes.below (h : Bytes w B A l) (hb : Below B w w') : Bytes w' B A l := h.keep fun b o hp => hb.cell (p := ⟨b, o, none⟩) hp
theorem Bytes.drew (h : Bytes w B A l) : Bytes w.drew B A l := h
theorem Bytes.drewN (h : Bytes w B A l) (k : Nat) : Bytes (w.drewN k) B A l := h
theorem Bytes.alloc (h : Bytes w B A l) (hB : B ≤ w.heap.size) (o : Obj) : Bytes (w.alloc o) B A l := h.keep fun b i hp => World.cell?_alloc_lt w o ⟨b, i, none⟩ (by simp only; omega)
theorem Bytes.setCell (h : Bytes w B A l) {p : Addr} (hB : B ≤ p.block) (u : Value) : Bytes (w.setCell p u) B A l :=
  h.keep fun b i hq => World.cell?_setCell_other w p ⟨b, i, none⟩ u (fun e => by subst e; simp only at hB; omega)
theorem Bytes.grown (h : Bytes w B A l) {row : Option Nat} (hg : w.grownBy w' row) (hB : B ≤ w.heap.size) (hr : ∀ g, row = some g → B ≤ g) : Bytes w' B A l :=
  h.keep fun b i hp => World.cell?_of_block (a := ⟨b, i, none⟩) (hg.block b (by omega) (fun e => by have := hr _ e.symm; omega))
theorem Tab.keep (h : Tab w) (hB : 0 < B) (hk : ∀ b o, b < B → w'.cell? ⟨b, o, none⟩ = w.cell? ⟨b, o, none⟩) : Tab w' := fun k hk' => (hk _ _ hB).trans (h k hk')
theorem Tab.below (h : Tab w) (hB : 0 < B) (hb : Below B w w') : Tab w' := h.keep hB fun b o hp => hb.cell (p := ⟨b, o, none⟩) hp
theorem Tab.drew (h : Tab w) : Tab w.drew := h
theorem Tab.drewN (h : Tab w) (k : Nat) : Tab (w.drewN k) := h
theorem Tab.pos (h : Tab w) : 0 < w.heap.size := World.block_lt_of_cell? _ _ (h 0 (by omega))
theorem Tab.alloc (h : Tab w) (o : Obj) : Tab (w.alloc o) := fun k hk => (World.cell?_alloc_lt w o ⟨0, k, none⟩ h.pos).trans (h k hk)
theorem Tab.setCell (h : Tab w) {p : Addr} (hB : 0 < p.block) (u : Value) : Tab (w.setCell p u) := fun k hk =>
  (World.cell?_setCell_other w p ⟨0, k, none⟩ u (fun e => by subst e; simp only at hB; omega)).trans (h k hk)
theorem Tab.grown (h : Tab w) {row : Option Nat} (hg : w.grownBy w' row) (hr : ∀ g, row = some g → 0 < g) : Tab w' := fun k hk =>
  (World.cell?_of_block (a := ⟨0, k, none⟩) (hg.block _ h.pos (fun e => absurd (hr _ e.symm) (by simp)))).trans (h k hk)
theorem Rows8.keep (h : Rows8 w B A ls) (hk : ∀ b o, b < B → w'.cell? ⟨b, o, none⟩ = w.cell? ⟨b, o, none⟩) : Rows8 w' B A ls := fun hn => by
  obtain ⟨b, off, e, hb, hc⟩ := h hn
  refine ⟨b, off, e, hb, fun k hk' => ?_⟩
  obtain ⟨A', cap, h1, h2, h3⟩ := hc k hk'
  exact ⟨A', cap, (hk _ _ hb).trans h1, h2.keep hk, h3⟩
theorem Rows8.below (h : Rows8 w B A ls) (hb : Below B w w') : Rows8 w' B A ls := h.keep fun b o hp => hb.cell (p := ⟨b, o, none⟩) hp
end

/-! Blocks of bytes that the call itself made. -/
def bv (l : List UInt8) : List Value := l.map fun c => .int .u8 ((c.toNat : Nat) : Int)
@[simp] theorem bv_length (l : List UInt8) : (bv l).length = l.length := by simp [bv]
theorem bv_append (a b : List UInt8) : bv (a ++ b) = bv a ++ bv b := by simp [bv]
theorem bv_one (l : List UInt8) : ∀ v ∈ bv l, v.oneCell' = true := by
  intro v hv
  obtain ⟨c, _, rfl⟩ := List.mem_map.1 hv
  rfl
theorem bv_get {l : List UInt8} {k : Nat} (h : k < l.length) : (bv l)[k]? = some (.int .u8 ((at8 l k : Nat) : Int)) := by simp [bv, at8, List.getD, h]
theorem bv_get_inv {l : List UInt8} {k : Nat} {u : Value} (h : (bv l)[k]? = some u) : k < l.length ∧ u = .int .u8 ((at8 l k : Nat) : Int) := by
  have hk : k < l.length := by
    have := (List.getElem?_eq_some_iff.1 h).1
    simpa using this
  rw [bv_get hk] at h
  exact ⟨hk, (Option.some.inj h).symm⟩
/-- Block g is just the bytes l, none of them frozen. -/
def Blk8 (w : World) (g : Nat) (l : List UInt8) : Prop := w.heap[g]? = some (.cells (bv l).toArray 5 (0, 0))
section
variable {w w' : World} {g : Nat} {l : List UInt8}
theorem Blk8.lt (h : Blk8 w g l) : g < w.heap.size := by
  rcases Nat.lt_or_ge g w.heap.size with hlt | hge
  · exact hlt
  · unfold Blk8 at h; rw [Array.getElem?_eq_none hge] at h; cases h
theorem Blk8.cell (h : Blk8 w g l) {k : Nat} (hk : k < l.length) : w.cell? ⟨g, k, none⟩ = some (.int .u8 ((at8 l k : Nat) : Int)) := by
  rw [cell_of_row w g k _ _ (0, 0) h]
  simpa using bv_get hk
theorem Blk8.frozen (h : Blk8 w g l) (k : Nat) : w.frozen? ⟨g, k, none⟩ = false := by
  unfold Blk8 at h
  simp [World.frozen?, h]
theorem Blk8.drew (h : Blk8 w g l) : Blk8 w.drew g l := h
theorem Blk8.drewN (h : Blk8 w g l) (n : Nat) : Blk8 (w.drewN n) g l := h
theorem Blk8.alloc (h : Blk8 w g l) (o : Obj) : Blk8 (w.alloc o) g l := (Below.heap_alloc w o g h.lt).trans h
theorem Blk8.below {B : Nat} (h : Blk8 w g l) (hb : Below B w w') (hg : g < B) : Blk8 w' g l := (hb.block g hg).trans h
theorem Blk8.grown {row : Option Nat} (h : Blk8 w g l) (hb : w.grownBy w' row) (hg : some g ≠ row) : Blk8 w' g l := (hb.block g h.lt hg).trans h
theorem Blk8.far (h : Blk8 w g l) {p : Addr} (hp : g ≠ p.block) (u : Value) : Blk8 (w.setCell p u) g l := (Below.heap_setCell w p u g hp).trans h
theorem Blk8.set_ (h : Blk8 w g l) (k : Nat) (c : UInt8) : Blk8 (w.setCell ⟨g, k, none⟩ (.int .u8 ((c.toNat : Nat) : Int))) g (l.set k c) := by
  unfold Blk8 at h ⊢
  simp [World.setCell, Array.getElem?_modify, h, bv, List.map_set]
theorem Blk8.bytes (h : Blk8 w g l) (off n : Nat) (hn : off + n ≤ l.length) : Bytes w (g + 1) (some ⟨g, off, none⟩) ((l.drop off).take n) := fun _ => by
  refine ⟨g, off, rfl, by omega, fun k hk => ?_⟩
  have hk' : k < n := by rw [List.length_take] at hk; omega
  rw [h.cell (by omega)]
  simp [at8, List.getD, List.getElem?_drop, hk']
theorem Blk8.all (h : Blk8 w g l) : Bytes w (g + 1) (some ⟨g, 0, none⟩) l := fun _ => ⟨g, 0, rfl, by omega, fun k hk => by rw [Nat.zero_add]; exact h.cell hk⟩
end
theorem Bytes.front {w : World} {B : Nat} {A : Option Addr} {l : List UInt8} (h : Bytes w B A l) (n : Nat) : Bytes w B A (l.take n) := fun hn => by
  rw [List.length_take] at hn
  obtain ⟨b, off, e, hb, hc⟩ := h (by omega)
  refine ⟨b, off, e, hb, fun k hk => ?_⟩
  rw [List.length_take] at hk
  rw [hc k (by omega)]
  simp only [at8, List.getD]
  rw [List.getElem?_take, if_pos (by omega)]
theorem Bytes.back {w : World} {B b off : Nat} {l : List UInt8} (h : Bytes w B (some ⟨b, off, none⟩) l) (n : Nat) : Bytes w B (some ⟨b, off + n, none⟩) (l.drop n) := fun hn => by
  rw [List.length_drop] at hn
  obtain ⟨b', off', e, hb, hc⟩ := h (by omega)
  obtain ⟨rfl, rfl⟩ : b = b' ∧ off = off' := by simpa using e
  refine ⟨b, off + n, rfl, hb, fun k hk => ?_⟩
  rw [List.length_drop] at hk
  rw [Nat.add_assoc, hc (n + k) (by omega)]
  simp [at8, List.getD, List.getElem?_drop]
theorem add_mk (b off j : Nat) : (⟨b, off, none⟩ : Addr).add j = ⟨b, off + j, none⟩ := by
  unfold Addr.add
  split
  · rename_i h; subst h; rfl
  · rfl
theorem Bytes.src {w : World} {B : Nat} {A : Option Addr} {l : List UInt8} (h : Bytes w B A l) (hn : 0 < (bv l).length) : ∃ ad, A = some ad ∧ ∀ j v, (bv l)[j]? = some v → w.cell? (ad.add j) = some v := by
  obtain ⟨b, off, rfl, _, hc⟩ := h (by simpa using hn)
  refine ⟨_, rfl, fun j v hv => ?_⟩
  obtain ⟨hj, rfl⟩ := bv_get_inv hv
  rw [add_mk]
  exact hc j hj
theorem Tryd.infoU8 : (Tryd.prog.info? 5).map (fun i => (i.zero, i.size, i.bytes)) = some (some (.int .u8 0), 1, 1) := by kernel_rfl
theorem made_u8 (n : Nat) : madeCells #[.int .u8 0] n = (bv (List.replicate n 0)).toArray := by
  apply Array.ext
  · simp [size_madeCells]
  · intro i h1 h2
    simp [madeCells, bv, Nat.mod_one]
end Go.Proofs.YthobaicphdhflaaDoor
