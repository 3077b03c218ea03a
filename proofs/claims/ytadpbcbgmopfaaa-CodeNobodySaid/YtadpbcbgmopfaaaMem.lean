/-
  Words for a seat's memory: a slice that reads as a row of bytes; a slice of bytes that the program itself made; what a call leaves alone. No condition.
-/
import Derived.Test.YtadpbcbgmopfaaaRows
import Derived.WalkKit
import Derived.WalkLawsBesides
import Derived.WalkSpells
import Derived.IntWalk
import Derived.Lib.Hide
import Derived.BigQuiet
import Derived.Deep.QuietTactic
import Derived.Deep.LoopGhost
import Derived.Maps.AppendAt
import Derived.Deep.OwnRows
import Derived.Laws.CopyOwn
import Derived.Laws.AppendOwnNone
namespace Go.Proofs.Ytadpbcbgmopfaaa
open Go.RowKit

/-- The number at place k of a row of bytes. -/
def at8 (l : List UInt8) (k : Nat) : Nat := (l.getD k 0).toNat
theorem at8_lt (l : List UInt8) (k : Nat) : at8 l k < 256 := (l.getD k 0).toNat_lt
/-- A slice's address A under which the bytes l lie, in a block below B. -/
def Bytes (w : World) (B : Nat) (A : Option Addr) (l : List UInt8) : Prop :=
  0 < l.length → ∃ b off, A = some ⟨b, off, none⟩ ∧ b < B ∧ ∀ k, k < l.length → w.cell? ⟨b, off + k, none⟩ = some (.int .u8 ((at8 l k : Nat) : Int))

/-- Nothing that was there has turned but the blocks that S names. -/
structure Only (S : Nat → Prop) (w w' : World) : Prop where
  os : w'.os = w.os
  tape : w'.tape = w.tape
  output : w'.output = w.output
  size : w.heap.size ≤ w'.heap.size
  block : ∀ k, k < w.heap.size → ¬ S k → w'.heap[k]? = w.heap[k]?
namespace Only
variable {S T : Nat → Prop} {a b c w w' : World}
theorem refl (S : Nat → Prop) (w : World) : Only S w w := ⟨rfl, rfl, rfl, Nat.le_refl _, fun _ _ _ => rfl⟩
theorem weak (h : Only T w w') (hS : ∀ k, k < w.heap.size → T k → S k) : Only S w w' := ⟨h.os, h.tape, h.output, h.size, fun k hk hn => h.block k hk fun ht => hn (hS k hk ht)⟩
theorem trans (h : Only S a b) (k : Only T b c) (hT : ∀ k, k < a.heap.size → T k → S k) : Only S a c :=
  ⟨k.os.trans h.os, k.tape.trans h.tape, k.output.trans h.output, Nat.le_trans h.size k.size, fun i hi hn => (k.block i (Nat.lt_of_lt_of_le hi h.size) fun ht => hn (hT i hi ht)).trans (h.block i hi hn)⟩
theorem ofBelow (h : Below w.heap.size w w') : Only S w w' := ⟨h.os, h.tape, h.output, h.size, fun k hk _ => h.block k hk⟩
theorem ofGrown {row : Option Nat} (h : w.grownBy w' row) : Only (fun k => row = some k) w w' := ⟨h.os, h.tape, h.output, h.size, fun k hk hn => h.block k hk fun e => hn e.symm⟩
theorem alloc (h : Only S a w) (o : Obj) : Only S a (w.alloc o) :=
  ⟨h.os, h.tape, h.output, by have := h.size; simp; omega, fun k hk hn => (Below.heap_alloc w o k (Nat.lt_of_lt_of_le hk h.size)).trans (h.block k hk hn)⟩
theorem setCell (h : Only S a w) {p : Addr} (hp : S p.block ∨ a.heap.size ≤ p.block) (u : Value) : Only S a (w.setCell p u) :=
  ⟨h.os, h.tape, h.output, by have := h.size; simpa using this, fun k hk hn => (Below.heap_setCell w p u k (fun e => by
    subst e
    rcases hp with hp | hp
    · exact hn hp
    · omega)).trans (h.block k hk hn)⟩
theorem drew (h : Only S a w) : Only S a w.drew := ⟨h.os, h.tape, h.output, h.size, h.block⟩
theorem drewN (h : Only S a w) (n : Nat) : Only S a (w.drewN n) := ⟨h.os, h.tape, h.output, h.size, h.block⟩
/-- What lies below all that turned is as it was. -/
theorem below {B : Nat} {w0 : World} (h : Only S w w') (hb : Below B w0 w) (hS : ∀ k, S k → B ≤ k) (hB : B ≤ w.heap.size) : Below B w0 w' :=
  ⟨h.os.trans hb.os, h.tape.trans hb.tape, h.output.trans hb.output, Nat.le_trans hb.size h.size, fun k hk => (h.block k (Nat.lt_of_lt_of_le hk hB) fun hs => by have := hS k hs; omega).trans (hb.block k hk)⟩
theorem cell (h : Only S w w') {p : Addr} (hp : p.block < w.heap.size) (hn : ¬ S p.block) : w'.cell? p = w.cell? p := World.cell?_of_block (w := w) (h.block p.block hp hn)
end Only
theorem lt_of_heap {w : World} {k : Nat} {o : Obj} (h : w.heap[k]? = some o) : k < w.heap.size := by
  rcases Nat.lt_or_ge k w.heap.size with hlt | hge
  · exact hlt
  · rw [Array.getElem?_eq_none hge] at h; cases h

section
variable {w w' : World} {B B' : Nat} {A : Option Addr} {l : List UInt8}
theorem Bytes.nil_ : Bytes w B A [] := fun h => absurd h (by simp)
theorem Bytes.keep (h : Bytes w B A l) (hk : ∀ b o, b < B → w'.cell? ⟨b, o, none⟩ = w.cell? ⟨b, o, none⟩) : Bytes w' B A l := fun hn => by
  obtain ⟨b, off, e, hb, hc⟩ := h hn
  exact ⟨b, off, e, hb, fun k hk' => (hk _ _ hb).trans (hc k hk')⟩
theorem Bytes.more (h : Bytes w B A l) (hB : B ≤ B') : Bytes w B' A l := fun hn => by
  obtain ⟨b, off, e, hb, hc⟩ := h hn
  exact ⟨b, off, e, by omega, hc⟩
theorem Bytes.below (h : Bytes w B A l) (hb : Below B w w') : Bytes w' B A l := h.keep fun b o hp => hb.cell (p := ⟨b, o, none⟩) hp
theorem Bytes.drew (h : Bytes w B A l) : Bytes w.drew B A l := h
theorem Bytes.drewN (h : Bytes w B A l) (k : Nat) : Bytes (w.drewN k) B A l := h
theorem Bytes.alloc (h : Bytes w B A l) (hB : B ≤ w.heap.size) (o : Obj) : Bytes (w.alloc o) B A l := h.keep fun b i hp => World.cell?_alloc_lt w o ⟨b, i, none⟩ (by simp only; omega)
theorem Bytes.setCell (h : Bytes w B A l) {p : Addr} (hB : B ≤ p.block) (u : Value) : Bytes (w.setCell p u) B A l :=
  h.keep fun b i hq => World.cell?_setCell_other w p ⟨b, i, none⟩ u (fun e => by subst e; simp only at hB; omega)
end

/-! Blocks of bytes that the call itself made. -/
def bv (l : List UInt8) : List Value := l.map fun c => .int .u8 ((c.toNat : Nat) : Int)
@[simp] theorem bv_length (l : List UInt8) : (bv l).length = l.length := by simp [bv]
theorem bv_append (a b : List UInt8) : bv (a ++ b) = bv a ++ bv b := by simp [bv]
theorem bv_one (l : List UInt8) : ∀ v ∈ bv l, v.oneCell' = true := by
  intro v hv
  obtain ⟨c, _, rfl⟩ := List.mem_map.1 hv
  rfl
theorem bv_get {l : List UInt8} {k : Nat} (h : k < l.length) : (bv l)[k]? = some (.int .u8 ((at8 l k : Nat) : Int)) := by simp [bv, at8, List.getD, h]
theorem bv_get_inv {l : List UInt8} {k : Nat} {u : Value} (h : (bv l)[k]? = some u) : k < l.length ∧ u = .int .u8 ((at8 l k : Nat) : Int) := by
  have hk : k < l.length := by
    have := (List.getElem?_eq_some_iff.1 h).1
    simpa using this
  rw [bv_get hk] at h
  exact ⟨hk, (Option.some.inj h).symm⟩
theorem Bytes.front {w : World} {B : Nat} {A : Option Addr} {l : List UInt8} (h : Bytes w B A l) (n : Nat) : Bytes w B A (l.take n) := fun hn => by
  rw [List.length_take] at hn
  obtain ⟨b, off, e, hb, hc⟩ := h (by omega)
  refine ⟨b, off, e, hb, fun k hk => ?_⟩
  rw [List.length_take] at hk
  rw [hc k (by omega)]
  simp only [at8, List.getD]
  rw [List.getElem?_take, if_pos (by omega)]
theorem Bytes.back {w : World} {B b off : Nat} {l : List UInt8} (h : Bytes w B (some ⟨b, off, none⟩) l) (n : Nat) : Bytes w B (some ⟨b, off + n, none⟩) (l.drop n) := fun hn => by
  rw [List.length_drop] at hn
  obtain ⟨b', off', e, hb, hc⟩ := h (by omega)
  obtain ⟨rfl, rfl⟩ : b = b' ∧ off = off' := by simpa using e
  refine ⟨b, off + n, rfl, hb, fun k hk => ?_⟩
  rw [List.length_drop] at hk
  rw [Nat.add_assoc, hc (n + k) (by omega)]
  simp [at8, List.getD, List.getElem?_drop]
theorem add_mk (b off j : Nat) : (⟨b, off, none⟩ : Addr).add j = ⟨b, off + j, none⟩ := by
  unfold Addr.add
  split
  · rename_i h; subst h; rfl
  · rfl
theorem Bytes.src {w : World} {B : Nat} {A : Option Addr} {l : List UInt8} (h : Bytes w B A l) (hn : 0 < (bv l).length) : ∃ ad, A = some ad ∧ ∀ j v, (bv l)[j]? = some v → w.cell? (ad.add j) = some v := by
  obtain ⟨b, off, rfl, _, hc⟩ := h (by simpa using hn)
  refine ⟨_, rfl, fun j v hv => ?_⟩
  obtain ⟨hj, rfl⟩ := bv_get_inv hv
  rw [add_mk]
  exact hc j hj
theorem Bytes.none_ {w : World} {B : Nat} {l : List UInt8} (h : Bytes w B none l) : l = [] := by
  rcases Nat.eq_zero_or_pos l.length with h0 | h0
  · exact List.eq_nil_of_length_eq_zero h0
  · obtain ⟨_, _, e, _⟩ := h h0; cases e
theorem Try.infoU8 : (Try.prog.info? 5).map (fun i => (i.zero, i.size, i.bytes)) = some (some (.int .u8 0), 1, 1) := by kernel_rfl
theorem Try.sizeU8 : (Try.prog.info? 5).map (·.size) = some 1 := by kernel_rfl
theorem made_u8 (n : Nat) : madeCells #[.int .u8 0] n = (bv (List.replicate n 0)).toArray := by
  apply Array.ext
  · simp [size_madeCells]
  · intro i h1 h2
    simp [madeCells, bv, Nat.mod_one]

/-- A slice of bytes that the call itself made. -/
def Own8 (w : World) (base : Nat) (A : Option Addr) (n cap : Nat) (l : List UInt8) : Prop := w.ownsRow base 5 1 (.slice A n cap) n (bv l)
/-- The block of an address, if there is one. -/
def blockOf (A : Option Addr) : Option Nat := A.map (·.block)
theorem ownBlock_slice (A : Option Addr) (n cap : Nat) : (Value.slice A n cap).ownBlock = blockOf A := by cases A <;> rfl
section
variable {w w' : World} {base base' n cap : Nat} {A : Option Addr} {l : List UInt8}
theorem Own8.len (h : Own8 w base A n cap l) : l.length = n := by
  have := h.1
  simpa using this
theorem Own8.bytes (h : Own8 w base A n cap l) : Bytes w w.heap.size A l := fun hn => by
  have hl := h.len
  rcases h.2 with ⟨hv, hx⟩ | ⟨g, c, cur, hv, hb, hh, _⟩
  · rw [hx] at hl; omega
  · have hv' : A = some ⟨g, 0, none⟩ ∧ n = n ∧ cap = c := by simpa using hv
    obtain ⟨rfl, -, rfl⟩ := hv'
    refine ⟨g, 0, rfl, lt_of_heap hh, fun k hk => ?_⟩
    have hc := h.cells (g := g) rfl k _ (bv_get hk)
    rw [add_mk] at hc
    exact hc
theorem Own8.cap_le (h : Own8 w base A n cap l) : n ≤ cap := by
  have hl := h.len
  rcases h.2 with ⟨hv, hx⟩ | ⟨g, c, cur, hv, hb, hh, hnc, _⟩
  · omega
  · have hv' : A = some ⟨g, 0, none⟩ ∧ cap = c := by simpa using hv
    omega
theorem Own8.none_cap (h : Own8 w base A n cap l) : A = none → cap = 0 := by
  intro hA
  subst hA
  rcases h.2 with ⟨hv, _⟩ | ⟨g, c, cur, hv, _⟩
  · have hv' : n = 0 ∧ cap = 0 := by simpa using hv
    exact hv'.2
  · simp at hv
theorem Own8.cap_max (h : Own8 w base A n cap l) : cap ≤ maxLen := by
  rcases h.2 with ⟨hv, hx⟩ | ⟨g, c, cur, hv, hb, hh, hnc, hm, _⟩
  · have hv' : A = none ∧ n = 0 ∧ cap = 0 := by simpa using hv
    omega
  · have hv' : A = some ⟨g, 0, none⟩ ∧ cap = c := by simpa using hv
    omega
theorem Own8.lower (h : Own8 w base A n cap l) (hb : base' ≤ base) : Own8 w base' A n cap l := by
  refine ⟨h.1, ?_⟩
  rcases h.2 with h1 | ⟨g, c, cur, hv, hg, hrest⟩
  · exact .inl h1
  · exact .inr ⟨g, c, cur, hv, Nat.le_trans hb hg, hrest⟩
theorem Own8.form8 (h : Own8 w base A n cap l) : A = none ∨ ∃ g, A = some ⟨g, 0, none⟩ := by
  rcases h.2 with ⟨hv, _⟩ | ⟨g, c, cur, hv, _⟩
  · have hv' : A = none := by
      have : A = none ∧ n = 0 ∧ cap = 0 := by simpa using hv
      exact this.1
    exact .inl hv'
  · have hv' : A = some ⟨g, 0, none⟩ ∧ cap = c := by simpa using hv
    exact .inr ⟨g, hv'.1⟩
theorem Own8.lt (h : Own8 w base A n cap l) {g : Nat} (hg : blockOf A = some g) : base ≤ g ∧ g < w.heap.size := World.ownsRow.lt h g (by rw [ownBlock_slice]; exact hg)
/-- The block itself, where there is one. -/
theorem Own8.block (h : Own8 w base A n cap l) {g : Nat} (hg : blockOf A = some g) : A = some ⟨g, 0, none⟩ ∧ ∃ cur, w.heap[g]? = some (.cells cur 5 (0, 0)) ∧ cur.size = cap ∧ n ≤ cap ∧ cur.toList.take n = bv l := by
  rcases h.2 with ⟨hv, hx⟩ | ⟨g', c, cur, hv, hb, hh, hnc, hm, hcs, htk⟩
  · have hv' : A = none ∧ n = 0 ∧ cap = 0 := by simpa using hv
    rw [hv'.1] at hg; cases hg
  · have hv' : A = some ⟨g', 0, none⟩ ∧ cap = c := by simpa using hv
    obtain ⟨rfl, rfl⟩ := hv'
    obtain rfl : g' = g := by simpa [blockOf] using hg
    exact ⟨rfl, cur, hh, by omega, hnc, by simpa using htk⟩
theorem Own8.keep (h : Own8 w base A n cap l) {S : Nat → Prop} (ho : Only S w w') (hn : ∀ k, blockOf A = some k → ¬ S k) : Own8 w' base A n cap l := by
  refine ⟨h.1, ?_⟩
  rcases h.2 with h1 | ⟨g, c, cur, hv, hg, hh, hrest⟩
  · exact .inl h1
  · have hv' : A = some ⟨g, 0, none⟩ := by
      have : A = some ⟨g, 0, none⟩ ∧ cap = c := by simpa using hv
      exact this.1
    exact .inr ⟨g, c, cur, hv, hg, (ho.block g (lt_of_heap hh) (hn g (by rw [hv']; rfl))).trans hh, hrest⟩
theorem Own8.alloc (h : Own8 w base A n cap l) (o : Obj) : Own8 (w.alloc o) base A n cap l := World.ownsRow.alloc h o
theorem Own8.drew (h : Own8 w base A n cap l) : Own8 w.drew base A n cap l := h
theorem Own8.nil_ : Own8 w base none 0 0 [] := World.ownsRow_nil _ _ _ _
end
theorem own_value {w : World} {base n : Nat} {v : Value} {xs : List Value} (h : w.ownsRow base 5 1 v n xs) : ∃ A cap, v = .slice A n cap := by
  rcases h.2 with ⟨hv, hx⟩ | ⟨g, c, cur, hv, _⟩
  · refine ⟨none, 0, ?_⟩
    rw [hx]
    exact hv
  · exact ⟨_, _, hv⟩
/-- The block is the one that it was, or a new one. -/
def NewOr (w : World) (g g' : Option Nat) : Prop := g' = g ∨ ∃ k, g' = some k ∧ w.heap.size ≤ k
theorem NewOr.refl (w : World) (g : Option Nat) : NewOr w g g := .inl rfl
theorem NewOr.trans {w w1 : World} {g g1 g2 : Option Nat} (h : NewOr w g g1) (h1 : NewOr w1 g1 g2) (hs : w.heap.size ≤ w1.heap.size) : NewOr w g g2 := by
  rcases h1 with rfl | ⟨k, rfl, hk⟩
  · exact h
  · exact .inr ⟨k, rfl, Nat.le_trans hs hk⟩
theorem NewOr.same {w : World} {g g' : Option Nat} (h : NewOr w g g') {k : Nat} (hk : k < w.heap.size) (e : g' = some k) : g = some k := by
  rcases h with rfl | ⟨j, rfl, hj⟩
  · exact e
  · cases e; omega
theorem NewOr.older {w w1 : World} {g g' : Option Nat} (h : NewOr w1 g g') (hs : w.heap.size ≤ w1.heap.size) : NewOr w g g' := by
  rcases h with rfl | ⟨j, rfl, hj⟩
  · exact .inl rfl
  · exact .inr ⟨j, rfl, Nat.le_trans hs hj⟩
theorem NewOr.ge {w : World} {g g' : Option Nat} (h : NewOr w g g') {B : Nat} (hB : B ≤ w.heap.size) (hg : ∀ k, g = some k → B ≤ k) : ∀ k, g' = some k → B ≤ k := by
  rcases h with rfl | ⟨j, rfl, hj⟩
  · exact hg
  · intro k e; cases e; omega

section
variable {P : Program} {w : World}
/-- 'append(out, xs...)', out the program's own bytes, xs any bytes, nil or not. -/
theorem wpList_append8 {ops : Array Oper} {rest : List Oper} {o : Oper} {a : Act} {Q : Exit → Act → World → Prop} (hgd : o.guard = none) (s x : Operand)
    (ho : o.op = .call { callee := .builtin .append, args := #[s, x], argTypes := #[27, 27] })
    (A : Option Addr) (n cap : Nat) (l : List UInt8) (hs : a.eval s = .slice A n cap) (hown : Own8 w 0 A n cap l)
    (A1 : Option Addr) (m c B : Nat) (xs : List UInt8) (hx : a.eval x = .slice A1 m c) (hl : xs.length = m) (hA : A1 = none → c = 0) (hb : Bytes w B A1 xs)
    (hbytes : n + m ≤ 140737488355328)
    (h : ∀ A' cap' w', Hid (Own8 w' 0 A' (n + m) cap' (l ++ xs)) → Hid (Only (fun k => blockOf A = some k) w w') → Hid (NewOr w (blockOf A) (blockOf A')) → wpList Try.prog ops Q rest (a.put o.dst (.slice A' (n + m) cap')) w') :
    wpList Try.prog ops Q (o :: rest) a w := by
  obtain ⟨i0, hi0, hz0, hz1, hz2⟩ := info_parts Try.infoU8
  rcases A1 with _ | ad
  · have hc := hA rfl
    subst hc
    have hxs := hb.none_
    subst hxs
    obtain rfl : m = 0 := by simpa using hl.symm
    refine wpList_append_own_none hgd s x 27 ho 0 5 i0 1 Try.underlying27 hi0 (.slice A n cap) n (bv l) hs hown hx ?_
    have := h A cap w (by rw [List.append_nil, Nat.add_zero]; exact hown) (Only.refl _ _) (NewOr.refl _ _)
    simpa using this
  · refine wpList_append_own_at _ hgd s x 27 ho 0 5 i0 _ 1 1 Try.underlying27 hi0 hz0 hz1 hz2 rfl (by omega) (.slice A n cap) n (bv l) hs hown ad m c (bv xs) hx (by simp [hl]) (fun j u hu => ?_) (bv_one xs) (by unfold maxLen; omega) (by omega) (Nat.zero_le _) ?_
    · obtain ⟨ad', e, h'⟩ := hb.src (by have := (List.getElem?_eq_some_iff.1 hu).1; omega)
      cases e
      exact h' j u hu
    · intro v' w1 hown' hg _ hat
      obtain ⟨A', cap', rfl⟩ := own_value hown'
      rw [ownBlock_slice, ownBlock_slice] at hat
      rw [ownBlock_slice] at hg
      refine h A' cap' w1 (by unfold Own8; rw [bv_append]; exact hown') (Only.ofGrown hg) ?_
      rcases hat with e | e
      · exact .inl e
      · exact .inr ⟨_, e, Nat.le_refl _⟩
end
/-- One byte, laid in a block of its own for an append. -/
theorem bytes_one (w : World) (x : UInt8) : Bytes (w.alloc (.cells #[.int .u8 ((x.toNat : Nat) : Int)] 5)) (w.heap.size + 1) (some ⟨w.heap.size, 0, none⟩) [x] := fun _ => by
  refine ⟨_, 0, rfl, by omega, fun k hk => ?_⟩
  obtain rfl : k = 0 := by simpa using hk
  have h := cell_one_new w (.int .u8 ((x.toNat : Nat) : Int)) 5 0 _ rfl
  rw [add_mk] at h
  exact h
theorem conv_str {w : World} {B : Nat} {A : Option Addr} {l : List UInt8} {n : Nat} (cap : Nat) (h : Bytes w B A l) (hn : l.length = n) :
    Sem.run Try.prog (convert 27 9 (.slice A n cap)) w = .ok (.string ⟨l.toArray⟩) w := by
  subst hn
  rcases A with _ | a
  · have := h.none_
    subst this
    exact run_convert_bytes_nil w 27 5 Try.underlying27 Try.underlying5 0 cap 9 Try.underlying9
  · refine run_convert_bytes_back w 27 9 5 a cap l Try.underlying27 Try.underlying5 Try.underlying9 fun j hj => ?_
    obtain ⟨b, off, e, _, hc⟩ := h (by omega)
    cases e
    rw [add_mk, hc j hj]
    simp [at8, List.getD, hj]
end Go.Proofs.Ytadpbcbgmopfaaa
