/-
  Senders in memory: rows of bodies that are read, rows of bodies that a call itself made. No condition.
-/
import Derived.Test.YtmkkhknbokfciaaGa
import Derived.Deep.RegionLaw
namespace Go.Proofs.Ytmkkhknbokfciaa
set_option maxRecDepth 20000
open Go.RowKit

theorem qbox (w : World) (o : Obj) : Below w.heap.size w (w.alloc o) := (Below.refl w.heap.size w).alloc (Nat.le_refl _) o
theorem qtr {w W W' : World} (h : Below w.heap.size w W) (k : Below W.heap.size W W') : Below w.heap.size w W' := h.trans (k.mono h.size)
theorem qnew (w : World) (cs : Array Value) (t : TypeId) : (w.alloc (.cells cs t)).heap[w.heap.size]? = some (.cells cs t (0, 0)) := by
  show (w.heap.push _)[w.heap.size]? = _
  simp
theorem qold {w w' : World} {a : Addr} {v : Value} (h : w.cell? a = some v) (hb : Below w.heap.size w w') : w'.cell? a = some v := (hb.cell (World.block_lt_of_cell? w a h)).trans h

def bodK (ls : List (List UInt8)) (k : Nat) : List UInt8 := ls.getD k []
theorem bodK_take {ls : List (List UInt8)} {k n : Nat} (h : k < n) : bodK (ls.take n) k = bodK ls k := by
  simp only [bodK, List.getD]
  rw [List.getElem?_take, if_pos h]
theorem bodK_drop (ls : List (List UInt8)) (k n : Nat) : bodK (ls.drop n) k = bodK ls (n + k) := by
  simp [bodK, List.getD, List.getElem?_drop]
theorem bodK_left {ls ms : List (List UInt8)} {k : Nat} (h : k < ls.length) : bodK (ls ++ ms) k = bodK ls k := by
  simp only [bodK, List.getD]
  rw [List.getElem?_append_left h]
theorem bodK_last (ls : List (List UInt8)) (l : List UInt8) : bodK (ls ++ [l]) ls.length = l := by
  simp [bodK, List.getD]
theorem bodK_mem {ls : List (List UInt8)} {k : Nat} (h : k < ls.length) : bodK ls k ∈ ls := by
  simp only [bodK, List.getD]
  rw [List.getElem?_eq_getElem h]
  exact List.getElem_mem h
theorem take_bodK {ls : List (List UInt8)} {k : Nat} (h : k < ls.length) : ls.take (k + 1) = ls.take k ++ [bodK ls k] := by
  rw [List.take_add_one]
  simp [bodK, List.getD, List.getElem?_eq_getElem h]

/-- A slice's address under which rows of bytes lie, in blocks below B. -/
def Rws (w : World) (B : Nat) (A : Option Addr) (ls : List (List UInt8)) : Prop :=
  0 < ls.length → ∃ b off, A = some ⟨b, off, none⟩ ∧ b < B ∧ ∀ k, k < ls.length → ∃ A' c, w.cell? ⟨b, off + k, none⟩ = some (.slice A' (bodK ls k).length c) ∧ (A' = none → c = 0) ∧ Bytes w B A' (bodK ls k)
section
variable {w w' : World} {B B' : Nat} {A : Option Addr} {ls : List (List UInt8)}
theorem Rws.nil_ : Rws w B A [] := fun h => absurd h (by simp)
theorem Rws.below (h : Rws w B A ls) (hb : Below B w w') : Rws w' B A ls := fun hn => by
  obtain ⟨b, off, e, hlt, hc⟩ := h hn
  refine ⟨b, off, e, hlt, fun k hk => ?_⟩
  obtain ⟨A', c, h1, h2, h3⟩ := hc k hk
  exact ⟨A', c, (hb.cell (p := ⟨b, off + k, none⟩) hlt).trans h1, h2, h3.below hb⟩
theorem Rws.more (h : Rws w B A ls) (hB : B ≤ B') : Rws w B' A ls := fun hn => by
  obtain ⟨b, off, e, hlt, hc⟩ := h hn
  refine ⟨b, off, e, by omega, fun k hk => ?_⟩
  obtain ⟨A', c, h1, h2, h3⟩ := hc k hk
  exact ⟨A', c, h1, h2, h3.more hB⟩
theorem Rws.on (h : Rws w B A ls) (hB : B ≤ w.heap.size) (hb : Below w.heap.size w w') : Rws w' B A ls := h.below (hb.mono hB)
theorem Rws.only {S : Nat → Prop} (h : Rws w B A ls) (hB : B ≤ w.heap.size) (ho : Only S w w') (hS : ∀ k, k < B → ¬ S k) : Rws w' B A ls := fun hn => by
  obtain ⟨b, off, e, hlt, hc⟩ := h hn
  refine ⟨b, off, e, hlt, fun k hk => ?_⟩
  obtain ⟨A', c, h1, h2, h3⟩ := hc k hk
  refine ⟨A', c, (ho.cell (p := ⟨b, off + k, none⟩) (Nat.lt_of_lt_of_le hlt hB) (hS _ hlt)).trans h1, h2, fun hp => ?_⟩
  obtain ⟨b2, o2, e2, hl2, hc2⟩ := h3 hp
  exact ⟨b2, o2, e2, hl2, fun j hj => (ho.cell (p := ⟨b2, o2 + j, none⟩) (Nat.lt_of_lt_of_le hl2 hB) (hS _ hl2)).trans (hc2 j hj)⟩
theorem Rws.front (h : Rws w B A ls) (m : Nat) : Rws w B A (ls.take m) := fun hn => by
  rw [List.length_take] at hn
  obtain ⟨b, off, e, hlt, hc⟩ := h (by omega)
  refine ⟨b, off, e, hlt, fun k hk => ?_⟩
  rw [List.length_take] at hk
  rw [bodK_take (by omega)]
  exact hc k (by omega)
theorem Rws.back {b off : Nat} (h : Rws w B (some ⟨b, off, none⟩) ls) (m : Nat) : Rws w B (some ⟨b, off + m, none⟩) (ls.drop m) := fun hn => by
  rw [List.length_drop] at hn
  obtain ⟨b', off', e, hlt, hc⟩ := h (by omega)
  obtain ⟨rfl, rfl⟩ : b = b' ∧ off = off' := by simpa using e
  refine ⟨b, off + m, rfl, hlt, fun k hk => ?_⟩
  rw [List.length_drop] at hk
  rw [bodK_drop, Nat.add_assoc]
  exact hc (m + k) (by omega)
end

theorem Only.undrew {S : Nat → Prop} {w w' : World} (h : Only S w.drew w') : Only S w w' := ⟨h.os, h.tape, h.output, h.size, h.block⟩
theorem undrew {w w' : World} (h : Below w.heap.size w.drew w') : Below w.heap.size w w' := ⟨h.os, h.tape, h.output, h.size, h.block⟩
theorem newBelow {S : Nat → Prop} {w w' : World} {o : Obj} (h : Only S (w.alloc o).drew w') (hS : ∀ k, S k → w.heap.size ≤ k) : Below w.heap.size w w' :=
  ⟨h.os, h.tape, h.output, Nat.le_trans (qbox w o).size h.size, fun k hk => (h.block k (Nat.lt_of_lt_of_le hk (qbox w o).size) fun hs => by have := hS k hs; omega).trans ((qbox w o).block k hk)⟩
theorem undrewN {n : Nat} {w w' : World} (i : Nat) (h : Below n w w') : Below n w (w'.drewN i) := ⟨h.os, h.tape, h.output, h.size, h.block⟩
theorem undrew' {n : Nat} {w w' : World} (h : Below n w w') : Below n w w'.drew := ⟨h.os, h.tape, h.output, h.size, h.block⟩
/-- A sender's two cells. -/
def SBox (b : Nat) (base : Int) (A : Option Addr) (n c : Nat) (w : World) : Prop := w.cell? ⟨b, 0, none⟩ = some (.int .u64 base) ∧ w.cell? ⟨b, 1, none⟩ = some (.slice A n c)
theorem SBox.below {b : Nat} {base : Int} {A : Option Addr} {n c : Nat} {w w' : World} (h : SBox b base A n c w) (hb : Below w.heap.size w w') : SBox b base A n c w' := ⟨qold h.1 hb, qold h.2 hb⟩
theorem sbox_new (w : World) (base : Int) (A : Option Addr) (n c : Nat) (t : TypeId) : SBox w.heap.size base A n c (w.alloc (.cells #[.int .u64 base, .slice A n c] t)) :=
  ⟨by rw [cell_of_row _ _ _ _ _ (0, 0) (qnew w _ t)]; rfl, by rw [cell_of_row _ _ _ _ _ (0, 0) (qnew w _ t)]; rfl⟩
/-- The same, as a row. -/
def SRow (b : Nat) (base : Int) (A : Option Addr) (n c : Nat) (w : World) : Prop := w.heap[b]? = some (.cells #[.int .u64 base, .slice A n c] 25 (0, 0))
theorem SRow.box {b : Nat} {base : Int} {A : Option Addr} {n c : Nat} {w : World} (h : SRow b base A n c w) : SBox b base A n c w := ⟨by simpa using cell_plain h 0, by simpa using cell_plain h 1⟩
theorem SRow.keep {b : Nat} {base : Int} {A : Option Addr} {n c : Nat} {w w' : World} (h : SRow b base A n c w) {S : Nat → Prop} (ho : Only S w w') (hn : ¬ S b) : SRow b base A n c w' := (ho.block b (lt_of_heap h) hn).trans h
theorem SRow.below {b : Nat} {base : Int} {A : Option Addr} {n c : Nat} {w w' : World} (h : SRow b base A n c w) (hb : Below w.heap.size w w') : SRow b base A n c w' := h.keep (S := fun _ => False) (Only.ofBelow hb) (fun h => h)
theorem SRow.set1 {b : Nat} {base : Int} {A : Option Addr} {n c : Nat} {w : World} (h : SRow b base A n c w) (D : Option Addr) (m d : Nat) : SRow b base D m d (w.setCell ⟨b, 1, none⟩ (.slice D m d)) := by
  unfold SRow at *
  simp [World.setCell, Array.getElem?_modify, h]
theorem SRow.set2 {b : Nat} {base : Int} {A : Option Addr} {n c : Nat} {w : World} (h : SRow b base A n c w) (x : Int) (D : Option Addr) (m d : Nat) : ((w.setCell ⟨b, 0, none⟩ (.int .u64 x)).setCell ⟨b, 1, none⟩ (.slice D m d)).heap[b]? = some (.cells #[.int .u64 x, .slice D m d] 25 (0, 0)) := by
  unfold SRow at h
  simp [World.setCell, Array.getElem?_modify, h]
theorem only_two (w : World) (b : Nat) (v0 v1 : Value) : Only (fun k => k = b) w ((w.setCell ⟨b, 0, none⟩ v0).setCell ⟨b, 1, none⟩ v1) :=
  ((Only.refl (fun k => k = b) w).setCell (p := ⟨b, 0, none⟩) (.inl rfl) _).setCell (p := ⟨b, 1, none⟩) (.inl rfl) _
theorem own8_raise {w : World} {B : Nat} {A : Option Addr} {n c : Nat} {l : List UInt8} (h : Own8 w 0 A n c l) (hg : ∀ k, blockOf A = some k → B ≤ k) : Own8 w B A n c l := by
  refine ⟨h.1, ?_⟩
  rcases h.2 with h2 | ⟨g, c', cur, hv, _, hrest⟩
  · exact .inl h2
  · have hv' : A = some ⟨g, 0, none⟩ ∧ c = c' := by simpa using hv
    exact .inr ⟨g, c', cur, hv, hg g (by rw [hv'.1]; rfl), hrest⟩

theorem Try.infoR : (Try.prog.info? 26).map (fun i => (i.zero, i.size, i.bytes)) = some (some (.slice none 0 0), 1, 24) := by kernel_rfl
/-- Rows that a call itself made, each in memory of its own. -/
def OwnR (w : World) (base : Nat) (A : Option Addr) (n c : Nat) (vs : List Value) : Prop := w.ownsRow base 26 1 (.slice A n c) n vs
section
variable {w w' : World} {base base' n cap : Nat} {A : Option Addr} {vs : List Value}
theorem OwnR.len (h : OwnR w base A n cap vs) : vs.length = n := by have := h.1; omega
theorem OwnR.lower (h : OwnR w base A n cap vs) (hb : base' ≤ base) : OwnR w base' A n cap vs := by
  refine ⟨h.1, ?_⟩
  rcases h.2 with h1 | ⟨g, c, cur, hv, hg, hrest⟩
  · exact .inl h1
  · exact .inr ⟨g, c, cur, hv, Nat.le_trans hb hg, hrest⟩
theorem OwnR.cap_le (h : OwnR w base A n cap vs) : n ≤ cap := by
  rcases h.2 with ⟨hv, hx⟩ | ⟨g, c, cur, hv, hb, hh, hnc, _⟩
  · have hv' : A = none ∧ n = 0 ∧ cap = 0 := by simpa using hv
    omega
  · have hv' : A = some ⟨g, 0, none⟩ ∧ cap = c := by simpa using hv
    omega
theorem OwnR.none_cap (h : OwnR w base A n cap vs) : A = none → cap = 0 := by
  intro hA
  subst hA
  rcases h.2 with ⟨hv, _⟩ | ⟨g, c, cur, hv, _⟩
  · have hv' : n = 0 ∧ cap = 0 := by simpa using hv
    exact hv'.2
  · simp at hv
theorem OwnR.form (h : OwnR w base A n cap vs) : (A = none ∧ n = 0 ∧ cap = 0) ∨ ∃ g, A = some ⟨g, 0, none⟩ ∧ base ≤ g ∧ g < w.heap.size := by
  rcases h.2 with ⟨hv, _⟩ | ⟨g, c, cur, hv, hg, hh, _⟩
  · exact .inl (by simpa using hv)
  · have hv' : A = some ⟨g, 0, none⟩ ∧ cap = c := by simpa using hv
    exact .inr ⟨g, hv'.1, hg, lt_of_heap hh⟩
theorem OwnR.cells (h : OwnR w base A n cap vs) {b off : Nat} (hA : A = some ⟨b, off, none⟩) : off = 0 ∧ ∀ j v, vs[j]? = some v → w.cell? ⟨b, j, none⟩ = some v ∧ w.frozen? ⟨b, j, none⟩ = false := by
  rcases h.2 with ⟨hv, hx⟩ | ⟨g, c, cur, hv, hb, hh, hnc, hm, hcs, htk⟩
  · have hv' : A = none ∧ n = 0 ∧ cap = 0 := by simpa using hv
    rw [hv'.1] at hA; cases hA
  · have hv' : A = some ⟨g, 0, none⟩ ∧ cap = c := by simpa using hv
    rw [hA] at hv'
    obtain ⟨rfl, rfl⟩ : b = g ∧ off = 0 := by simpa using hv'.1
    refine ⟨rfl, fun j v hj => ?_⟩
    rw [← htk, List.getElem?_take] at hj
    split at hj
    · have hj' : cur[j]? = some v := by simpa using hj
      constructor
      · rw [cell_of_row _ _ _ _ _ (0, 0) hh]; exact hj'
      · simp [World.frozen?, hh]
    · cases hj
theorem OwnR.keep (h : OwnR w base A n cap vs) {S : Nat → Prop} (ho : Only S w w') (hn : ∀ k, blockOf A = some k → ¬ S k) : OwnR w' base A n cap vs := by
  refine ⟨h.1, ?_⟩
  rcases h.2 with h1 | ⟨g, c, cur, hv, hg, hh, hrest⟩
  · exact .inl h1
  · have hv' : A = some ⟨g, 0, none⟩ := by
      have : A = some ⟨g, 0, none⟩ ∧ cap = c := by simpa using hv
      exact this.1
    exact .inr ⟨g, c, cur, hv, hg, (ho.block g (lt_of_heap hh) (hn g (by rw [hv']; rfl))).trans hh, hrest⟩
end
theorem ownR_value {w : World} {base n : Nat} {v : Value} {xs : List Value} (h : w.ownsRow base 26 1 v n xs) : ∃ A cap, v = .slice A n cap := by
  rcases h.2 with ⟨hv, hx⟩ | ⟨g, c, cur, hv, _⟩
  · refine ⟨none, 0, ?_⟩
    rw [hx]
    exact hv
  · exact ⟨_, _, hv⟩
/-- Rows of bodies that a call itself made: each body in memory of its own. -/
def ORws (w : World) (base : Nat) (A : Option Addr) (n cap : Nat) (ls : List (List UInt8)) : Prop :=
  ∃ vs, OwnR w base A n cap vs ∧ ls.length = n ∧ ∀ k, k < ls.length → ∃ A' c', vs[k]? = some (.slice A' (bodK ls k).length c') ∧ Own8 w base A' (bodK ls k).length c' (bodK ls k) ∧ ∀ g, blockOf A' = some g → blockOf A ≠ some g
section
variable {w w' : World} {base base' n cap : Nat} {A : Option Addr} {ls : List (List UInt8)}
theorem ORws.nil_ : ORws w base none 0 0 [] := ⟨[], World.ownsRow_nil _ _ _ _, rfl, fun k hk => absurd hk (by simp)⟩
theorem ORws.len (h : ORws w base A n cap ls) : ls.length = n := by obtain ⟨vs, _, h2, _⟩ := h; exact h2
theorem ORws.lower (h : ORws w base A n cap ls) (hb : base' ≤ base) : ORws w base' A n cap ls := by
  obtain ⟨vs, h1, h2, h3⟩ := h
  refine ⟨vs, h1.lower hb, h2, fun k hk => ?_⟩
  obtain ⟨A', c', e1, e2, e3⟩ := h3 k hk
  exact ⟨A', c', e1, e2.lower hb, e3⟩
theorem ORws.none_cap (h : ORws w base A n cap ls) : A = none → cap = 0 := by obtain ⟨vs, h1, _⟩ := h; exact h1.none_cap
theorem ORws.cap_le (h : ORws w base A n cap ls) : n ≤ cap := by obtain ⟨vs, h1, _⟩ := h; exact h1.cap_le
theorem ORws.form (h : ORws w base A n cap ls) : (A = none ∧ n = 0 ∧ cap = 0) ∨ ∃ g, A = some ⟨g, 0, none⟩ ∧ base ≤ g ∧ g < w.heap.size := by obtain ⟨vs, h1, _⟩ := h; exact h1.form
theorem ORws.bs (h : ORws w base A n cap ls) : ∀ k, blockOf A = some k → base ≤ k ∧ k < w.heap.size := fun k e => by
  rcases h.form with ⟨rfl, _⟩ | ⟨g, rfl, hg, hl⟩
  · cases e
  · cases e; exact ⟨hg, hl⟩
theorem ORws.keep (h : ORws w base A n cap ls) {S : Nat → Prop} (ho : Only S w w') (hn : ∀ k, base ≤ k → ¬ S k) : ORws w' base A n cap ls := by
  have hbs := h.bs
  obtain ⟨vs, h1, h2, h3⟩ := h
  refine ⟨vs, h1.keep ho (fun k e => hn k (hbs k e).1), h2, fun k hk => ?_⟩
  obtain ⟨A', c', e1, e2, e3⟩ := h3 k hk
  exact ⟨A', c', e1, e2.keep ho (fun g hg => hn g (e2.lt hg).1), e3⟩
theorem ORws.on (h : ORws w base A n cap ls) (hb : Below w.heap.size w w') : ORws w' base A n cap ls := h.keep (S := fun _ => False) (Only.ofBelow hb) (fun _ _ h => h)
theorem ORws.rws (h : ORws w base A n cap ls) : Rws w w.heap.size A ls := fun hn => by
  have hf := h.form
  obtain ⟨vs, h1, h2, h3⟩ := h
  rcases hf with ⟨_, h0, _⟩ | ⟨g, rfl, hg, hl⟩
  · omega
  · refine ⟨g, 0, rfl, hl, fun k hk => ?_⟩
    obtain ⟨A', c', e1, e2, e3⟩ := h3 k hk
    exact ⟨A', c', by rw [Nat.zero_add]; exact ((h1.cells rfl).2 k _ e1).1, e2.none_cap, e2.bytes⟩
end

/-- 'append(rows, body)', as one step of a region that draws its order. -/
theorem step_appendR {P : Program} {ops : Array Oper} {o : Oper} {a : Act} {w : World} {K : Act → World → Prop} {Q : Exit → Act → World → Prop} {E : Prop} (hP : P = Try.prog) (hgd : o.guard = none) (s x : Operand) (ho : o.op = .call { callee := .builtin .append, args := #[s, x], argTypes := #[23, 23] })
    (base : Nat) (A : Option Addr) (n cap : Nat) (ls : List (List UInt8)) (hs : a.eval s = .slice A n cap) (hbase : base ≤ w.heap.size) (hown : ORws w base A n cap ls)
    (b : Nat) (A1 : Option Addr) (m c1 : Nat) (l1 : List UInt8) (hx : a.eval x = .slice (some ⟨b, 0, none⟩) 1 1) (hb : w.cell? ⟨b, 0, none⟩ = some (.slice A1 m c1)) (hm : l1.length = m) (h1 : Own8 w base A1 m c1 l1) (hd : ∀ g, blockOf A1 = some g → blockOf A ≠ some g) (hbytes : n + 1 ≤ 1000000)
    (h : ∀ A' cap' w', Hid (ORws w' base A' (n + 1) cap' (ls ++ [l1])) → Hid (Only (fun k => blockOf A = some k) w w') → Hid (NewOr w (blockOf A) (blockOf A')) → K (a.put o.dst (.slice A' (n + 1) cap')) w') :
    if Region.wanted o (yielded ops a.tmps) = true then Oper.wp P o a w K Q else E := by
  subst hP
  subst hm
  have hw : Region.wanted o (yielded ops a.tmps) = true := by simp [Region.wanted, hgd]
  rw [if_pos hw]
  have hbs := hown.bs
  obtain ⟨vs, ho1, ho2, ho3⟩ := hown
  obtain ⟨i0, hi0, hz0, hz1, hz2⟩ := info_parts Try.infoR
  obtain ⟨v', w', hr, h2, h3, _, h5⟩ := run_append_own_at (P := Try.prog) w base 23 o.type 26 i0 (.slice none 0 0) 1 24 Try.underlying23 hi0 hz0 hz1 hz2 rfl (by omega) (.slice A n cap) n vs ho1 ⟨b, 0, none⟩ 1 1 [.slice A1 l1.length c1] (by simp) (fun j u hu => by
    have hj : j = 0 ∧ u = .slice A1 l1.length c1 := by
      have hj := (List.getElem?_eq_some_iff.1 hu).1
      have hj0 : j = 0 := by simpa using hj
      subst hj0
      exact ⟨rfl, by simpa using hu.symm⟩
    obtain ⟨rfl, rfl⟩ := hj
    rw [add_mk]
    exact hb) (by intro v hv; simp only [List.mem_cons, List.not_mem_nil, or_false] at hv; subst hv; rfl) (by unfold maxLen; omega) (by omega) hbase
  unfold Oper.wp execOp
  simp only [ho, resolve, invoke, builtin, Sem.run_bind, Sem.run_pure, Result.andThen_ok, List.map_toArray, List.map_cons, List.map_nil, hs, hx, hr]
  obtain ⟨A', cap', rfl⟩ := ownR_value h2
  rw [ownBlock_slice, ownBlock_slice] at h5
  rw [ownBlock_slice] at h3
  have hO := Only.ofGrown h3
  refine h A' cap' w' ⟨vs ++ [Value.slice A1 l1.length c1], (show OwnR w' base A' (n + 1) cap' (vs ++ [Value.slice A1 l1.length c1]) from h2), by simp [ho2], fun k hk => ?_⟩ hO ?_
  · have hne : ∀ A2 g, blockOf A2 = some g → g < w.heap.size → blockOf A ≠ some g → blockOf A' ≠ some g := fun A2 g _ hlt hn => by
      rcases h5 with e | e
      · rw [e]; exact hn
      · rw [e]; intro e'; cases e'; omega
    rcases Nat.lt_or_ge k ls.length with hlt | hge
    · obtain ⟨A2, c2, e1, e2, e3⟩ := ho3 k hlt
      rw [bodK_left hlt]
      refine ⟨A2, c2, ?_, e2.keep hO (fun g hg => e3 g hg), fun g hg => hne A2 g hg (e2.lt hg).2 (e3 g hg)⟩
      rw [List.getElem?_append_left (by have := (List.getElem?_eq_some_iff.1 e1).1; exact this)]
      exact e1
    · obtain rfl : k = ls.length := by simp at hk; omega
      rw [bodK_last]
      refine ⟨A1, c1, ?_, h1.keep hO (fun g hg => hd g hg), fun g hg => hne A1 g hg (h1.lt hg).2 (hd g hg)⟩
      have : ls.length = vs.length := by have := ho1.len; omega
      rw [this]
      simp
  · rcases h5 with e | e
    · exact .inl e
    · exact .inr ⟨_, e, Nat.le_refl _⟩
end Go.Proofs.Ytmkkhknbokfciaa
