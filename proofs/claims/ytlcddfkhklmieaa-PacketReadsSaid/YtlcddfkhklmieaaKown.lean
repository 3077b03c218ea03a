/-
  Heads that a call itself made: their cells one behind the other; append. For at most 2^40 heads.
-/
import Derived.Test.YtlcddfkhklmieaaKmayd
import Derived.Test.YtlcddfkhklmieaaGc
namespace Go.Proofs.Ytlcddfkhklmieaa
set_option maxRecDepth 20000
open Go.RowKit

def encH (h : Hd) : List Value := [.int .i64 h.dst, .int .u64 (h.conn : Int), .int .u64 (h.seq : Int), .int .u64 (h.inc : Int)]
/-- The cells of heads, one behind the other. -/
def flatH (l : List Hd) : List Value := l.flatMap encH
@[simp] theorem flatH_nil : flatH [] = [] := rfl
@[simp] theorem flatH_cons (p : Hd) (l : List Hd) : flatH (p :: l) = .int .i64 p.dst :: .int .u64 (p.conn : Int) :: .int .u64 (p.seq : Int) :: .int .u64 (p.inc : Int) :: flatH l := rfl
theorem flatH_append (a b : List Hd) : flatH (a ++ b) = flatH a ++ flatH b := by simp [flatH]
theorem flatH_length : ∀ l : List Hd, (flatH l).length = l.length * 4
  | [] => rfl
  | p :: l => by rw [flatH_cons, List.length_cons, List.length_cons, List.length_cons, List.length_cons, flatH_length l, List.length_cons]; omega
theorem flatH_one (l : List Hd) : ∀ v ∈ flatH l, v.oneCell' = true := fun v h => by
  obtain ⟨p, _, hp⟩ := List.mem_flatMap.1 h
  unfold encH at hp
  simp only [List.mem_cons, List.not_mem_nil, or_false] at hp
  rcases hp with rfl | rfl | rfl | rfl <;> rfl
theorem flatH_get : ∀ (l : List Hd) (k : Nat), k < l.length → (flatH l)[k * 4]? = some (.int .i64 (atH l k).dst) ∧ (flatH l)[k * 4 + 1]? = some (.int .u64 ((atH l k).conn : Int)) ∧ (flatH l)[k * 4 + 2]? = some (.int .u64 ((atH l k).seq : Int)) ∧ (flatH l)[k * 4 + 3]? = some (.int .u64 ((atH l k).inc : Int))
  | [], k, h => absurd h (by simp)
  | p :: l, 0, _ => ⟨rfl, rfl, rfl, rfl⟩
  | p :: l, k + 1, h => by
    have := flatH_get l k (by simpa using h)
    have e : (k + 1) * 4 = k * 4 + 1 + 1 + 1 + 1 := by omega
    have e1 : k * 4 + 1 + 1 + 1 + 1 + 1 = (k * 4 + 1) + 1 + 1 + 1 + 1 := by omega
    have e2 : k * 4 + 1 + 1 + 1 + 1 + 2 = (k * 4 + 2) + 1 + 1 + 1 + 1 := by omega
    have e3 : k * 4 + 1 + 1 + 1 + 1 + 3 = (k * 4 + 3) + 1 + 1 + 1 + 1 := by omega
    rw [flatH_cons, e, e1, e2, e3]
    simp only [List.getElem?_cons_succ]
    exact this
theorem flatH_get_inv (l : List Hd) (j : Nat) (u : Value) (h : (flatH l)[j]? = some u) : ∃ k, k < l.length ∧ ((j = k * 4 ∧ u = .int .i64 (atH l k).dst) ∨ (j = k * 4 + 1 ∧ u = .int .u64 ((atH l k).conn : Int)) ∨ (j = k * 4 + 2 ∧ u = .int .u64 ((atH l k).seq : Int)) ∨ (j = k * 4 + 3 ∧ u = .int .u64 ((atH l k).inc : Int))) := by
  have hj : j < l.length * 4 := by
    have := (List.getElem?_eq_some_iff.1 h).1
    rwa [flatH_length] at this
  refine ⟨j / 4, by omega, ?_⟩
  obtain ⟨h1, h2, h3, h4⟩ := flatH_get l (j / 4) (by omega)
  have hm : j % 4 = 0 ∨ j % 4 = 1 ∨ j % 4 = 2 ∨ j % 4 = 3 := by omega
  rcases hm with e | e | e | e
  · have ej : j / 4 * 4 = j := by omega
    rw [ej, h] at h1
    exact .inl ⟨ej.symm, Option.some.inj h1⟩
  · have ej : j / 4 * 4 + 1 = j := by omega
    rw [ej, h] at h2
    exact .inr (.inl ⟨ej.symm, Option.some.inj h2⟩)
  · have ej : j / 4 * 4 + 2 = j := by omega
    rw [ej, h] at h3
    exact .inr (.inr (.inl ⟨ej.symm, Option.some.inj h3⟩))
  · have ej : j / 4 * 4 + 3 = j := by omega
    rw [ej, h] at h4
    exact .inr (.inr (.inr ⟨ej.symm, Option.some.inj h4⟩))
theorem Hds.src {w : World} {B : Nat} {A : Option Addr} {l : List Hd} (h : Hds w B A l) (hn : 0 < l.length) : ∃ b off, A = some ⟨b, off, none⟩ ∧ b < B ∧ ∀ j v, (flatH l)[j]? = some v → w.cell? ⟨b, off + j, none⟩ = some v := by
  obtain ⟨b, off, e, hb, hc⟩ := h hn
  refine ⟨b, off, e, hb, fun j v hv => ?_⟩
  obtain ⟨k, hk, ⟨rfl, rfl⟩ | ⟨rfl, rfl⟩ | ⟨rfl, rfl⟩ | ⟨rfl, rfl⟩⟩ := flatH_get_inv l j v hv
  · exact (hc k hk).1
  · rw [← Nat.add_assoc]; exact (hc k hk).2.1
  · rw [← Nat.add_assoc]; exact (hc k hk).2.2.1
  · rw [← Nat.add_assoc]; exact (hc k hk).2.2.2
theorem Hds.ofFlat {w : World} {B b off : Nat} {l : List Hd} (hb : b < B) (h : ∀ j v, (flatH l)[j]? = some v → w.cell? ⟨b, off + j, none⟩ = some v) : Hds w B (some ⟨b, off, none⟩) l := fun _ => by
  refine ⟨b, off, rfl, hb, fun k hk => ?_⟩
  obtain ⟨h1, h2, h3, h4⟩ := flatH_get l k hk
  exact ⟨h _ _ h1, by rw [Nat.add_assoc]; exact h _ _ h2, by rw [Nat.add_assoc]; exact h _ _ h3, by rw [Nat.add_assoc]; exact h _ _ h4⟩
theorem Hds.none_ {w : World} {B : Nat} {l : List Hd} (h : Hds w B none l) : l = [] := by
  rcases Nat.eq_zero_or_pos l.length with h0 | h0
  · exact List.eq_nil_of_length_eq_zero h0
  · obtain ⟨_, _, e, _⟩ := h h0; cases e

theorem Try.infoH : (Try.prog.info? 51).map (fun i => (i.zero, i.size, i.bytes)) = some (some (.agg #[.int .i64 0, .int .u64 0, .int .u64 0, .int .u64 0]), 4, 32) := by kernel_rfl

/-- A slice of heads that the call itself made. -/
def OwnH (w : World) (base : Nat) (A : Option Addr) (n cap : Nat) (l : List Hd) : Prop := w.ownsRow base 51 4 (.slice A n cap) n (flatH l)
section
variable {w w' : World} {base base' n cap : Nat} {A : Option Addr} {l : List Hd}
theorem OwnH.len (h : OwnH w base A n cap l) : l.length = n := by
  have := h.1
  rw [flatH_length] at this
  omega
theorem OwnH.nil_ : OwnH w base none 0 0 [] := World.ownsRow_nil _ _ _ _
theorem OwnH.lower (h : OwnH w base A n cap l) (hb : base' ≤ base) : OwnH w base' A n cap l := by
  refine ⟨h.1, ?_⟩
  rcases h.2 with h1 | ⟨g, c, cur, hv, hg, hrest⟩
  · exact .inl h1
  · exact .inr ⟨g, c, cur, hv, Nat.le_trans hb hg, hrest⟩
theorem OwnH.cap_le (h : OwnH w base A n cap l) : n ≤ cap := by
  rcases h.2 with ⟨hv, hx⟩ | ⟨g, c, cur, hv, hb, hh, hnc, _⟩
  · omega
  · have hv' : A = some ⟨g, 0, none⟩ ∧ cap = c := by simpa using hv
    omega
theorem OwnH.cap_max (h : OwnH w base A n cap l) : cap ≤ maxLen := by
  rcases h.2 with ⟨hv, hx⟩ | ⟨g, c, cur, hv, hb, hh, hnc, hm, _⟩
  · have hv' : A = none ∧ n = 0 ∧ cap = 0 := by simpa using hv
    omega
  · have hv' : A = some ⟨g, 0, none⟩ ∧ cap = c := by simpa using hv
    omega
theorem OwnH.none_cap (h : OwnH w base A n cap l) : A = none → cap = 0 := by
  intro hA
  subst hA
  rcases h.2 with ⟨hv, _⟩ | ⟨g, c, cur, hv, _⟩
  · have hv' : n = 0 ∧ cap = 0 := by simpa using hv
    exact hv'.2
  · simp at hv
theorem OwnH.form (h : OwnH w base A n cap l) : (A = none ∧ n = 0 ∧ cap = 0) ∨ ∃ g, A = some ⟨g, 0, none⟩ ∧ base ≤ g ∧ g < w.heap.size := by
  rcases h.2 with ⟨hv, _⟩ | ⟨g, c, cur, hv, hg, hh, _⟩
  · exact .inl (by simpa using hv)
  · have hv' : A = some ⟨g, 0, none⟩ ∧ cap = c := by simpa using hv
    exact .inr ⟨g, hv'.1, hg, lt_of_heap hh⟩
theorem OwnH.cells (h : OwnH w base A n cap l) {b off : Nat} (hA : A = some ⟨b, off, none⟩) : off = 0 ∧ ∀ j v, (flatH l)[j]? = some v → w.cell? ⟨b, j, none⟩ = some v ∧ w.frozen? ⟨b, j, none⟩ = false := by
  rcases h.2 with ⟨hv, hx⟩ | ⟨g, c, cur, hv, hb, hh, hnc, hm, hcs, htk⟩
  · have hv' : A = none ∧ n = 0 ∧ cap = 0 := by simpa using hv
    rw [hv'.1] at hA; cases hA
  · have hv' : A = some ⟨g, 0, none⟩ ∧ cap = c := by simpa using hv
    rw [hA] at hv'
    obtain ⟨rfl, rfl⟩ : b = g ∧ off = 0 := by simpa using hv'.1
    refine ⟨rfl, fun j v hj => ?_⟩
    rw [← htk, List.getElem?_take] at hj
    split at hj
    · have hj' : cur[j]? = some v := by simpa using hj
      constructor
      · rw [cell_of_row _ _ _ _ _ (0, 0) hh]; exact hj'
      · simp [World.frozen?, hh]
    · cases hj
theorem OwnH.heads (h : OwnH w base A n cap l) : Hds w w.heap.size A l := fun hn => by
  rcases h.form with ⟨_, h0, _⟩ | ⟨g, hA, _, hlt⟩
  · have := h.len; omega
  · subst hA
    have hc := (h.cells rfl).2
    exact Hds.ofFlat hlt (fun j v hv => by rw [Nat.zero_add]; exact (hc j v hv).1) hn
theorem OwnH.keep (h : OwnH w base A n cap l) {S : Nat → Prop} (ho : Only S w w') (hn : ∀ k, blockOf A = some k → ¬ S k) : OwnH w' base A n cap l := by
  refine ⟨h.1, ?_⟩
  rcases h.2 with h1 | ⟨g, c, cur, hv, hg, hh, hrest⟩
  · exact .inl h1
  · have hv' : A = some ⟨g, 0, none⟩ := by
      have : A = some ⟨g, 0, none⟩ ∧ cap = c := by simpa using hv
      exact this.1
    exact .inr ⟨g, c, cur, hv, hg, (ho.block g (lt_of_heap hh) (hn g (by rw [hv']; rfl))).trans hh, hrest⟩
theorem OwnH.on (h : OwnH w base A n cap l) (hb : Below w.heap.size w w') : OwnH w' base A n cap l := h.keep (S := fun _ => False) (Only.ofBelow hb) (fun _ _ h => h)
end
theorem ownH_value {w : World} {base n : Nat} {v : Value} {xs : List Value} (h : w.ownsRow base 51 4 v n xs) : ∃ A cap, v = .slice A n cap := by
  rcases h.2 with ⟨hv, hx⟩ | ⟨g, c, cur, hv, _⟩
  · refine ⟨none, 0, ?_⟩
    rw [hx]
    exact hv
  · exact ⟨_, _, hv⟩

section
variable {P : Program} {w : World}
/-- 'append(out, xs...)', out the program's own heads, xs any heads, nil or not. -/
theorem wpList_appendH {ops : Array Oper} {rest : List Oper} {o : Oper} {a : Act} {Q : Exit → Act → World → Prop} (hgd : o.guard = none) (s x : Operand)
    (ho : o.op = .call { callee := .builtin .append, args := #[s, x], argTypes := #[25, 25] })
    (base : Nat) (A : Option Addr) (n cap : Nat) (l : List Hd) (hs : a.eval s = .slice A n cap) (hbase : base ≤ w.heap.size) (hown : OwnH w base A n cap l)
    (A1 : Option Addr) (m c B : Nat) (xs : List Hd) (hx : a.eval x = .slice A1 m c) (hl : xs.length = m) (hA : A1 = none → c = 0) (hb : Hds w B A1 xs)
    (hbytes : n + m ≤ 1099511627776)
    (h : ∀ A' cap' w', Hid (OwnH w' base A' (n + m) cap' (l ++ xs)) → Hid (Only (fun k => blockOf A = some k) w w') → Hid (NewOr w (blockOf A) (blockOf A')) → wpList Try.prog ops Q rest (a.put o.dst (.slice A' (n + m) cap')) w') :
    wpList Try.prog ops Q (o :: rest) a w := by
  obtain ⟨i0, hi0, hz0, hz1, hz2⟩ := info_parts Try.infoH
  rcases A1 with _ | ad
  · have hc := hA rfl
    subst hc
    have hxs := hb.none_
    subst hxs
    obtain rfl : m = 0 := by simpa using hl.symm
    refine wpList_append_own_none hgd s x 25 ho base 51 i0 4 Try.underlying25 hi0 (.slice A n cap) n (flatH l) hs hown hx ?_
    have := h A cap w (by rw [List.append_nil, Nat.add_zero]; exact hown) (Only.refl _ _) (NewOr.refl _ _)
    simpa using this
  · refine wpList_append_own_at _ hgd s x 25 ho base 51 i0 _ 4 32 Try.underlying25 hi0 hz0 hz1 hz2 rfl (by omega) (.slice A n cap) n (flatH l) hs hown ad m c (flatH xs) hx (by rw [flatH_length, hl]) (fun j u hu => ?_) (flatH_one xs) (by unfold maxLen; omega) (by omega) hbase ?_
    · have hpos : 0 < xs.length := by
        have := (List.getElem?_eq_some_iff.1 hu).1
        rw [flatH_length] at this
        omega
      obtain ⟨b', off', e, _, h'⟩ := hb.src hpos
      cases e
      rw [add_mk]
      exact h' j u hu
    · intro v' w1 hown' hg _ hat
      obtain ⟨A', cap', rfl⟩ := ownH_value hown'
      rw [ownBlock_slice, ownBlock_slice] at hat
      rw [ownBlock_slice] at hg
      refine h A' cap' w1 (by unfold OwnH; rw [flatH_append]; exact hown') (Only.ofGrown hg) ?_
      rcases hat with e | e
      · exact .inl e
      · exact .inr ⟨_, e, Nat.le_refl _⟩
end
/-- Heads laid in a block of their own. -/
theorem heads_new (w : World) (l : List Hd) : Hds (w.alloc (.cells (flatH l).toArray 51)) (w.heap.size + 1) (some ⟨w.heap.size, 0, none⟩) l :=
  Hds.ofFlat (by omega) fun j v hv => by
    rw [cell_of_row _ _ _ _ _ (0, 0) (heap_alloc_new w _), Nat.zero_add]
    simpa using hv
theorem ownH_base {w : World} {base n cap : Nat} {A : Option Addr} {l : List Hd} (h : OwnH w base A n cap l) : ∀ k, blockOf A = some k → base ≤ k := fun k e => by
  rcases h.form with ⟨rfl, _⟩ | ⟨g, rfl, hg, _⟩
  · cases e
  · cases e
    exact hg
end Go.Proofs.Ytlcddfkhklmieaa
