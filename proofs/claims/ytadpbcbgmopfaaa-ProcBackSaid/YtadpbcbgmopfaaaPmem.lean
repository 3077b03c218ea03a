/-
  Lists of lives in memory: a slice that reads as a list of lives; one that the program itself made. No condition.
-/
import Derived.Test.YtadpbcbgmopfaaaMem
import Derived.Test.YtadpbcbgmopfaaaSet
import Derived.Sort.Grow
namespace Go.Proofs.Ytadpbcbgmopfaaa
open Go.RowKit Go.Sort

/-- A life's two cells. -/
def encP (p : Life) : List Value := [.int .i64 p.1, .int .u64 p.2]
/-- A life, by value. -/
abbrev lifeV (p : Life) : Value := .agg #[.int .i64 p.1, .int .u64 p.2]
/-- A slice's address A under which these lives lie, in a block below B. -/
def Lives (w : World) (B : Nat) (A : Option Addr) (l : List Life) : Prop :=
  0 < l.length → ∃ b off, A = some ⟨b, off, none⟩ ∧ b < B ∧ ∀ k, k < l.length → w.cell? ⟨b, off + k * 2, none⟩ = some (.int .i64 (atL l k).1) ∧ w.cell? ⟨b, off + k * 2 + 1, none⟩ = some (.int .u64 (atL l k).2)
section
variable {w w' : World} {B B' : Nat} {A : Option Addr} {l : List Life}
theorem Lives.nil_ : Lives w B A [] := fun h => absurd h (by simp)
theorem Lives.below (h : Lives w B A l) (hb : Below B w w') : Lives w' B A l := fun hn => by
  obtain ⟨b, off, e, hlt, hc⟩ := h hn
  exact ⟨b, off, e, hlt, fun k hk => ⟨(hb.cell (p := ⟨b, off + k * 2, none⟩) hlt).trans (hc k hk).1, (hb.cell (p := ⟨b, off + k * 2 + 1, none⟩) hlt).trans (hc k hk).2⟩⟩
theorem Lives.more (h : Lives w B A l) (hB : B ≤ B') : Lives w B' A l := fun hn => by
  obtain ⟨b, off, e, hlt, hc⟩ := h hn
  exact ⟨b, off, e, by omega, hc⟩
/-- Behind a call that left all that was there as it was. -/
theorem Lives.on (h : Lives w w.heap.size A l) (hb : Below w.heap.size w w') : Lives w' w'.heap.size A l := (h.below hb).more hb.size
theorem Lives.on' (h : Lives w B A l) (hB : B ≤ w.heap.size) (hb : Below w.heap.size w w') : Lives w' B A l := h.below (hb.mono hB)
theorem Lives.front (h : Lives w B A l) (n : Nat) : Lives w B A (l.take n) := fun hn => by
  rw [List.length_take] at hn
  obtain ⟨b, off, e, hb, hc⟩ := h (by omega)
  refine ⟨b, off, e, hb, fun k hk => ?_⟩
  rw [List.length_take] at hk
  have : atL (l.take n) k = atL l k := by
    simp only [atL, List.getD]
    rw [List.getElem?_take, if_pos (by omega)]
  rw [this]
  exact hc k (by omega)
theorem Lives.back {b off : Nat} (h : Lives w B (some ⟨b, off, none⟩) l) (n : Nat) : Lives w B (some ⟨b, off + n * 2, none⟩) (l.drop n) := fun hn => by
  rw [List.length_drop] at hn
  obtain ⟨b', off', e, hb, hc⟩ := h (by omega)
  obtain ⟨rfl, rfl⟩ : b = b' ∧ off = off' := by simpa using e
  refine ⟨b, off + n * 2, rfl, hb, fun k hk => ?_⟩
  rw [List.length_drop] at hk
  have : atL (l.drop n) k = atL l (n + k) := by simp [atL, List.getD, List.getElem?_drop]
  rw [this]
  have := hc (n + k) (by omega)
  rwa [show off + (n + k) * 2 = off + n * 2 + k * 2 by omega] at this
end
/-- The cells of lives, one behind the other. -/
def flatP (l : List Life) : List Value := l.flatMap encP
@[simp] theorem flatP_nil : flatP [] = [] := rfl
@[simp] theorem flatP_cons (p : Life) (l : List Life) : flatP (p :: l) = .int .i64 p.1 :: .int .u64 p.2 :: flatP l := rfl
theorem flatP_append (a b : List Life) : flatP (a ++ b) = flatP a ++ flatP b := by simp [flatP]
theorem flatP_length : ∀ l : List Life, (flatP l).length = l.length * 2
  | [] => rfl
  | p :: l => by rw [flatP_cons, List.length_cons, List.length_cons, flatP_length l, List.length_cons]; omega
theorem flatP_one : ∀ (l : List Life), ∀ v ∈ flatP l, v.oneCell' = true
  | [], v, h => by cases h
  | p :: l, v, h => by
    rw [flatP_cons] at h
    rcases List.mem_cons.1 h with rfl | h
    · rfl
    · rcases List.mem_cons.1 h with rfl | h
      · rfl
      · exact flatP_one l v h
theorem flatP_get : ∀ (l : List Life) (k : Nat), k < l.length → (flatP l)[k * 2]? = some (.int .i64 (atL l k).1) ∧ (flatP l)[k * 2 + 1]? = some (.int .u64 (atL l k).2)
  | [], k, h => absurd h (by simp)
  | p :: l, 0, _ => ⟨rfl, rfl⟩
  | p :: l, k + 1, h => by
    have := flatP_get l k (by simpa using h)
    rw [flatP_cons, show (k + 1) * 2 = k * 2 + 1 + 1 by omega, List.getElem?_cons_succ, List.getElem?_cons_succ, show k * 2 + 1 + 1 + 1 = (k * 2 + 1) + 1 + 1 by omega, List.getElem?_cons_succ, List.getElem?_cons_succ]
    exact this
theorem flatP_get_inv (l : List Life) (j : Nat) (u : Value) (h : (flatP l)[j]? = some u) : ∃ k, k < l.length ∧ ((j = k * 2 ∧ u = .int .i64 (atL l k).1) ∨ (j = k * 2 + 1 ∧ u = .int .u64 (atL l k).2)) := by
  have hj : j < l.length * 2 := by
    have := (List.getElem?_eq_some_iff.1 h).1
    rwa [flatP_length] at this
  refine ⟨j / 2, by omega, ?_⟩
  obtain ⟨h1, h2⟩ := flatP_get l (j / 2) (by omega)
  rcases Nat.mod_two_eq_zero_or_one j with e | e
  · left
    have ej : j / 2 * 2 = j := by omega
    rw [ej, h] at h1
    exact ⟨ej.symm, Option.some.inj h1⟩
  · right
    have ej : j / 2 * 2 + 1 = j := by omega
    rw [ej, h] at h2
    exact ⟨ej.symm, Option.some.inj h2⟩
theorem Lives.src {w : World} {B : Nat} {A : Option Addr} {l : List Life} (h : Lives w B A l) (hn : 0 < l.length) : ∃ b off, A = some ⟨b, off, none⟩ ∧ b < B ∧ ∀ j v, (flatP l)[j]? = some v → w.cell? ⟨b, off + j, none⟩ = some v := by
  obtain ⟨b, off, e, hb, hc⟩ := h hn
  refine ⟨b, off, e, hb, fun j v hv => ?_⟩
  obtain ⟨k, hk, ⟨rfl, rfl⟩ | ⟨rfl, rfl⟩⟩ := flatP_get_inv l j v hv
  · exact (hc k hk).1
  · exact (hc k hk).2
theorem Lives.ofFlat {w : World} {B b off : Nat} {l : List Life} (hb : b < B) (h : ∀ j v, (flatP l)[j]? = some v → w.cell? ⟨b, off + j, none⟩ = some v) : Lives w B (some ⟨b, off, none⟩) l := fun _ => by
  refine ⟨b, off, rfl, hb, fun k hk => ?_⟩
  obtain ⟨h1, h2⟩ := flatP_get l k hk
  exact ⟨h _ _ h1, by rw [Nat.add_assoc]; exact h _ _ h2⟩
theorem Lives.none_ {w : World} {B : Nat} {l : List Life} (h : Lives w B none l) : l = [] := by
  rcases Nat.eq_zero_or_pos l.length with h0 | h0
  · exact List.eq_nil_of_length_eq_zero h0
  · obtain ⟨_, _, e, _⟩ := h h0; cases e

theorem Try.infoP : (Try.prog.info? 70).map (fun i => (i.zero, i.size, i.bytes)) = some (some (.agg #[.int .i64 0, .int .u64 0]), 2, 16) := by kernel_rfl

/-- A slice of lives that the call itself made. -/
def OwnP (w : World) (base : Nat) (A : Option Addr) (n cap : Nat) (l : List Life) : Prop := w.ownsRow base 70 2 (.slice A n cap) n (flatP l)
section
variable {w w' : World} {base base' n cap : Nat} {A : Option Addr} {l : List Life}
theorem OwnP.len (h : OwnP w base A n cap l) : l.length = n := by
  have := h.1
  rw [flatP_length] at this
  omega
theorem OwnP.nil_ : OwnP w base none 0 0 [] := World.ownsRow_nil _ _ _ _
theorem OwnP.lower (h : OwnP w base A n cap l) (hb : base' ≤ base) : OwnP w base' A n cap l := by
  refine ⟨h.1, ?_⟩
  rcases h.2 with h1 | ⟨g, c, cur, hv, hg, hrest⟩
  · exact .inl h1
  · exact .inr ⟨g, c, cur, hv, Nat.le_trans hb hg, hrest⟩
theorem OwnP.cap_le (h : OwnP w base A n cap l) : n ≤ cap := by
  rcases h.2 with ⟨hv, hx⟩ | ⟨g, c, cur, hv, hb, hh, hnc, _⟩
  · omega
  · have hv' : A = some ⟨g, 0, none⟩ ∧ cap = c := by simpa using hv
    omega
theorem OwnP.cap_max (h : OwnP w base A n cap l) : cap ≤ maxLen := by
  rcases h.2 with ⟨hv, hx⟩ | ⟨g, c, cur, hv, hb, hh, hnc, hm, _⟩
  · have hv' : A = none ∧ n = 0 ∧ cap = 0 := by simpa using hv
    omega
  · have hv' : A = some ⟨g, 0, none⟩ ∧ cap = c := by simpa using hv
    omega
theorem OwnP.none_cap (h : OwnP w base A n cap l) : A = none → cap = 0 := by
  intro hA
  subst hA
  rcases h.2 with ⟨hv, _⟩ | ⟨g, c, cur, hv, _⟩
  · have hv' : n = 0 ∧ cap = 0 := by simpa using hv
    exact hv'.2
  · simp at hv
theorem OwnP.form (h : OwnP w base A n cap l) : (A = none ∧ n = 0 ∧ cap = 0) ∨ ∃ g, A = some ⟨g, 0, none⟩ ∧ base ≤ g ∧ g < w.heap.size := by
  rcases h.2 with ⟨hv, _⟩ | ⟨g, c, cur, hv, hg, hh, _⟩
  · exact .inl (by simpa using hv)
  · have hv' : A = some ⟨g, 0, none⟩ ∧ cap = c := by simpa using hv
    exact .inr ⟨g, hv'.1, hg, lt_of_heap hh⟩
theorem OwnP.cells (h : OwnP w base A n cap l) {b off : Nat} (hA : A = some ⟨b, off, none⟩) : off = 0 ∧ ∀ j v, (flatP l)[j]? = some v → w.cell? ⟨b, j, none⟩ = some v ∧ w.frozen? ⟨b, j, none⟩ = false := by
  rcases h.2 with ⟨hv, hx⟩ | ⟨g, c, cur, hv, hb, hh, hnc, hm, hcs, htk⟩
  · have hv' : A = none ∧ n = 0 ∧ cap = 0 := by simpa using hv
    rw [hv'.1] at hA; cases hA
  · have hv' : A = some ⟨g, 0, none⟩ ∧ cap = c := by simpa using hv
    rw [hA] at hv'
    obtain ⟨rfl, rfl⟩ : b = g ∧ off = 0 := by simpa using hv'.1
    refine ⟨rfl, fun j v hj => ?_⟩
    rw [← htk, List.getElem?_take] at hj
    split at hj
    · have hj' : cur[j]? = some v := by simpa using hj
      constructor
      · rw [cell_of_row _ _ _ _ _ (0, 0) hh]; exact hj'
      · simp [World.frozen?, hh]
    · cases hj
theorem OwnP.lives (h : OwnP w base A n cap l) : Lives w w.heap.size A l := fun hn => by
  rcases h.form with ⟨_, h0, _⟩ | ⟨g, hA, _, hlt⟩
  · have := h.len; omega
  · subst hA
    have hc := (h.cells rfl).2
    exact Lives.ofFlat hlt (fun j v hv => by rw [Nat.zero_add]; exact (hc j v hv).1) hn
theorem OwnP.keep (h : OwnP w base A n cap l) {S : Nat → Prop} (ho : Only S w w') (hn : ∀ k, blockOf A = some k → ¬ S k) : OwnP w' base A n cap l := by
  refine ⟨h.1, ?_⟩
  rcases h.2 with h1 | ⟨g, c, cur, hv, hg, hh, hrest⟩
  · exact .inl h1
  · have hv' : A = some ⟨g, 0, none⟩ := by
      have : A = some ⟨g, 0, none⟩ ∧ cap = c := by simpa using hv
      exact this.1
    exact .inr ⟨g, c, cur, hv, hg, (ho.block g (lt_of_heap hh) (hn g (by rw [hv']; rfl))).trans hh, hrest⟩
theorem OwnP.on (h : OwnP w base A n cap l) (hb : Below w.heap.size w w') : OwnP w' base A n cap l := h.keep (S := fun _ => False) (Only.ofBelow hb) (fun _ _ h => h)
end
theorem ownP_value {w : World} {base n : Nat} {v : Value} {xs : List Value} (h : w.ownsRow base 70 2 v n xs) : ∃ A cap, v = .slice A n cap := by
  rcases h.2 with ⟨hv, hx⟩ | ⟨g, c, cur, hv, _⟩
  · refine ⟨none, 0, ?_⟩
    rw [hx]
    exact hv
  · exact ⟨_, _, hv⟩

section
variable {P : Program} {w : World}
/-- 'append(out, xs...)', out the program's own lives, xs any lives, nil or not. -/
theorem wpList_appendP {ops : Array Oper} {rest : List Oper} {o : Oper} {a : Act} {Q : Exit → Act → World → Prop} (hgd : o.guard = none) (s x : Operand)
    (ho : o.op = .call { callee := .builtin .append, args := #[s, x], argTypes := #[74, 74] })
    (base : Nat) (A : Option Addr) (n cap : Nat) (l : List Life) (hs : a.eval s = .slice A n cap) (hbase : base ≤ w.heap.size) (hown : OwnP w base A n cap l)
    (A1 : Option Addr) (m c B : Nat) (xs : List Life) (hx : a.eval x = .slice A1 m c) (hl : xs.length = m) (hA : A1 = none → c = 0) (hb : Lives w B A1 xs)
    (hbytes : n + m ≤ 4398046511104)
    (h : ∀ A' cap' w', Hid (OwnP w' base A' (n + m) cap' (l ++ xs)) → Hid (Only (fun k => blockOf A = some k) w w') → Hid (NewOr w (blockOf A) (blockOf A')) → wpList Try.prog ops Q rest (a.put o.dst (.slice A' (n + m) cap')) w') :
    wpList Try.prog ops Q (o :: rest) a w := by
  obtain ⟨i0, hi0, hz0, hz1, hz2⟩ := info_parts Try.infoP
  rcases A1 with _ | ad
  · have hc := hA rfl
    subst hc
    have hxs := hb.none_
    subst hxs
    obtain rfl : m = 0 := by simpa using hl.symm
    refine wpList_append_own_none hgd s x 74 ho base 70 i0 2 Try.underlying74 hi0 (.slice A n cap) n (flatP l) hs hown hx ?_
    have := h A cap w (by rw [List.append_nil, Nat.add_zero]; exact hown) (Only.refl _ _) (NewOr.refl _ _)
    simpa using this
  · refine wpList_append_own_at _ hgd s x 74 ho base 70 i0 _ 2 16 Try.underlying74 hi0 hz0 hz1 hz2 rfl (by omega) (.slice A n cap) n (flatP l) hs hown ad m c (flatP xs) hx (by rw [flatP_length, hl]) (fun j u hu => ?_) (flatP_one xs) (by unfold maxLen; omega) (by omega) hbase ?_
    · have hpos : 0 < xs.length := by
        have := (List.getElem?_eq_some_iff.1 hu).1
        rw [flatP_length] at this
        omega
      obtain ⟨b', off', e, _, h'⟩ := hb.src hpos
      cases e
      rw [add_mk]
      exact h' j u hu
    · intro v' w1 hown' hg _ hat
      obtain ⟨A', cap', rfl⟩ := ownP_value hown'
      rw [ownBlock_slice, ownBlock_slice] at hat
      rw [ownBlock_slice] at hg
      refine h A' cap' w1 (by unfold OwnP; rw [flatP_append]; exact hown') (Only.ofGrown hg) ?_
      rcases hat with e | e
      · exact .inl e
      · exact .inr ⟨_, e, Nat.le_refl _⟩
end
/-- Lives laid in a block of their own. -/
theorem lives_new (w : World) (l : List Life) : Lives (w.alloc (.cells (flatP l).toArray 70)) (w.heap.size + 1) (some ⟨w.heap.size, 0, none⟩) l :=
  Lives.ofFlat (by omega) fun j v hv => by
    rw [cell_of_row _ _ _ _ _ (0, 0) (heap_alloc_new w _), Nat.zero_add]
    simpa using hv

end Go.Proofs.Ytadpbcbgmopfaaa
