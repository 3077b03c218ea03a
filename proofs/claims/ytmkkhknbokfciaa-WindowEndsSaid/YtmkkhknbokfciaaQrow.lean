/-
  Rows that a call itself made, of values of one type; the append onto them. Strings, and copies on their way. No condition.
-/
import Derived.Test.YtmkkhknbokfciaaQmem
namespace Go.Proofs.Ytmkkhknbokfciaa
set_option maxRecDepth 20000
open Go.RowKit

/-- A row of the call's own. -/
def GR (T : TypeId) (sz : Nat) (w : World) (base : Nat) (A : Option Addr) (n cap : Nat) (vs : List Value) : Prop := w.ownsRow base T sz (.slice A n cap) n vs
section
variable {T : TypeId} {sz : Nat} {w w' : World} {base base' n cap : Nat} {A : Option Addr} {vs : List Value}
theorem GR.len (h : GR T sz w base A n cap vs) : vs.length = n * sz := h.1
theorem GR.nil_ : GR T sz w base none 0 0 [] := World.ownsRow_nil _ _ _ _
theorem GR.lower (h : GR T sz w base A n cap vs) (hb : base' ≤ base) : GR T sz w base' A n cap vs := by
  refine ⟨h.1, ?_⟩
  rcases h.2 with h1 | ⟨g, c, cur, hv, hg, hrest⟩
  · exact .inl h1
  · exact .inr ⟨g, c, cur, hv, Nat.le_trans hb hg, hrest⟩
theorem GR.parts (h : GR T sz w base A n cap vs) : (A = none ∧ n = 0 ∧ cap = 0) ∨ ∃ g cur, A = some ⟨g, 0, none⟩ ∧ base ≤ g ∧ w.heap[g]? = some (.cells cur T (0, 0)) ∧ n ≤ cap ∧ cap ≤ maxLen ∧ cur.size = cap * sz ∧ cur.toList.take (n * sz) = vs := by
  rcases h.2 with ⟨hv, hx⟩ | ⟨g, c, cur, hv, hb, hh, hnc, hm, hcs, htk⟩
  · exact .inl (by simpa using hv)
  · have hv' : A = some ⟨g, 0, none⟩ ∧ cap = c := by simpa using hv
    obtain ⟨rfl, rfl⟩ := hv'
    exact .inr ⟨g, cur, rfl, hb, hh, hnc, hm, hcs, htk⟩
theorem GR.cap_le (h : GR T sz w base A n cap vs) : n ≤ cap := by
  rcases h.parts with ⟨_, h1, h2⟩ | ⟨_, _, _, _, _, h1, _⟩ <;> omega
theorem GR.none_cap (h : GR T sz w base A n cap vs) : A = none → cap = 0 := by
  intro e
  rcases h.parts with ⟨_, h1, h2⟩ | ⟨g, _, e2, _⟩
  · exact h2
  · rw [e] at e2; cases e2
theorem GR.form (h : GR T sz w base A n cap vs) : (A = none ∧ n = 0 ∧ cap = 0) ∨ ∃ g, A = some ⟨g, 0, none⟩ ∧ base ≤ g ∧ g < w.heap.size := by
  rcases h.parts with h | ⟨g, _, e2, h1, h2, _⟩
  · exact .inl h
  · exact .inr ⟨g, e2, h1, lt_of_heap h2⟩
theorem GR.bs (h : GR T sz w base A n cap vs) : ∀ k, blockOf A = some k → base ≤ k ∧ k < w.heap.size := fun k e => by
  rcases h.form with ⟨rfl, _⟩ | ⟨g, rfl, hg, hl⟩
  · cases e
  · cases e; exact ⟨hg, hl⟩
theorem GR.ty (h : GR T sz w base A n cap vs) : ∀ k, blockOf A = some k → ∃ cur, w.heap[k]? = some (.cells cur T (0, 0)) := fun k e => by
  rcases h.parts with ⟨rfl, _⟩ | ⟨g, cur, rfl, _, hh, _⟩
  · cases e
  · cases e; exact ⟨cur, hh⟩
theorem GR.cells (h : GR T sz w base A n cap vs) {b off : Nat} (hA : A = some ⟨b, off, none⟩) : off = 0 ∧ ∀ j v, vs[j]? = some v → w.cell? ⟨b, j, none⟩ = some v ∧ w.frozen? ⟨b, j, none⟩ = false := by
  rcases h.parts with ⟨rfl, _⟩ | ⟨g, cur, e, _, hh, _, _, _, htk⟩
  · cases hA
  · rw [e] at hA
    obtain ⟨rfl, rfl⟩ : g = b ∧ 0 = off := by simpa using hA
    refine ⟨rfl, fun j v hj => ?_⟩
    rw [← htk, List.getElem?_take] at hj
    split at hj
    · have hj' : cur[j]? = some v := by simpa using hj
      constructor
      · rw [cell_of_row _ _ _ _ _ (0, 0) hh]; exact hj'
      · simp [World.frozen?, hh]
    · cases hj
theorem GR.keep (h : GR T sz w base A n cap vs) {S : Nat → Prop} (ho : Only S w w') (hn : ∀ k, blockOf A = some k → ¬ S k) : GR T sz w' base A n cap vs := by
  refine ⟨h.1, ?_⟩
  rcases h.2 with h1 | ⟨g, c, cur, hv, hg, hh, hrest⟩
  · exact .inl h1
  · have hv' : A = some ⟨g, 0, none⟩ := by
      have : A = some ⟨g, 0, none⟩ ∧ cap = c := by simpa using hv
      exact this.1
    exact .inr ⟨g, c, cur, hv, hg, (ho.block g (lt_of_heap hh) (hn g (by rw [hv']; rfl))).trans hh, hrest⟩
theorem GR.on (h : GR T sz w base A n cap vs) (hb : Below w.heap.size w w') : GR T sz w' base A n cap vs := h.keep (S := fun _ => False) (Only.ofBelow hb) (fun _ _ h => h)
/-- What turns no block of its type leaves it alone. -/
theorem GR.off (h : GR T sz w base A n cap vs) {S : Nat → Prop} (ho : Only S w w') (hn : ∀ k cur, w.heap[k]? = some (.cells cur T (0, 0)) → ¬ S k) : GR T sz w' base A n cap vs := h.keep ho fun k e => by
  obtain ⟨cur, hh⟩ := h.ty k e
  exact hn k cur hh
end
theorem gr_value {T : TypeId} {sz : Nat} {w : World} {base n : Nat} {v : Value} {xs : List Value} (h : w.ownsRow base T sz v n xs) : ∃ A cap, v = .slice A n cap := by
  rcases h.2 with ⟨hv, hx⟩ | ⟨g, c, cur, hv, _⟩
  · refine ⟨none, 0, ?_⟩
    rw [hx]
    exact hv
  · exact ⟨_, _, hv⟩

/-- 'append(row, xs...)', as one step of a region that draws its order; xs of a slice that is not nil. -/
theorem step_appendG {P : Program} {ops : Array Oper} {o : Oper} {a : Act} {w : World} {K : Act → World → Prop} {Q : Exit → Act → World → Prop} {E : Prop} (t T : TypeId) (z : Value) (sz by_ : Nat) (ht : P.underlying t = some (.slice T)) (hinf : (P.info? T).map (fun i => (i.zero, i.size, i.bytes)) = some (some z, sz, by_)) (hzs : z.cells.size = sz) (hsz : 0 < sz) (hby : by_ ≤ 100)
    (hgd : o.guard = none) (s x : Operand) (ho : o.op = .call { callee := .builtin .append, args := #[s, x], argTypes := #[t, t] })
    (base : Nat) (A : Option Addr) (n cap : Nat) (vs : List Value) (hs : a.eval s = .slice A n cap) (hbase : base ≤ w.heap.size) (hown : GR T sz w base A n cap vs)
    (a1 : Addr) (m c1 : Nat) (news : List Value) (hx : a.eval x = .slice (some a1) m c1) (hl : news.length = m * sz) (hnews : ∀ j u, news[j]? = some u → w.cell? (a1.add j) = some u) (h1 : ∀ u ∈ news, u.oneCell' = true) (hnm : n + m ≤ 1000000)
    (h : ∀ A' cap' w', Hid (GR T sz w' base A' (n + m) cap' (vs ++ news)) → Hid (Only (fun k => blockOf A = some k) w w') → Hid (NewOr w (blockOf A) (blockOf A')) → K (a.put o.dst (.slice A' (n + m) cap')) w') :
    if Region.wanted o (yielded ops a.tmps) = true then Oper.wp P o a w K Q else E := by
  have hw : Region.wanted o (yielded ops a.tmps) = true := by simp [Region.wanted, hgd]
  rw [if_pos hw]
  obtain ⟨i0, hi0, hz0, hz1, hz2⟩ := info_parts hinf
  have hb : (n + m) * by_ ≤ 140737488355328 := Nat.le_trans (Nat.mul_le_mul hnm hby) (by omega)
  obtain ⟨v', w', hr, h2, h3, _, h5⟩ := run_append_own_at (P := P) w base t o.type T i0 z sz by_ ht hi0 hz0 hz1 hz2 hzs hsz (.slice A n cap) n vs hown a1 m c1 news hl hnews h1 (by unfold maxLen; omega) hb hbase
  unfold Oper.wp execOp
  simp only [ho, resolve, invoke, builtin, Sem.run_bind, Sem.run_pure, Result.andThen_ok, List.map_toArray, List.map_cons, List.map_nil, hs, hx, hr]
  obtain ⟨A', cap', rfl⟩ := gr_value h2
  rw [ownBlock_slice, ownBlock_slice] at h5
  rw [ownBlock_slice] at h3
  refine h A' cap' w' (show GR T sz w' base A' (n + m) cap' (vs ++ news) from h2) (Only.ofGrown h3) ?_
  rcases h5 with e | e
  · exact .inl e
  · exact .inr ⟨_, e, Nat.le_refl _⟩

/-- A string's value. -/
def strV (l : List UInt8) : Value := .string ⟨l.toArray⟩
/-- A copy's two cells. -/
def copV (c : Nat × List UInt8) : List Value := [.int .u64 (c.1 : Nat), strV c.2]
def copVs (cs : List (Nat × List UInt8)) : List Value := cs.flatMap copV
theorem strs_get {ps : List (List UInt8)} {k : Nat} (h : k < ps.length) : (ps.map strV)[k]? = some (strV (bodK ps k)) := by
  simp [bodK, List.getD, List.getElem?_eq_getElem h]
theorem strs_one (ps : List (List UInt8)) : ∀ u ∈ ps.map strV, u.oneCell' = true := fun u hu => by
  obtain ⟨l, _, rfl⟩ := List.mem_map.1 hu
  rfl
theorem copVs_length (cs : List (Nat × List UInt8)) : (copVs cs).length = cs.length * 2 := by
  induction cs with
  | nil => rfl
  | cons c cs ih =>
    have : copVs (c :: cs) = copV c ++ copVs cs := rfl
    rw [this, List.length_append, ih, List.length_cons]
    simp [copV]
    omega
theorem copVs_append (xs ys : List (Nat × List UInt8)) : copVs (xs ++ ys) = copVs xs ++ copVs ys := by simp [copVs]
theorem copVs_one (cs : List (Nat × List UInt8)) : ∀ u ∈ copVs cs, u.oneCell' = true := fun u hu => by
  obtain ⟨c, _, h⟩ := List.mem_flatMap.1 hu
  simp only [copV, List.mem_cons, List.not_mem_nil, or_false] at h
  rcases h with rfl | rfl <;> rfl
/-- The k-th copy. -/
def copK (cs : List (Nat × List UInt8)) (k : Nat) : Nat × List UInt8 := cs.getD k (0, [])
theorem copK_mem {cs : List (Nat × List UInt8)} {k : Nat} (h : k < cs.length) : copK cs k ∈ cs := by
  simp only [copK, List.getD, List.getElem?_eq_getElem h]
  exact List.getElem_mem h
theorem copVs_get {cs : List (Nat × List UInt8)} {k : Nat} (h : k < cs.length) : (copVs cs)[k * 2]? = some (.int .u64 ((copK cs k).1 : Nat)) ∧ (copVs cs)[k * 2 + 1]? = some (strV (copK cs k).2) := by
  induction cs generalizing k with
  | nil => simp at h
  | cons c cs ih =>
    have e : copVs (c :: cs) = copV c ++ copVs cs := rfl
    rcases k with _ | k
    · rw [e]
      constructor <;> rfl
    · have := ih (k := k) (by simpa using h)
      rw [e]
      have e2 : copK (c :: cs) (k + 1) = copK cs k := rfl
      rw [e2, ← this.1, ← this.2]
      constructor
      · rw [List.getElem?_append_right (by simp [copV]; omega)]
        congr 1
        simp [copV]
        omega
      · rw [List.getElem?_append_right (by simp [copV]; omega)]
        congr 1
        simp [copV]
        omega
theorem Try.infoStr7 : (Try.prog.info? 9).map (fun i => (i.zero, i.size, i.bytes)) = some (some (.string ⟨#[]⟩), 1, 16) := by kernel_rfl
theorem Try.infoCop7 : (Try.prog.info? 62).map (fun i => (i.zero, i.size, i.bytes)) = some (some (.agg #[.int .u64 0, .string ⟨#[]⟩]), 2, 24) := by kernel_rfl
end Go.Proofs.Ytmkkhknbokfciaa
