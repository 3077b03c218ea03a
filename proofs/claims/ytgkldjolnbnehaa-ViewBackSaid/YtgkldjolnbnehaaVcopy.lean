/-
  A copy of a view, by the document's Copy. For lists of at most 1000 members.
-/
import Derived.Test.YtgkldjolnbnehaaGe
import Derived.Test.YtgkldjolnbnehaaGa
import Derived.Deep.AppendSrc
import Derived.Deep.Upon
import Derived.Deep.RegionHeld3
namespace Go.Proofs.Ytgkldjolnbnehaa
set_option maxRecDepth 20000
open Go.RowKit Go.Deep

theorem grown_below {w w' : World} (h : w.grownBy w' none) : Below w.heap.size w w' := ⟨(Only.ofGrown h).os, (Only.ofGrown h).tape, (Only.ofGrown h).output, (Only.ofGrown h).size, fun k hk => (Only.ofGrown h).block k hk (fun e => by cases e)⟩
/-- Something appended to an empty slice that has a block of its own: the same, or a new block; nothing that was there turns. -/
theorem run_append0 {w : World} (t ty e : TypeId) (i : TypeInfo) (z : Value) (size bytes : Nat) (ht : Try.prog.underlying t = some (.slice e)) (hi : Try.prog.info? e = some i) (hz : i.zero = some z)
    (hsize : i.size = size) (hby : i.bytes = bytes) (hzs : z.cells.size = size) (hsz : 0 < size) (g : Nat) (A1 : Option Addr) (m c : Nat) (news : List Value) (hl : news.length = m * size) (hA : A1 = none → c = 0)
    (hnews : 0 < m → ∃ a, A1 = some a ∧ ∀ j u, news[j]? = some u → w.cell? (a.add j) = some u) (h63 : m ≤ maxLen) (hbytes : m * bytes ≤ 140737488355328) :
    ∃ A' c' w', (Builtin.append_ #[t, t] ty #[.slice (some ⟨g, 0, none⟩) 0 0, .slice A1 m c]).run Try.prog w = .ok (.slice A' m c') w' ∧ (0 < m → w'.ownsRow w.heap.size e size (.slice A' m c') m news) ∧ A' ≠ none ∧ Below w.heap.size w w' ∧ ∀ b, blockOf A' = some b → b = g ∨ w.heap.size ≤ b := by
  rcases Nat.eq_zero_or_pos m with rfl | hm
  · have hnil : news = [] := List.eq_nil_of_length_eq_zero (by simpa using hl)
    subst hnil
    refine ⟨some ⟨g, 0, none⟩, 0, w, ?_, fun h => absurd h (by omega), by simp, Below.refl _ _, fun b e => .inl (by simpa [blockOf] using e.symm)⟩
    rcases A1 with _ | a
    · have hc := hA rfl
      subst hc
      exact run_append_nothing w t t ty e i ht hi _ 0 0 (Nat.le_refl _) _ (Src.ofNil w ht 0)
    · exact run_append_nothing w t t ty e i ht hi _ 0 0 (Nat.le_refl _) _ (Src.ofSlice w ht a 0 c [] (by simp) (fun j u h => by simp at h) (fun u h => by cases h))
  · obtain ⟨a, rfl, hc⟩ := hnews hm
    obtain ⟨v', w', hr, h2, h3⟩ := run_append_arg_grows w t ty e i z size bytes ht hi hz hsize hby hzs hsz ⟨g, 0, none⟩ 0 0 [] (by simp) (fun j u h => by simp at h) a m c news hl hc (by omega) (by omega) (by rw [Nat.zero_add]; exact hbytes)
    rw [Nat.zero_add, List.nil_append] at h2
    rcases h2.2 with ⟨hv, hx⟩ | ⟨b, cp, cur, hv, hb, hh, _⟩
    · omega
    · subst hv
      refine ⟨_, _, w', hr, fun _ => h2, by simp, grown_below h3, fun b' e => .inr ?_⟩
      obtain rfl : b = b' := by simpa [blockOf] using e
      exact hb
section
variable {P : Program} {ops : Array Oper} {o : Oper} {a : Act} {w : World} {K : Act → World → Prop} {Q : Exit → Act → World → Prop} {E : Prop}
/-- 'append([]api.Proc{}, xs...)' as one step of a region that draws its order. -/
theorem step_append0P (hP : P = Try.prog) (hgd : o.guard = none) (s x : Operand) (ho : o.op = .call { callee := .builtin .append, args := #[s, x], argTypes := #[27, 27] })
    (g : Nat) (hs : a.eval s = .slice (some ⟨g, 0, none⟩) 0 0) (A1 : Option Addr) (m c B : Nat) (xs : List Life) (hx : a.eval x = .slice A1 m c) (hl : xs.length = m) (hA : A1 = none → c = 0) (hb : Lives w B A1 xs) (hbytes : m ≤ 1000)
    (h : ∀ A' cap' w', Hid (Lives w' w'.heap.size A' xs) → Hid (A' ≠ none) → Hid (Below w.heap.size w w') → Hid (∀ b, blockOf A' = some b → b = g ∨ w.heap.size ≤ b) → K (a.put o.dst (.slice A' m cap')) w') :
    if Region.wanted o (yielded ops a.tmps) = true then Oper.wp P o a w K Q else E := by
  subst hP
  have hw : Region.wanted o (yielded ops a.tmps) = true := by simp [Region.wanted, hgd]
  rw [if_pos hw]
  obtain ⟨i0, hi0, hz0, hz1, hz2⟩ := info_parts Try.infoP
  obtain ⟨A', c', w', hr, h1, h2, h3, h4⟩ := run_append0 (w := w) 27 o.type 24 i0 _ 2 16 Try.underlying27 hi0 hz0 hz1 hz2 rfl (by omega) g A1 m c (flatP xs) (by rw [flatP_length, hl]) hA (fun hm => by
    obtain ⟨b, off, e, _, hc⟩ := hb.src (by omega)
    subst e
    exact ⟨_, rfl, fun j u hu => by rw [add_mk]; exact hc j u hu⟩) (by unfold maxLen; omega) (by omega)
  unfold Oper.wp execOp
  simp only [ho, resolve, invoke, builtin, Sem.run_bind, Sem.run_pure, Result.andThen_ok, List.map_toArray, List.map_cons, List.map_nil, hs, hx, hr]
  refine h A' c' w' ?_ h2 h3 h4
  rcases Nat.eq_zero_or_pos m with rfl | hm
  · have : xs = [] := List.eq_nil_of_length_eq_zero hl
    subst this
    exact Lives.nil_
  · exact (show OwnP w' w.heap.size A' m c' xs from h1 hm).lives
theorem Try.infoU : (Try.prog.info? 22).map (fun i => (i.zero, i.size, i.bytes)) = some (some (.int .u64 0), 1, 8) := by kernel_rfl
def uv (l : List Nat) : List Value := l.map fun (x : Nat) => Value.int .u64 (x : Int)
theorem uv_get_inv {l : List Nat} {j : Nat} {u : Value} (h : (uv l)[j]? = some u) : j < l.length ∧ u = .int .u64 ((atN l j : Nat) : Int) := by
  have hj : j < l.length := by
    have := (List.getElem?_eq_some_iff.1 h).1
    simpa [uv] using this
  refine ⟨hj, ?_⟩
  simp [uv, hj] at h
  rw [← h, atN_lt hj]
theorem own_nums {w : World} {base n cap : Nat} {A : Option Addr} {l : List Nat} (h : w.ownsRow base 22 1 (.slice A n cap) n (uv l)) : Nums w w.heap.size A l := fun hl => by
  rcases h.2 with ⟨hv, hx⟩ | ⟨g, c, cur, hv, hb, hh, hnc, hm, hcs, htk⟩
  · have h1 := h.1
    simp [uv] at h1
    omega
  · have hv' : A = some ⟨g, 0, none⟩ ∧ cap = c := by simpa using hv
    obtain ⟨rfl, -⟩ := hv'
    refine ⟨g, 0, rfl, lt_of_heap hh, fun k hk => ?_⟩
    have hg : (uv l)[k]? = some (.int .u64 ((l.getD k 0 : Nat) : Int)) := by simp [uv, List.getD, hk]
    rw [← htk, List.getElem?_take] at hg
    split at hg
    · rw [Nat.zero_add, cell_of_row _ _ _ _ _ (0, 0) hh]
      simpa using hg
    · cases hg
/-- 'append([]uint64{}, xs...)' as one step of a region that draws its order. -/
theorem step_append0U (hP : P = Try.prog) (hgd : o.guard = none) (s x : Operand) (ho : o.op = .call { callee := .builtin .append, args := #[s, x], argTypes := #[28, 28] })
    (g : Nat) (hs : a.eval s = .slice (some ⟨g, 0, none⟩) 0 0) (A1 : Option Addr) (m c B : Nat) (xs : List Nat) (hx : a.eval x = .slice A1 m c) (hl : xs.length = m) (hA : A1 = none → c = 0) (hb : Nums w B A1 xs) (hbytes : m ≤ 1000)
    (h : ∀ A' cap' w', Hid (Nums w' w'.heap.size A' xs) → Hid (A' ≠ none) → Hid (Below w.heap.size w w') → Hid (∀ b, blockOf A' = some b → b = g ∨ w.heap.size ≤ b) → K (a.put o.dst (.slice A' m cap')) w') :
    if Region.wanted o (yielded ops a.tmps) = true then Oper.wp P o a w K Q else E := by
  subst hP
  have hw : Region.wanted o (yielded ops a.tmps) = true := by simp [Region.wanted, hgd]
  rw [if_pos hw]
  obtain ⟨i0, hi0, hz0, hz1, hz2⟩ := info_parts Try.infoU
  obtain ⟨A', c', w', hr, h1, h2, h3, h4⟩ := run_append0 (w := w) 28 o.type 22 i0 _ 1 8 Try.underlying28 hi0 hz0 hz1 hz2 rfl (by omega) g A1 m c (uv xs) (by simp [uv, hl]) hA (fun hm => by
    obtain ⟨b, off, e, _, hc⟩ := hb (by omega)
    subst e
    refine ⟨_, rfl, fun j u hu => ?_⟩
    obtain ⟨hj, rfl⟩ := uv_get_inv hu
    rw [add_mk]
    exact hc j hj) (by unfold maxLen; omega) (by omega)
  unfold Oper.wp execOp
  simp only [ho, resolve, invoke, builtin, Sem.run_bind, Sem.run_pure, Result.andThen_ok, List.map_toArray, List.map_cons, List.map_nil, hs, hx, hr]
  refine h A' c' w' ?_ h2 h3 h4
  rcases Nat.eq_zero_or_pos m with rfl | hm
  · have : xs = [] := List.eq_nil_of_length_eq_zero hl
    subst this
    exact fun h => absurd h (by simp)
  · exact own_nums (h1 hm)
end
/-! The copy. -/
theorem Lives.blk {w : World} {A : Option Addr} {l : List Life} (h : Lives w w.heap.size A l) (hp : 0 < l.length) : ∀ bk, blockOf A = some bk → bk < w.heap.size := fun bk e => by
  obtain ⟨b', o', e', hlt, _⟩ := h hp
  subst e'
  obtain rfl : b' = bk := by simpa [blockOf] using e
  exact hlt
theorem Nums.blk {w : World} {A : Option Addr} {l : List Nat} (h : Nums w w.heap.size A l) (hp : 0 < l.length) : ∀ bk, blockOf A = some bk → bk < w.heap.size := fun bk e => by
  obtain ⟨b', o', e', hlt, _⟩ := h hp
  subst e'
  obtain rfl : b' = bk := by simpa [blockOf] using e
  exact hlt
theorem VBox.only {b bb : Nat} {r x y : Int} {A : Option Addr} {n c : Nat} {A' : Option Addr} {m c' : Nat} {w w' : World} (h : VBox b r x y A n c A' m c' w) (ho : Only (fun k => k = bb) w w') (hn : b ≠ bb) : VBox b r x y A n c A' m c' w' := by
  have hlt := World.block_lt_of_cell? w _ h.1
  simp only at hlt
  exact ⟨(ho.cell (p := ⟨b, 0, none⟩) hlt hn).trans h.1, (ho.cell (p := ⟨b, 1, none⟩) hlt hn).trans h.2.1, (ho.cell (p := ⟨b, 2, none⟩) hlt hn).trans h.2.2.1, (ho.cell (p := ⟨b, 3, none⟩) hlt hn).trans h.2.2.2.1, (ho.cell (p := ⟨b, 4, none⟩) hlt hn).trans h.2.2.2.2⟩
theorem Lives.only2 {w w' : World} {bb : Nat} {A : Option Addr} {l : List Life} (h : Lives w w.heap.size A l) (ho : Only (fun k => k = bb) w w') (hn : 0 < l.length → ∀ bk, blockOf A = some bk → bk ≠ bb) : Lives w' w'.heap.size A l := fun hl => by
  obtain ⟨b', off', e, hlt, hc⟩ := h hl
  subst e
  exact ⟨b', off', rfl, Nat.lt_of_lt_of_le hlt ho.size, fun k hk => ⟨(ho.cell (p := ⟨b', off' + k * 2, none⟩) hlt (hn hl b' rfl)).trans (hc k hk).1, (ho.cell (p := ⟨b', off' + k * 2 + 1, none⟩) hlt (hn hl b' rfl)).trans (hc k hk).2⟩⟩
theorem Nums.only2 {w w' : World} {bb : Nat} {A : Option Addr} {l : List Nat} (h : Nums w w.heap.size A l) (ho : Only (fun k => k = bb) w w') (hn : 0 < l.length → ∀ bk, blockOf A = some bk → bk ≠ bb) : Nums w' w'.heap.size A l := fun hl => by
  obtain ⟨b', off', e, hlt, hc⟩ := h hl
  subst e
  exact ⟨b', off', rfl, Nat.lt_of_lt_of_le hlt ho.size, fun k hk => (ho.cell (p := ⟨b', off' + k, none⟩) hlt (hn hl b' rfl)).trans (hc k hk)⟩
def EmptyS (b : Nat) (_ : World) (v : Value) : Prop := ∃ g, v = .slice (some ⟨g, 0, none⟩) 0 0 ∧ g ≠ b + 1
def CpL (b n : Nat) (ms : List Life) (w : World) (v : Value) : Prop := ∃ E e', v = .slice E n e' ∧ Lives w w.heap.size E ms ∧ E ≠ none ∧ ∀ bk, blockOf E = some bk → bk ≠ b + 1
def CpN (b m : Nat) (ss : List Nat) (w : World) (v : Value) : Prop := ∃ E e', v = .slice E m e' ∧ Nums w w.heap.size E ss ∧ E ≠ none ∧ ∀ bk, blockOf E = some bk → bk ≠ b + 1
def CpV (b : Nat) (i : Nm) (n m : Nat) (ms : List Life) (ss : List Nat) (w : World) (v : Value) : Prop := ∃ E e' D d', v = vwV i E n e' D m d' ∧ Lives w w.heap.size E ms ∧ E ≠ none ∧ (∀ bk, blockOf E = some bk → bk ≠ b + 1) ∧ Nums w w.heap.size D ss ∧ D ≠ none ∧ ∀ bk, blockOf D = some bk → bk ≠ b + 1
section
variable {b n m : Nat} {i : Nm} {ms : List Life} {ss : List Nat} {w w' : World} {v : Value}
theorem EmptyS.mono (h : EmptyS b w v) : EmptyS b w' v := h
theorem CpL.mono (ho : Only (fun k => k = b + 1) w w') (h : CpL b n ms w v) : CpL b n ms w' v := by
  obtain ⟨E, e', h1, h2, h3, h4⟩ := h
  exact ⟨E, e', h1, h2.only2 ho (fun _ => h4), h3, h4⟩
theorem CpN.mono (ho : Only (fun k => k = b + 1) w w') (h : CpN b m ss w v) : CpN b m ss w' v := by
  obtain ⟨E, e', h1, h2, h3, h4⟩ := h
  exact ⟨E, e', h1, h2.only2 ho (fun _ => h4), h3, h4⟩
theorem CpV.mono (ho : Only (fun k => k = b + 1) w w') (h : CpV b i n m ms ss w v) : CpV b i n m ms ss w' v := by
  obtain ⟨E, e', D, d', h1, h2, h3, h4, h5, h6, h7⟩ := h
  exact ⟨E, e', D, d', h1, h2.only2 ho (fun _ => h4), h3, h4, h5.only2 ho (fun _ => h7), h6, h7⟩
/-- The block of the result: untouched, till the last operation has come up. -/
def Row0 (b : Nat) (w : World) : Prop := w.heap[b + 1]? = some (.cells #[.int .u64 0, .int .i64 0, .int .u64 0, .slice none 0 0, .slice none 0 0] 30 (0, 0))
def RowV (b : Nat) (i : Nm) (n m : Nat) (ms : List Life) (ss : List Nat) (w : World) : Prop := ∃ E e' D d', w.heap[b + 1]? = some (.cells (vwC i E n e' D m d') 30 (0, 0)) ∧ Lives w w.heap.size E ms ∧ E ≠ none ∧ Nums w w.heap.size D ss ∧ D ≠ none
def CpI (b : Nat) (i : Nm) (n m : Nat) (ms : List Life) (ss : List Nat) (lst : Array Bool) (w : World) : Prop := if lst.getD 11 false = true then RowV b i n m ms ss w else Row0 b w
theorem CpI.step {lst : Array Bool} {j : Nat} (h : CpI b i n m ms ss lst w) (hj : j ≠ 11) (hb : Below w.heap.size w w') : CpI b i n m ms ss (lst.setIfInBounds j true) w' := by
  unfold CpI at *
  rw [getD_set_ne false hj]
  split at h
  · rename_i hl
    rw [if_pos hl]
    obtain ⟨E, e', D, d', h1, h2, h3, h4, h5⟩ := h
    exact ⟨E, e', D, d', (hb.block _ (lt_of_heap h1)).trans h1, h2.on hb, h3, h4.on hb, h5⟩
  · rename_i hl
    rw [if_neg hl]
    exact (hb.block _ (lt_of_heap h)).trans h
theorem CpI.row {lst : Array Bool} (h : CpI b i n m ms ss lst w) (hl : lst.getD 11 false = false) : Row0 b w := by
  unfold CpI at h
  rw [if_neg (by rw [hl]; simp)] at h
  exact h
theorem cpI_done {lst : Array Bool} (hs : (lst.setIfInBounds 11 true).getD 11 false = true) (h : RowV b i n m ms ss w) : CpI b i n m ms ss (lst.setIfInBounds 11 true) w := by
  unfold CpI
  rw [if_pos hs]
  exact h
theorem row_facts (h : Row0 b w) : w.cell? ⟨b + 1, 0, none⟩ = some (.int .u64 0) ∧ w.cell? ⟨b + 1, 1, none⟩ = some (.int .i64 0) ∧ w.cell? ⟨b + 1, 2, none⟩ = some (.int .u64 0) ∧ w.cell? ⟨b + 1, 3, none⟩ = some (.slice none 0 0) ∧ w.cell? ⟨b + 1, 4, none⟩ = some (.slice none 0 0) ∧
    w.frozen? ⟨b + 1, 0, none⟩ = false ∧ w.frozen? ⟨b + 1, 1, none⟩ = false ∧ w.frozen? ⟨b + 1, 2, none⟩ = false ∧ w.frozen? ⟨b + 1, 3, none⟩ = false ∧ w.frozen? ⟨b + 1, 4, none⟩ = false :=
  ⟨by simpa using cell_plain h 0, by simpa using cell_plain h 1, by simpa using cell_plain h 2, by simpa using cell_plain h 3, by simpa using cell_plain h 4, frozen_plain h 0, frozen_plain h 1, frozen_plain h 2, frozen_plain h 3, frozen_plain h 4⟩
theorem set_five {W : World} {B : Nat} {a0 a1 a2 a3 a4 : Value} {t : TypeId} (h : W.heap[B]? = some (.cells #[a0, a1, a2, a3, a4] t (0, 0))) (v0 v1 v2 v3 v4 : Value) :
    (((((W.setCell ⟨B, 0, none⟩ v0).setCell ⟨B, 1, none⟩ v1).setCell ⟨B, 2, none⟩ v2).setCell ⟨B, 3, none⟩ v3).setCell ⟨B, 4, none⟩ v4).heap[B]? = some (.cells #[v0, v1, v2, v3, v4] t (0, 0)) := by
  simp [World.setCell, Array.getElem?_modify, h]
theorem only_five (W : World) (B : Nat) (v0 v1 v2 v3 v4 : Value) : Only (fun k => k = B) W (((((W.setCell ⟨B, 0, none⟩ v0).setCell ⟨B, 1, none⟩ v1).setCell ⟨B, 2, none⟩ v2).setCell ⟨B, 3, none⟩ v3).setCell ⟨B, 4, none⟩ v4) :=
  (((((Only.refl (fun k => k = B) W).setCell (p := ⟨B, 0, none⟩) (.inl rfl) _).setCell (p := ⟨B, 1, none⟩) (.inl rfl) _).setCell (p := ⟨B, 2, none⟩) (.inl rfl) _).setCell (p := ⟨B, 3, none⟩) (.inl rfl) _).setCell (p := ⟨B, 4, none⟩) (.inl rfl) _
end
def CpG (b : Nat) (r x y : Int) (A A' : Option Addr) (n c m c' : Nat) (ms : List Life) (ss : List Nat) (i : Nat) (w : World) (v : Value) : Prop :=
  match i with
  | 0 => v = .pointer (some ⟨b, 0, none⟩)
  | 1 => v = nmV (r, (x, y))
  | 2 => EmptyS b w v
  | 3 => v = .pointer (some ⟨b, 3, none⟩)
  | 4 => v = .slice A n c
  | 5 => CpL b n ms w v
  | 6 => EmptyS b w v
  | 7 => v = .pointer (some ⟨b, 4, none⟩)
  | 8 => v = .slice A' m c'
  | 9 => CpN b m ss w v
  | 10 => CpV b (r, (x, y)) n m ms ss w v
  | _ => v = undef
theorem CpG.mono {b : Nat} {r x y : Int} {A A' : Option Addr} {n c m c' : Nat} {ms : List Life} {ss : List Nat} {i : Nat} {v : Value} {w w' : World} (hb : Only (fun k => k = b + 1) w w') (h : CpG b r x y A A' n c m c' ms ss i w v) : CpG b r x y A A' n c m c' ms ss i w' v := by
  unfold CpG at *
  split at h <;> first | exact h | exact EmptyS.mono h | exact CpL.mono hb h | exact CpN.mono hb h | exact CpV.mono hb h
set_option maxHeartbeats 8000000 in
theorem copy_any {N : Nat} (i : Nm) (A : Option Addr) (n c : Nat) (A' : Option Addr) (m c' : Nat) (ms : List Life) (ss : List Nat) (w : World) (h : Vm w N A n c A' m c' ms ss) (hN : N ≤ 1000) :
    Calls Try.prog 11 #[vwV i A n c A' m c'] w fun e w' => ∃ E e' D d', e = .returned (vwV i E n e' D m d') ∧ Hid (Vm w' N E n e' D m d' ms ss) ∧ Hid (Below w.heap.size w w') := by
  obtain ⟨r, x, y⟩ := i
  have hle := h.le
  have hsle := h.sle
  have HB := Lib.hid (vbox_new w r x y A n c A' m c' 30)
  have e1 : (w.alloc (.cells (vwC (r, (x, y)) A n c A' m c') 30)).heap.size = w.heap.size + 1 := by simp
  have hR := heap_alloc_new (w.alloc (.cells (vwC (r, (x, y)) A n c A' m c') 30)) (.cells #[.int .u64 0, .int .i64 0, .int .u64 0, .slice none 0 0, .slice none 0 0] 30)
  rw [e1] at hR
  have HR := Lib.hid hR
  have HB2 := Lib.hid (HB.out.below (below_box _ (.cells #[.int .u64 0, .int .i64 0, .int .u64 0, .slice none 0 0, .slice none 0 0] 30)))
  have B2 := Lib.hid (two_below w (.cells (vwC (r, (x, y)) A n c A' m c') 30) (.cells #[.int .u64 0, .int .i64 0, .int .u64 0, .slice none 0 0, .slice none 0 0] 30))
  have HL := Lib.hid (h.on B2.out).lives
  have HNu := Lib.hid (h.on B2.out).nums
  have HLn := Lib.hid h.len
  have HNn := Lib.hid h.slen
  have HLc := Lib.hid h.cap
  have HNc := Lib.hid h.scap
  have HUn := Lib.hid h.uns
  have H64 := Lib.hid h.u64
  have HLo := Lib.hid (show 0 < ms.length → ∀ bk, blockOf A = some bk → bk ≠ w.heap.size + 1 from fun hp bk e => by have := h.lives.blk hp bk e; omega)
  have HNo := Lib.hid (show 0 < ss.length → ∀ bk, blockOf A' = some bk → bk ≠ w.heap.size + 1 from fun hp bk e => by have := h.nums.blk hp bk e; omega)
  clear h hR e1 HB
  go_enter Try.func11, Try.ntmps11
  go_wp2_with fail
  have BL := Lib.hid (lt_of_heap HR.out)
  generalize ((w.alloc (.cells (vwC (r, (x, y)) A n c A' m c') 30)).alloc (.cells #[.int .u64 0, .int .i64 0, .int .u64 0, .slice none 0 0, .slice none 0 0] 30)) = W2 at *
  generalize hb : w.heap.size = b at HB2 HR HLo HNo BL ⊢
  have HBB := Lib.hid hb
  clear hb
  have HB3 : Hid (VBox b r x y A n c A' m c' W2.drew) := HB2
  have HL3 : Hid (Lives W2.drew W2.drew.heap.size A ms) := HL
  have HN3 : Hid (Nums W2.drew W2.drew.heap.size A' ss) := HNu
  refine region_steps2 (n := 14) (fun w w' => Only (fun k => k = b + 1) w w') (CpI b (r, (x, y)) n m ms ss) (CpG b r x y A A' n c m c' ms ss) (by kernel_rfl) (by kernel_rfl) rfl (fun w => Only.refl _ w) (fun _ _ _ h k => h.trans k fun _ _ e => e) ?inv0 (fun _ _ _ _ hb h => CpG.mono hb h) ?_ ?_
  case inv0 => exact HR.out
  · refine And.intro ?_ (And.intro ?_ (And.intro ?_ (And.intro ?_ (And.intro ?_ (And.intro ?_ (And.intro ?_ (And.intro ?_ (And.intro ?_ (And.intro ?_ (And.intro ?_ (And.intro ?_ (True.intro))))))))))))
    · intro listed a' w' hw hl hd K hK
      have hv1 := hw.kept 1 (by kernel_rfl)
      refine step_free rfl ?_
      unfold Oper.wp
      simp only [execOp]
      go_simp
      exact hK _ _ (Only.refl _ _) (hw.inv.step (by decide) (Below.refl _ _)) (fun s hs => by cases hs; rfl)
    · intro listed a' w' hw hl hd K hK
      have hv3 : a'.tmps.getD 3 undef = .pointer (some ⟨b, 0, none⟩) := (hw.at_ 0 3 rfl (hd ⟨0, .data⟩ (by simp) rfl))
      obtain ⟨k0, k1, k2, k3, k4⟩ := HB3.out.only (bb := b + 1) hw.held (by omega)
      refine step_free rfl ?_
      unfold Oper.wp
      simp only [execOp]
      go_simp
      exact hK _ _ (Only.refl _ _) (hw.inv.step (by decide) (Below.refl _ _)) (fun s hs => by cases hs; rfl)
    · intro listed a' w' hw hl hd K hK
      refine step_free rfl ?_
      have hsz : W2.heap.size ≤ w'.heap.size := hw.held.size
      unfold Oper.wp
      simp only [execOp]
      go_simp
      exact hK _ _ (Only.ofBelow (below_box _ _)) (hw.inv.step (by decide) (below_box _ _)) (fun s hs => by cases hs; exact ⟨_, rfl, by have := BL.out; omega⟩)
    · intro listed a' w' hw hl hd K hK
      have hv1 := hw.kept 1 (by kernel_rfl)
      refine step_free rfl ?_
      unfold Oper.wp
      simp only [execOp]
      go_simp
      exact hK _ _ (Only.refl _ _) (hw.inv.step (by decide) (Below.refl _ _)) (fun s hs => by cases hs; rfl)
    · intro listed a' w' hw hl hd K hK
      have hv6 : a'.tmps.getD 6 undef = .pointer (some ⟨b, 3, none⟩) := (hw.at_ 3 6 rfl (hd ⟨3, .data⟩ (by simp) rfl))
      obtain ⟨k0, k1, k2, k3, k4⟩ := HB3.out.only (bb := b + 1) hw.held (by omega)
      refine step_free rfl ?_
      unfold Oper.wp
      simp only [execOp]
      go_simp
      exact hK _ _ (Only.refl _ _) (hw.inv.step (by decide) (Below.refl _ _)) (fun s hs => by cases hs; rfl)
    · intro listed a' w' hw hl hd K hK
      have hv5 : EmptyS b w' (a'.tmps.getD 5 undef) := (hw.at_ 2 5 rfl (hd ⟨2, .data⟩ (by simp) rfl))
      have hv7 : a'.tmps.getD 7 undef = .slice A n c := (hw.at_ 4 7 rfl (hd ⟨4, .data⟩ (by simp) rfl))
      obtain ⟨g, hg, hgb⟩ := hv5
      refine step_append0P rfl rfl (.tmp 5) (.tmp 7) rfl g hg A n c _ ms hv7 HLn.out HLc.out ((HL3.out.only2 (bb := b + 1) hw.held HLo.out)) (by omega) ?_
      intro A3 c3 w3 h1 h2 h3 h4
      have hsz : W2.heap.size ≤ w'.heap.size := hw.held.size
      exact hK _ _ (Only.ofBelow h3.out) (hw.inv.step (by decide) h3.out) (fun s hs => by cases hs; exact ⟨A3, c3, rfl, h1.out, h2.out, fun bk e => by rcases h4.out bk e with h | h <;> (have := BL.out; omega)⟩)
    · intro listed a' w' hw hl hd K hK
      refine step_free rfl ?_
      have hsz : W2.heap.size ≤ w'.heap.size := hw.held.size
      unfold Oper.wp
      simp only [execOp]
      go_simp
      exact hK _ _ (Only.ofBelow (below_box _ _)) (hw.inv.step (by decide) (below_box _ _)) (fun s hs => by cases hs; exact ⟨_, rfl, by have := BL.out; omega⟩)
    · intro listed a' w' hw hl hd K hK
      have hv1 := hw.kept 1 (by kernel_rfl)
      refine step_free rfl ?_
      unfold Oper.wp
      simp only [execOp]
      go_simp
      exact hK _ _ (Only.refl _ _) (hw.inv.step (by decide) (Below.refl _ _)) (fun s hs => by cases hs; rfl)
    · intro listed a' w' hw hl hd K hK
      have hv10 : a'.tmps.getD 10 undef = .pointer (some ⟨b, 4, none⟩) := (hw.at_ 7 10 rfl (hd ⟨7, .data⟩ (by simp) rfl))
      obtain ⟨k0, k1, k2, k3, k4⟩ := HB3.out.only (bb := b + 1) hw.held (by omega)
      refine step_free rfl ?_
      unfold Oper.wp
      simp only [execOp]
      go_simp
      exact hK _ _ (Only.refl _ _) (hw.inv.step (by decide) (Below.refl _ _)) (fun s hs => by cases hs; rfl)
    · intro listed a' w' hw hl hd K hK
      have hv9 : EmptyS b w' (a'.tmps.getD 9 undef) := (hw.at_ 6 9 rfl (hd ⟨6, .data⟩ (by simp) rfl))
      have hv11 : a'.tmps.getD 11 undef = .slice A' m c' := (hw.at_ 8 11 rfl (hd ⟨8, .data⟩ (by simp) rfl))
      obtain ⟨g, hg, hgb⟩ := hv9
      refine step_append0U rfl rfl (.tmp 9) (.tmp 11) rfl g hg A' m c' _ ss hv11 HNn.out HNc.out ((HN3.out.only2 (bb := b + 1) hw.held HNo.out)) (by omega) ?_
      intro A3 c3 w3 h1 h2 h3 h4
      have hsz : W2.heap.size ≤ w'.heap.size := hw.held.size
      exact hK _ _ (Only.ofBelow h3.out) (hw.inv.step (by decide) h3.out) (fun s hs => by cases hs; exact ⟨A3, c3, rfl, h1.out, h2.out, fun bk e => by rcases h4.out bk e with h | h <;> (have := BL.out; omega)⟩)
    · intro listed a' w' hw hl hd K hK
      have hv4 : a'.tmps.getD 4 undef = nmV (r, (x, y)) := (hw.at_ 1 4 rfl (hd ⟨1, .data⟩ (by simp) rfl))
      have hv8 : CpL b n ms w' (a'.tmps.getD 8 undef) := (hw.at_ 5 8 rfl (hd ⟨5, .data⟩ (by simp) rfl))
      have hv12 : CpN b m ss w' (a'.tmps.getD 12 undef) := (hw.at_ 9 12 rfl (hd ⟨9, .data⟩ (by simp) rfl))
      refine step_free rfl ?_
      obtain ⟨A3, c3, e3, h31, h32, h33⟩ := hv8
      obtain ⟨A4, c4, e4, h41, h42, h43⟩ := hv12
      have e3 : a'.tmps.getD 8 undef = .slice A3 n c3 := e3
      have e4 : a'.tmps.getD 12 undef = .slice A4 m c4 := e4
      have g4 : a'.tmps[4]?.getD undef = .agg #[.int .u64 r, .int .i64 x, .int .u64 y] := by simpa using hv4
      have g8 : a'.tmps[8]?.getD undef = .slice A3 n c3 := by simpa using e3
      have g12 : a'.tmps[12]?.getD undef = .slice A4 m c4 := by simpa using e4
      unfold Oper.wp
      simp only [execOp]
      go_simp
      exact hK _ _ (Only.refl _ _) (hw.inv.step (by decide) (Below.refl _ _)) (fun s hs => by cases hs; exact ⟨A3, c3, A4, c4, rfl, h31, h32, h33, h41, h42, h43⟩)
    · intro listed a' w' hw hl hd K hK
      have hv2 := hw.kept 2 (by kernel_rfl)
      have hv13 : CpV b (r, (x, y)) n m ms ss w' (a'.tmps.getD 13 undef) := (hw.at_ 10 13 rfl (hd ⟨10, .data⟩ (by simp) rfl))
      refine step_free rfl ?_
      have hR := hw.inv.row hl
      obtain ⟨A3, c3, A4, c4, e3, h31, h32, h33, h41, h42, h43⟩ := hv13
      have e3 : a'.tmps.getD 13 undef = .agg #[.int .u64 r, .int .i64 x, .int .u64 y, .slice A3 n c3, .slice A4 m c4] := e3
      have g13 : a'.tmps[13]?.getD undef = .agg #[.int .u64 r, .int .i64 x, .int .u64 y, .slice A3 n c3, .slice A4 m c4] := by simpa using e3
      obtain ⟨z0, z1, z2, z3, z4, y0, y1, y2, y3, y4⟩ := row_facts hR
      unfold Oper.wp
      simp only [execOp]
      go_simp
      have HF := set_five hR (.int .u64 r) (.int .i64 x) (.int .u64 y) (.slice A3 n c3) (.slice A4 m c4)
      have HO := only_five w' (b + 1) (.int .u64 r) (.int .i64 x) (.int .u64 y) (.slice A3 n c3) (.slice A4 m c4)
      refine hK undef _ HO (cpI_done (by simp [hw.lsize]) ⟨A3, c3, A4, c4, HF, h31.only2 HO (fun _ => h33), h32, h41.only2 HO (fun _ => h43), h42⟩) (fun s hs => by cases hs)
  · intro listed a' w' hw hall
    have hF := hw.inv
    have hall11 := hall 11 (Nat.lt_of_lt_of_eq (show 11 < 12 by omega) rfl)
    unfold CpI at hF
    rw [if_pos hall11] at hF
    obtain ⟨E, e', D, d', f1, f2, f3, f4, f5⟩ := hF
    have hb2 := hw.held.below (B := w.heap.size) (w0 := w) (drew_bl B2.out) (fun k e => by have := HBB.out; omega) B2.out.size
    have F1 := Lib.hid f1
    have F2 := Lib.hid (show Vm w' N E n e' D m d' ms ss from ⟨f2, HLn.out, hle, fun e => absurd e f3, HUn.out, f4, HNn.out, hsle, fun e => absurd e f5, H64.out⟩)
    have F3 := Lib.hid (show Below w.heap.size w w' from hb2)
    clear f1 f2 f3 f4 f5 hb2 hall11
    have hp := hw.puts [3, 4, 5, 6, 7, 8, 9, 10, 11, 12, 13] (by kernel_rfl)
    clear hw hall
    rw [hp]
    simp only [List.foldl_cons, List.foldl_nil]
    generalize a'.tmps.getD 3 undef = u3
    generalize a'.tmps.getD 4 undef = u4
    generalize a'.tmps.getD 5 undef = u5
    generalize a'.tmps.getD 6 undef = u6
    generalize a'.tmps.getD 7 undef = u7
    generalize a'.tmps.getD 8 undef = u8
    generalize a'.tmps.getD 9 undef = u9
    generalize a'.tmps.getD 10 undef = u10
    generalize a'.tmps.getD 11 undef = u11
    generalize a'.tmps.getD 12 undef = u12
    generalize a'.tmps.getD 13 undef = u13
    clear hp 
    simp only [Act.put, List.setIfInBounds_toArray, List.set_cons_succ, List.set_cons_zero]
    go_wp2
    refine bodyPost_ret (results_cell_row rfl _ _ (b + 1) 30 (vwC (r, (x, y)) E n e' D m d') (0, 0) _ rfl F1.out Try.underlying30 rfl (by kernel_rfl)) rfl ?_
    exact ⟨E, e', D, d', rfl, F2, F3⟩
end Go.Proofs.Ytgkldjolnbnehaa
