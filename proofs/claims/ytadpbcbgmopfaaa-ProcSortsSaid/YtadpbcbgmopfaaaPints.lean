/-
  Rows of whole numbers that the program itself made; the library's Compact on them; the statements' own ints. For rows of at most 2^40 numbers.
-/
import Derived.Test.YtadpbcbgmopfaaaLawp
import Derived.Test.YtadpbcbgmopfaaaPcompact
import Derived.Test.YtadpbcbgmopfaaaLaid
import Derived.Shelf.SlicesE.Compact
namespace Go.Proofs.Ytadpbcbgmopfaaa
set_option maxRecDepth 20000
open Go.RowKit
open Go.Lib (keeps compactUpTo CompInv)
open Go.Sort (Holds putRow)

def iv (js : List Int) : List Value := js.map (Value.int .i64)
theorem iv_get {js : List Int} {k : Nat} (h : k < js.length) : (iv js)[k]? = some (.int .i64 (js.getD k 0)) := by simp [iv, List.getD, h]
theorem iv_one (js : List Int) : ∀ v ∈ iv js, v.oneCell' = true := by
  intro v hv
  obtain ⟨c, _, rfl⟩ := List.mem_map.1 hv
  rfl
theorem Try.infoI : (Try.prog.info? 3).map (fun i => (i.zero, i.size, i.bytes)) = some (some (.int .i64 0), 1, 8) := by kernel_rfl
def OwnI (w : World) (base : Nat) (A : Option Addr) (n cap : Nat) (js : List Int) : Prop := w.ownsRow base 3 1 (.slice A n cap) n (iv js)
section
variable {w w' : World} {base n cap : Nat} {A : Option Addr} {js : List Int}
theorem OwnI.len (h : OwnI w base A n cap js) : js.length = n := by
  have := h.1
  simpa [iv] using this
theorem OwnI.nil_ : OwnI w base none 0 0 [] := World.ownsRow_nil _ _ _ _
theorem OwnI.form (h : OwnI w base A n cap js) : (A = none ∧ n = 0 ∧ cap = 0) ∨ ∃ g, A = some ⟨g, 0, none⟩ ∧ base ≤ g ∧ g < w.heap.size := by
  rcases h.2 with ⟨hv, _⟩ | ⟨g, c, cur, hv, hg, hh, _⟩
  · exact .inl (by simpa using hv)
  · have hv' : A = some ⟨g, 0, none⟩ ∧ cap = c := by simpa using hv
    exact .inr ⟨g, hv'.1, hg, lt_of_heap hh⟩
theorem OwnI.cap_le (h : OwnI w base A n cap js) : n ≤ cap := by
  rcases h.2 with ⟨hv, hx⟩ | ⟨g, c, cur, hv, hb, hh, hnc, _⟩
  · omega
  · have hv' : A = some ⟨g, 0, none⟩ ∧ cap = c := by simpa using hv
    omega
theorem OwnI.cells (h : OwnI w base A n cap js) {g off : Nat} (hA : A = some ⟨g, off, none⟩) : off = 0 ∧ ∀ k, k < js.length → w.cell? ⟨g, k, none⟩ = some (.int .i64 (js.getD k 0)) ∧ w.frozen? ⟨g, k, none⟩ = false := by
  rcases h.2 with ⟨hv, hx⟩ | ⟨g', c, cur, hv, hb, hh, hnc, hm, hcs, htk⟩
  · have hv' : A = none ∧ n = 0 ∧ cap = 0 := by simpa using hv
    rw [hv'.1] at hA; cases hA
  · have hv' : A = some ⟨g', 0, none⟩ ∧ cap = c := by simpa using hv
    rw [hA] at hv'
    obtain ⟨rfl, rfl⟩ : g = g' ∧ off = 0 := by simpa using hv'.1
    refine ⟨rfl, fun k hk => ?_⟩
    have hj := iv_get hk
    rw [← htk, List.getElem?_take] at hj
    split at hj
    · have hj' : cur[k]? = some (.int .i64 (js.getD k 0)) := by simpa using hj
      constructor
      · rw [cell_of_row _ _ _ _ _ (0, 0) hh]; exact hj'
      · simp [World.frozen?, hh]
    · cases hj
theorem OwnI.ints (h : OwnI w base A n cap js) : IntsIn w A js := fun hn => by
  rcases h.form with ⟨_, h0, _⟩ | ⟨g, hA, _, hlt⟩
  · have := h.len; omega
  · subst hA
    exact ⟨g, 0, rfl, hlt, fun k hk => by rw [Nat.zero_add]; exact ((h.cells rfl).2 k hk).1⟩
theorem OwnI.on (h : OwnI w base A n cap js) (hb : Below w.heap.size w w') : OwnI w' base A n cap js := by
  refine ⟨h.1, ?_⟩
  rcases h.2 with h1 | ⟨g, c, cur, hv, hg, hh, hrest⟩
  · exact .inl h1
  · exact .inr ⟨g, c, cur, hv, hg, (hb.block g (lt_of_heap hh)).trans hh, hrest⟩
theorem OwnI.above (h : OwnI w base A n cap js) : ∀ k, blockOf A = some k → base ≤ k := fun k e => by
  rcases h.form with ⟨rfl, _⟩ | ⟨g, rfl, hg, _⟩
  · cases e
  · obtain rfl : g = k := by simpa [blockOf] using e
    exact hg
end
theorem ownI_value {w : World} {base n : Nat} {v : Value} {xs : List Value} (h : w.ownsRow base 3 1 v n xs) : ∃ A cap, v = .slice A n cap := by
  rcases h.2 with ⟨hv, hx⟩ | ⟨g, c, cur, hv, _⟩
  · refine ⟨none, 0, ?_⟩
    rw [hx]
    exact hv
  · exact ⟨_, _, hv⟩
section
variable {P : Program} {w : World}
/-- 'append(out, x)', x laid in a block of its own. -/
theorem wpList_appendI {ops : Array Oper} {rest : List Oper} {o : Oper} {a : Act} {Q : Exit → Act → World → Prop} (hgd : o.guard = none) (s x : Operand)
    (ho : o.op = .call { callee := .builtin .append, args := #[s, x], argTypes := #[23, 23] })
    (base : Nat) (A : Option Addr) (n cap : Nat) (js : List Int) (hs : a.eval s = .slice A n cap) (hbase : base ≤ w.heap.size) (hown : OwnI w base A n cap js)
    (b : Nat) (y : Int) (hx : a.eval x = .slice (some ⟨b, 0, none⟩) 1 1) (hc : w.cell? ⟨b, 0, none⟩ = some (.int .i64 y)) (hbytes : n + 1 ≤ 4398046511104)
    (h : ∀ A' cap' w', Hid (OwnI w' base A' (n + 1) cap' (js ++ [y])) → Hid (Only (fun k => blockOf A = some k) w w') → wpList Try.prog ops Q rest (a.put o.dst (.slice A' (n + 1) cap')) w') :
    wpList Try.prog ops Q (o :: rest) a w := by
  obtain ⟨i0, hi0, hz0, hz1, hz2⟩ := info_parts Try.infoI
  refine wpList_append_own_at _ hgd s x 23 ho base 3 i0 _ 1 8 Try.underlying23 hi0 hz0 hz1 hz2 rfl (by omega) (.slice A n cap) n (iv js) hs hown ⟨b, 0, none⟩ 1 1 [.int .i64 y] hx rfl (fun j u hu => ?_) (iv_one [y]) (by unfold maxLen; omega) (by omega) hbase ?_
  · obtain rfl : j = 0 := by have := (List.getElem?_eq_some_iff.1 hu).1; simpa using this
    rw [add_mk]
    have : u = .int .i64 y := by simpa using hu.symm
    rw [this]
    exact hc
  · intro v' w1 hown' hg _ hat
    obtain ⟨A', cap', rfl⟩ := ownI_value hown'
    rw [ownBlock_slice] at hg
    exact h A' cap' w1 (by unfold OwnI iv; rw [List.map_append]; exact hown') (Only.ofGrown hg)
end
theorem compactI_none (w : World) : Calls Try.prog 87 #[.slice none 0 0] w fun e w' => e = .returned (.slice none 0 0) ∧ w' = w := by
  go_enter Try.func87, Try.ntmps87
  go_wp2
  go_ret
  exact ⟨rfl, rfl⟩
theorem only_putRow (w : World) (g q : Nat) (d : Array Int) : Only (fun k => k = g) w (putRow (Value.int .i64) (Sort.ahead w q) g 0 d) := by
  refine ⟨rfl, rfl, rfl, by simp [Sort.putRow, Sort.mapBlock, Sort.ahead], fun k _ hne => ?_⟩
  simp [Sort.putRow, Sort.mapBlock, Sort.ahead, Array.getElem?_modify, Ne.symm hne]
theorem compactI_any (A : Option Addr) (n cap base : Nat) (js : List Int) (w : World) (h : OwnI w base A n cap js) (hb : n ≤ 1099511627776) :
    Calls Try.prog 87 #[.slice A n cap] w fun e w' => ∃ m, e = .returned (.slice A m cap) ∧ Hid (m = (compactUpTo js.toArray js.length).length) ∧ Hid (IntsIn w' A (compactUpTo js.toArray js.length)) ∧ Hid (Only (fun k => blockOf A = some k) w w') := by
  rcases h.form with ⟨rfl, rfl, rfl⟩ | ⟨g, rfl, hgb, hgl⟩
  · have hj : js = [] := List.eq_nil_of_length_eq_zero h.len
    subst hj
    refine (compactI_none w).mono ?_
    rintro e w' ⟨rfl, rfl⟩
    exact ⟨0, rfl, rfl, fun hh => absurd hh (by simp [compactUpTo]), Lib.hid (Only.refl _ _)⟩
  · have hl := h.len
    have hH : Holds (Value.int .i64) w g 0 js.toArray := fun j hj => by
      have hj' : j < js.length := by simpa using hj
      have := (h.cells rfl).2 j hj'
      rw [Nat.zero_add]
      have e : js.toArray[j]! = js.getD j 0 := by rw [getElem!_pos js.toArray j hj]; simp [List.getD, hj']
      rw [e]
      exact this
    have hcon := AnyE.slices_Compact Try.compactI (Value.int .i64) (fun _ => rfl) (EqlAt.intD _ _ _) (NeqAt.intD _ _ _) 0 (by intro w; kernel_rfl) g 0 cap js.toArray w hH (by rw [List.size_toArray]; omega) (by rw [List.size_toArray, hl]; exact h.cap_le)
    change Calls Try.prog 87 _ _ _ at hcon
    rw [List.size_toArray, hl] at hcon
    rw [hl]
    refine hcon.mono ?_
    rintro e w' ⟨rfl, q, rfl⟩
    have hle : (compactUpTo js.toArray n).length ≤ n := by
      have := List.length_filter_le (keeps js.toArray) (List.range n)
      simpa [compactUpTo] using this
    refine ⟨_, rfl, rfl, fun hn => ⟨g, 0, rfl, by simpa [Sort.putRow, Sort.mapBlock, Sort.ahead] using hgl, fun k hk => ?_⟩, Lib.hid ((only_putRow w g q _).weak fun k _ e => by rw [e]; rfl)⟩
    have hh := Sort.holds_putRow (Value.int .i64) (Sort.ahead w q) g 0 js.toArray (compactUpTo js.toArray n ++ List.replicate (n - (compactUpTo js.toArray n).length) 0).toArray hH (by simp; omega) k (by simp; omega)
    rw [hh.1]
    congr 2
    simp [List.getD, List.getElem?_append_left hk]
set_option maxHeartbeats 1000000 in
theorem ints_any (A1 : Option Addr) (js : List Int) (n1 c1 : Nat) (A2 : Option Addr) (ks : List Int) (n2 c2 : Nat) (w : World) (h1 : IntsIn w A1 js) (h2 : IntsIn w A2 ks) (hn1 : js.length = n1) (hn2 : ks.length = n2) (he : js = ks) (hb : n1 ≤ 1099511627776) :
    Calls Try.prog 50 #[.slice A1 n1 c1, .slice A2 n2 c2] w fun e w' => e = .returned (.bool true) ∧ Hid (Below w.heap.size w w') := by
  subst he
  obtain rfl : n1 = n2 := hn1.symm.trans hn2
  have H1 := Lib.hid h1
  have H2 := Lib.hid h2
  have N1 := Lib.hid hn1
  clear h1 h2 hn1 hn2
  go_enter Try.func50, Try.ntmps50
  go_wp2
  go_loopw [5] (fun i wr => ∃ k q : Nat, k ≤ n1 ∧ i = .int .i64 k ∧ wr = w.drewN q) (fun i _ => n1 - (intOf i).toNat)
  case atStart => exact ⟨0, 0, Nat.zero_le _, rfl, rfl⟩
  case round =>
    obtain ⟨k, q, hk, rfl, rfl⟩ := hrel
    by_cases hlt : k < n1
    · obtain ⟨b, off, rfl, hbb, hc1⟩ := H1.out (by rw [N1.out]; omega)
      obtain ⟨b', off', rfl, hbb', hc2⟩ := H2.out (by rw [N1.out]; omega)
      have e1 := hc1 k (by rw [N1.out]; exact hlt)
      have e2 := hc2 k (by rw [N1.out]; exact hlt)
      have g0 : (0 : Int) ≤ (k : Int) := by omega
      have g1 : (k : Int) < (n1 : Int) := by omega
      clear hc1 hc2
      generalize js.getD k 0 = x at *
      have e3 : (x != x) = false := by simp
      go_wp2_with fail
      go_quiet (fail)
      go_wp2
      go_roundw
      case rel => exact ⟨k + 1, q + nq, by omega, by go_num, rfl⟩
      case measure => simp [intOf]; omega
    · obtain rfl : k = n1 := by omega
      have g1 : ¬ (k : Int) < (k : Int) := by omega
      go_wp2
      go_ret
      exact ⟨rfl, Lib.hid ⟨rfl, rfl, rfl, Nat.le_refl _, fun _ _ => rfl⟩⟩
end Go.Proofs.Ytadpbcbgmopfaaa
