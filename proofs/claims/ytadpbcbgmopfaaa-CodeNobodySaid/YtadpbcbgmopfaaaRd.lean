/-
  What a Reader's inner calls do: take, short, Err, Left, Fail, End. No condition but the Reader's own form.
-/
import Derived.Test.YtadpbcbgmopfaaaWr
import Derived.Test.YtadpbcbgmopfaaaScan
import Derived.Deep.RegionHeld3
import Derived.Deep.DeepCutAuto
namespace Go.Proofs.Ytadpbcbgmopfaaa
open Go.RowKit

/-- A slice of bytes that lie in a block of the program's own, with room behind them. -/
def Bts (w : World) (A : Option Addr) (cap : Nat) (l : List UInt8) : Prop :=
  l.length ≤ cap ∧ cap ≤ maxLen ∧ ((A = none ∧ cap = 0) ∨ ∃ b off cur, A = some ⟨b, off, none⟩ ∧ w.heap[b]? = some (.cells cur 5 (0, 0)) ∧ off + cap ≤ cur.size ∧ ∀ k, k < l.length → cur[off + k]? = some (.int .u8 ((at8 l k : Nat) : Int)))
theorem Bts.bytes {w : World} {A : Option Addr} {cap : Nat} {l : List UInt8} (h : Bts w A cap l) : Bytes w w.heap.size A l := fun hn => by
  rcases h.2.2 with ⟨_, hc⟩ | ⟨b, off, cur, rfl, hh, _, hc⟩
  · have := h.1; omega
  · exact ⟨b, off, rfl, lt_of_heap hh, fun k hk => (cell_plain hh _).trans (hc k hk)⟩
theorem Bts.none_cap {w : World} {A : Option Addr} {cap : Nat} {l : List UInt8} (h : Bts w A cap l) (hA : A = none) : cap = 0 := by
  rcases h.2.2 with ⟨_, hc⟩ | ⟨b, off, cur, rfl, _⟩
  · exact hc
  · cases hA
theorem Bts.keep {w w' : World} {A : Option Addr} {cap : Nat} {l : List UInt8} {S : Nat → Prop} (h : Bts w A cap l) (ho : Only S w w') (hn : ∀ k, blockOf A = some k → ¬ S k) : Bts w' A cap l := by
  refine ⟨h.1, h.2.1, ?_⟩
  rcases h.2.2 with h1 | ⟨b, off, cur, e, hh, hs, hc⟩
  · exact .inl h1
  · exact .inr ⟨b, off, cur, e, (ho.block b (lt_of_heap hh) (hn b (by rw [e]; rfl))).trans hh, hs, hc⟩
theorem Own8.bts {w : World} {base n cap : Nat} {A : Option Addr} {l : List UInt8} (h : Own8 w base A n cap l) : Bts w A cap l := by
  have hl := h.len
  refine ⟨by have := h.cap_le; omega, h.cap_max, ?_⟩
  rcases h.form8 with rfl | ⟨g, rfl⟩
  · exact .inl ⟨rfl, h.none_cap rfl⟩
  · obtain ⟨-, cur, hh, hs, hnc, ht⟩ := h.block (g := g) rfl
    refine .inr ⟨g, 0, cur, rfl, hh, by omega, fun k hk => ?_⟩
    have h1 := bv_get hk
    rw [← ht, List.getElem?_take, if_pos (by omega)] at h1
    rw [Nat.zero_add]
    simpa using h1
theorem at8_take {l : List UInt8} {n k : Nat} (h : k < n) : at8 (l.take n) k = at8 l k := by
  simp [at8, List.getD, h]
theorem at8_drop {l : List UInt8} {n k : Nat} : at8 (l.drop n) k = at8 l (n + k) := by
  simp [at8, List.getD, List.getElem?_drop]
theorem Bts.front {w : World} {A : Option Addr} {cap : Nat} {l : List UInt8} (h : Bts w A cap l) (n : Nat) (hn : n ≤ l.length) : Bts w A n (l.take n) := by
  refine ⟨by rw [List.length_take]; omega, by have := h.1; have := h.2.1; omega, ?_⟩
  rcases h.2.2 with ⟨h1, h2⟩ | ⟨b, off, cur, e, hh, hs, hc⟩
  · exact .inl ⟨h1, by have := h.1; omega⟩
  · refine .inr ⟨b, off, cur, e, hh, by have := h.1; omega, fun k hk => ?_⟩
    rw [List.length_take] at hk
    rw [hc k (by omega), at8_take (by omega)]
/-- Where what is behind the first n begins. -/
def behind (A : Option Addr) (cap n : Nat) : Option Addr := if cap = n then A else A.map (·.add n)
theorem behind_block {A : Option Addr} {cap n : Nat} : blockOf (behind A cap n) = blockOf A := by
  unfold behind
  split
  · rfl
  · cases A with
    | none => rfl
    | some a => obtain ⟨b, off, s⟩ := a; simp [blockOf, Addr.add]; split <;> rfl
theorem Bts.back {w : World} {A : Option Addr} {cap : Nat} {l : List UInt8} (h : Bts w A cap l) (n : Nat) (hn : n ≤ l.length) : Bts w (behind A cap n) (cap - n) (l.drop n) := by
  have h0 := h.1
  refine ⟨by rw [List.length_drop]; omega, by have := h.2.1; omega, ?_⟩
  rcases h.2.2 with ⟨h1, h2⟩ | ⟨b, off, cur, rfl, hh, hs, hc⟩
  · subst h1 h2
    exact .inl ⟨by unfold behind; split <;> rfl, by omega⟩
  · by_cases hcn : cap = n
    · refine .inr ⟨b, off, cur, by unfold behind; rw [if_pos hcn], hh, by omega, fun k hk => ?_⟩
      rw [List.length_drop] at hk; omega
    · refine .inr ⟨b, off + n, cur, by unfold behind; rw [if_neg hcn]; simp [add_mk], hh, by omega, fun k hk => ?_⟩
      rw [List.length_drop] at hk
      rw [Nat.add_assoc, hc (n + k) (by omega), at8_drop]

/-- A struct of what is left and whether there was a fault, in block q. -/
def Rd (T : TypeId) (w : World) (q : Nat) (d : Option Nat) (l : List UInt8) (bad : Bool) : Prop :=
  ∃ A cap, w.heap[q]? = some (.cells #[.slice A l.length cap, .bool bad] T (0, 0)) ∧ Bts w A cap l ∧ blockOf A = d
section
variable {T : TypeId} {w w' : World} {q : Nat} {d : Option Nat} {l : List UInt8} {bad : Bool}
theorem Rd.lt (h : Rd T w q d l bad) : q < w.heap.size := by
  obtain ⟨A, cap, h1, _⟩ := h
  exact lt_of_heap h1
theorem Rd.ne (h : Rd T w q d l bad) (hT : T ≠ 5) : d ≠ some q := by
  obtain ⟨A, cap, h1, h2, h3⟩ := h
  intro e
  rw [e] at h3
  rcases h2.2.2 with ⟨rfl, _⟩ | ⟨b, off, cur, rfl, hh, _⟩
  · cases h3
  · cases h3
    rw [h1] at hh
    simp at hh
    exact hT hh.2
theorem Rd.dlt (h : Rd T w q d l bad) : ∀ k, d = some k → k < w.heap.size := by
  obtain ⟨A, cap, h1, h2, h3⟩ := h
  intro k e
  rw [e] at h3
  rcases h2.2.2 with ⟨rfl, _⟩ | ⟨b, off, cur, rfl, hh, _⟩
  · cases h3
  · cases h3
    exact lt_of_heap hh
theorem Rd.keep {S : Nat → Prop} (h : Rd T w q d l bad) (ho : Only S w w') (h1 : ¬ S q) (h2 : ∀ k, d = some k → ¬ S k) : Rd T w' q d l bad := by
  have hlt := h.lt
  obtain ⟨A, cap, e, hb, hd⟩ := h
  exact ⟨A, cap, (ho.block q hlt h1).trans e, hb.keep ho fun k hk => h2 k (hd.symm.trans hk), hd⟩
end
theorem block_set2 {w : World} {b : Nat} {v0 v1 u : Value} {t : TypeId} (h : w.heap[b]? = some (.cells #[v0, v1] t (0, 0))) : (w.setCell ⟨b, 0, none⟩ u).heap[b]? = some (.cells #[u, v1] t (0, 0)) := by
  simp [World.setCell, Array.getElem?_modify, h]
theorem block_set2' {w : World} {b : Nat} {v0 v1 u : Value} {t : TypeId} (h : w.heap[b]? = some (.cells #[v0, v1] t (0, 0))) : (w.setCell ⟨b, 1, none⟩ u).heap[b]? = some (.cells #[v0, u] t (0, 0)) := by
  simp [World.setCell, Array.getElem?_modify, h]

/-! The Reader's calls that look alone, and Fail. -/
def errOf (bad : Bool) : Int := if bad then 3 else 0
abbrev RdT : TypeId := 64
set_option maxHeartbeats 400000 in
theorem err_bad (q : Nat) (d : Option Nat) (l : List UInt8) (w : World) (h : Rd RdT w q d l true) :
    Calls Try.prog 62 #[.pointer (some ⟨q, 0, none⟩)] w fun e w' => e = .returned (.int .i64 3) ∧ w = w' := by
  obtain ⟨A, cap, h1, h2, h3⟩ := h
  have HC : w.cell? ⟨q, 1, none⟩ = some (.bool true) := by simpa using cell_plain h1 1
  clear h1 h2 h3
  go_enter Try.func62, Try.ntmps62
  go_wp2
  go_ret
  exact ⟨rfl, rfl⟩
set_option maxHeartbeats 400000 in
theorem err_ok (q : Nat) (d : Option Nat) (l : List UInt8) (w : World) (h : Rd RdT w q d l false) :
    Calls Try.prog 62 #[.pointer (some ⟨q, 0, none⟩)] w fun e w' => e = .returned (.int .i64 0) ∧ w = w' := by
  obtain ⟨A, cap, h1, h2, h3⟩ := h
  have HC : w.cell? ⟨q, 1, none⟩ = some (.bool false) := by simpa using cell_plain h1 1
  clear h1 h2 h3
  go_enter Try.func62, Try.ntmps62
  go_wp2
  go_ret
  exact ⟨rfl, rfl⟩
set_option maxHeartbeats 400000 in
theorem left_any (q : Nat) (d : Option Nat) (l : List UInt8) (bad : Bool) (n : Nat) (w : World) (h : Rd RdT w q d l bad) (hn : l.length = n) :
    Calls Try.prog 36 #[.pointer (some ⟨q, 0, none⟩)] w fun e w' => e = .returned (.int .i64 (n : Int)) ∧ w = w' := by
  obtain ⟨A, cap, h1, h2, h3⟩ := h
  have HC : w.cell? ⟨q, 0, none⟩ = some (.slice A n cap) := by rw [← hn]; simpa using cell_plain h1 0
  clear h1 h2 h3 hn
  go_enter Try.func36, Try.ntmps36
  go_wp2
  go_ret
  exact ⟨rfl, rfl⟩
set_option maxHeartbeats 400000 in
theorem fail_any (q : Nat) (d : Option Nat) (l : List UInt8) (bad : Bool) (w : World) (h : Rd RdT w q d l bad) :
    Calls Try.prog 72 #[.pointer (some ⟨q, 0, none⟩)] w fun e w' => e = .returned (.tuple #[]) ∧ Hid (Rd RdT w' q d l true) ∧ Hid (Only (fun k => k = q) w w') := by
  have hne := h.ne (by decide)
  obtain ⟨A, cap, h1, h2, h3⟩ := h
  have HC : w.cell? ⟨q, 1, none⟩ = some (.bool bad) := by simpa using cell_plain h1 1
  have HF := frozen_plain h1 1
  have H1 := Lib.hid h1
  have H2 := Lib.hid h2
  have H3 := Lib.hid h3
  clear h1 h2 h3
  go_enter Try.func72, Try.ntmps72
  go_wp2
  go_end0
  have ho : Only (fun k => k = q) w (w.setCell ⟨q, 1, none⟩ (.bool true)) := (Only.refl (fun k => k = q) w).setCell (p := ⟨q, 1, none⟩) (.inl rfl) _
  exact ⟨rfl, ⟨A, cap, block_set2' H1.out, H2.out.keep ho (fun k hk e => by subst e; exact hne (H3.out.symm.trans hk)), H3.out⟩, ho⟩

/-! take, over either package's struct (T). -/
def TookE (T : TypeId) (w : World) (q : Nat) (d : Option Nat) (l : List UInt8) (bad : Bool) (n : Nat) (e : Ending) (w' : World) : Prop :=
  ∃ A, e = .returned (.slice A n n) ∧ Hid (Rd T w' q d (l.drop n) bad) ∧ Hid (Bts w' A n (l.take n)) ∧ Hid (blockOf A = d) ∧ Hid (Only (fun k => k = q) w w')
theorem took_of {T : TypeId} {w : World} {q : Nat} {d : Option Nat} {l : List UInt8} {bad : Bool} {A : Option Addr} {cap m : Nat} (hT : T ≠ 5) (n : Nat) (h1 : w.heap[q]? = some (.cells #[.slice A m cap, .bool bad] T (0, 0))) (h2 : Bts w A cap l) (h3 : blockOf A = d) (hl : l.length = m) (hn : n ≤ m) :
    TookE T w q d l bad n (.returned (.slice A n n)) (w.setCell ⟨q, 0, none⟩ (.slice (behind A cap n) (m - n) (cap - n))) := by
  have hne : d ≠ some q := (show Rd T w q d l bad from ⟨A, cap, by rw [hl]; exact h1, h2, h3⟩).ne hT
  have ho : Only (fun k => k = q) w (w.setCell ⟨q, 0, none⟩ (.slice (behind A cap n) (m - n) (cap - n))) := (Only.refl (fun k => k = q) w).setCell (p := ⟨q, 0, none⟩) (.inl rfl) _
  have hk : ∀ k, blockOf A = some k → ¬ k = q := fun k hk e => by subst e; exact hne (h3.symm.trans hk)
  refine ⟨A, rfl, ⟨behind A cap n, cap - n, ?_, ?_, ?_⟩, ?_, h3, ho⟩
  · rw [List.length_drop, hl]
    exact block_set2 h1
  · exact (h2.back n (by omega)).keep ho (fun k e => hk k (by rw [← behind_block (cap := cap) (n := n)]; exact e))
  · rw [behind_block]; exact h3
  · exact (h2.front n (by omega)).keep ho hk
set_option maxHeartbeats 400000 in
theorem take_ok (q : Nat) (d : Option Nat) (l : List UInt8) (bad : Bool) (n : Nat) (w : World) (h : Rd RdT w q d l bad) (hn : n ≤ l.length) :
    Calls Try.prog 78 #[.pointer (some ⟨q, 0, none⟩), .int .i64 (n : Int)] w (TookE RdT w q d l bad n) := by
  obtain ⟨A, cap, h1, h2, h3⟩ := h
  have HC : w.cell? ⟨q, 0, none⟩ = some (.slice A l.length cap) := by simpa using cell_plain h1 0
  have HF := frozen_plain h1 0
  have hc := h2.1
  have hm := h2.2.1
  unfold maxLen at hm
  generalize hl : l.length = m at *
  have HT := Lib.hid (took_of (by decide) n h1 h2 h3 hl hn)
  clear h1 h2 h3 hl
  by_cases hcn : cap = n
  · subst hcn
    have HE := Lib.hid (show behind A cap cap = A from if_pos rfl)
    obtain rfl : cap = m := by omega
    go_enter Try.func78, Try.ntmps78
    go_wp2
    go_ret
    have h := HT.out
    rw [HE.out] at h
    simpa using h
  · have HE := Lib.hid (show behind A cap n = A.map (·.add n) from if_neg hcn)
    go_enter Try.func78, Try.ntmps78
    go_wp2
    go_ret
    have h := HT.out
    rw [HE.out] at h
    exact h
def FaultE (T : TypeId) (w : World) (q : Nat) (d : Option Nat) (l : List UInt8) (v : Value) (e : Ending) (w' : World) : Prop :=
  e = .returned v ∧ Hid (Rd T w' q d l true) ∧ Hid (Only (fun k => k = q) w w')
theorem fault_of {T : TypeId} {w : World} {q : Nat} {d : Option Nat} {l : List UInt8} {bad : Bool} {A : Option Addr} {cap : Nat} (hT : T ≠ 5) (h1 : w.heap[q]? = some (.cells #[.slice A l.length cap, .bool bad] T (0, 0))) (h2 : Bts w A cap l) (h3 : blockOf A = d) (v : Value) :
    FaultE T w q d l v (.returned v) (w.setCell ⟨q, 1, none⟩ (.bool true)) := by
  have hne : d ≠ some q := (show Rd T w q d l bad from ⟨A, cap, h1, h2, h3⟩).ne hT
  have ho : Only (fun k => k = q) w (w.setCell ⟨q, 1, none⟩ (.bool true)) := (Only.refl (fun k => k = q) w).setCell (p := ⟨q, 1, none⟩) (.inl rfl) _
  exact ⟨rfl, ⟨A, cap, block_set2' h1, h2.keep ho (fun k hk e => by subst e; exact hne (h3.symm.trans hk)), h3⟩, ho⟩
set_option maxHeartbeats 400000 in
theorem take_no (q : Nat) (d : Option Nat) (l : List UInt8) (bad : Bool) (n : Int) (w : World) (h : Rd RdT w q d l bad) (hn : n < 0 ∨ (l.length : Int) < n) :
    Calls Try.prog 78 #[.pointer (some ⟨q, 0, none⟩), .int .i64 n] w (FaultE RdT w q d l (.slice none 0 0)) := by
  obtain ⟨A, cap, h1, h2, h3⟩ := h
  have HC : w.cell? ⟨q, 0, none⟩ = some (.slice A l.length cap) := by simpa using cell_plain h1 0
  have HB : w.cell? ⟨q, 1, none⟩ = some (.bool bad) := by simpa using cell_plain h1 1
  have HF := frozen_plain h1 1
  have HT := Lib.hid (fault_of (by decide) h1 h2 h3 (.slice none 0 0))
  clear h1 h2 h3
  generalize l.length = m at *
  by_cases h0 : n < 0
  · clear hn
    go_enter Try.func78, Try.ntmps78
    go_wp2
    go_ret
    exact HT.out
  · have h1 : (m : Int) < n := by omega
    clear hn
    go_enter Try.func78, Try.ntmps78
    go_wp2
    go_ret
    exact HT.out
end Go.Proofs.Ytadpbcbgmopfaaa
