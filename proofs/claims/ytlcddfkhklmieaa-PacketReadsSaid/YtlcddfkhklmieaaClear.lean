/-
  The builtin clear on bytes: they are noughts, nothing else turns. No condition but that they are the program's own.
-/
import Derived.Test.YtlcddfkhklmieaaGa
import Derived.Lib.SliceRun
namespace Go.Proofs.Ytlcddfkhklmieaa
open Go.RowKit

theorem setCells_only (b : Nat) : ∀ (vs : List Value) (o : Nat) (w : World), Only (fun k => k = b) w (w.setCells b o vs)
  | [], _, w => Only.refl _ w
  | v :: r, o, w => ((Only.refl (fun k => k = b) w).setCell (p := ⟨b, o, none⟩) (.inl rfl) v).trans (setCells_only b r (o + 1) _) fun _ _ h => h
theorem setCells_heap (b : Nat) (t : TypeId) (fr : Nat × Nat) : ∀ (vs : List Value) (o : Nat) (w : World) (cur : Array Value), w.heap[b]? = some (.cells cur t fr) →
    ∃ cur', (w.setCells b o vs).heap[b]? = some (.cells cur' t fr) ∧ cur'.size = cur.size ∧ ∀ j, o + vs.length ≤ j → cur'[j]? = cur[j]?
  | [], _, _, cur, h => ⟨cur, h, rfl, fun _ _ => rfl⟩
  | v :: r, o, w, cur, h => by
    have h1 : (w.setCell ⟨b, o, none⟩ v).heap[b]? = some (.cells (cur.setIfInBounds o v) t fr) := by
      simp [World.setCell, Array.getElem?_modify, h]
    obtain ⟨cur', h2, h3, h4⟩ := setCells_heap b t fr r (o + 1) _ _ h1
    refine ⟨cur', h2, by simpa using h3, fun j hj => ?_⟩
    rw [List.length_cons] at hj
    rw [h4 j (by omega), Array.getElem?_setIfInBounds_ne (by omega)]
theorem zero8 (w : World) : (zeroValue 5).run Try.prog w = .ok (.int .u8 0) w := by kernel_rfl
/-- What clear leaves of the bytes at A. -/
structure Cleared (A : Option Addr) (n : Nat) (w w' : World) : Prop where
  only : Only (fun k => blockOf A = some k) w w'
  rest : ∀ b off cur, A = some ⟨b, off, none⟩ → w.heap[b]? = some (.cells cur 5 (0, 0)) → ∃ cur', w'.heap[b]? = some (.cells cur' 5 (0, 0)) ∧ cur'.size = cur.size ∧ ∀ j, off + n ≤ j → cur'[j]? = cur[j]?
theorem clear_none (A : Option Addr) (c : Nat) (w : World) : ∀ ty, (Builtin.clear_ #[26] ty #[.slice A 0 c]).run Try.prog w = .ok (.tuple #[]) w := fun ty => by
  cases A <;> simp [Builtin.clear_, run_underlying Try.underlying26]
theorem clear_at (b off n c : Nat) (w : World) (hn : 0 < n) (hc : ∀ j, j < n → (w.cell? ⟨b, off + j, none⟩).isSome = true) (hf : ∀ j, j < n → w.frozen? ⟨b, off + j, none⟩ = false) :
    ∃ w', (∀ ty, (Builtin.clear_ #[26] ty #[.slice (some ⟨b, off, none⟩) n c]).run Try.prog w = .ok (.tuple #[]) w') ∧ Hid (Cleared (some ⟨b, off, none⟩) n w w') := by
  refine ⟨_, fun ty => Lib.run_clear_slice w 26 5 ty (.int .u8 0) Try.underlying26 zero8 rfl rfl b off n c hn hc hf, ?_, ?_⟩
  · exact (setCells_only b _ _ w).weak fun k _ e => by rw [e]; rfl
  · intro b' off' cur e h
    obtain ⟨rfl, rfl⟩ : b = b' ∧ off = off' := by simpa using e
    obtain ⟨cur', h1, h2, h3⟩ := setCells_heap b 5 (0, 0) (List.replicate n (.int .u8 0)) off w cur h
    exact ⟨cur', h1, h2, fun j hj => h3 j (by rw [List.length_replicate]; exact hj)⟩
theorem clear_bts (A : Option Addr) (n c : Nat) (l : List UInt8) (w : World) (hn : l.length = n) (h : Bts w A c l) :
    ∃ w', (∀ ty, (Builtin.clear_ #[26] ty #[.slice A n c]).run Try.prog w = .ok (.tuple #[]) w') ∧ Hid (Cleared A n w w') := by
  rcases Nat.eq_zero_or_pos n with h0 | h0
  · subst h0
    exact ⟨w, clear_none A c w, Only.refl _ _, fun b off cur _ h => ⟨cur, h, rfl, fun _ _ => rfl⟩⟩
  · rcases h.2.2 with ⟨_, hc⟩ | ⟨b, off, cur, rfl, hh, hs, hc⟩
    · have := h.1; omega
    · refine clear_at b off n c w h0 (fun j hj => ?_) (fun j _ => frozen_plain hh _)
      rw [cell_plain hh, hc j (by omega)]
      rfl
end Go.Proofs.Ytlcddfkhklmieaa
