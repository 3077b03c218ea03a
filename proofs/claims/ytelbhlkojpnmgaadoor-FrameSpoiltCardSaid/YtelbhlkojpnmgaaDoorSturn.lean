/-
  What turn does: it turns the bits at the given places of a block of bytes, or says that a place is none or there twice; no other block that was there changes. For at most 2^20 bytes.
-/
import Derived.Test.YtelbhlkojpnmgaaDoorSwords
import Derived.BigRegion
namespace Go.Proofs.YtelbhlkojpnmgaaDoor
open Go.RowKit

/-- A slice's address under which the whole numbers js lie, in a block that is not g. -/
def Ints (w : World) (g : Nat) (A : Option Addr) (js : List Int) : Prop :=
  0 < js.length → ∃ b off, A = some ⟨b, off, none⟩ ∧ b ≠ g ∧ ∀ k, k < js.length → w.cell? ⟨b, off + k, none⟩ = some (.int .i64 (js.getD k 0))
def Good (m : Nat) (js : List Int) : Prop := (∀ j ∈ js, 0 ≤ j ∧ j < 8 * (m : Int)) ∧ js.Nodup
def TurnEnds (w : World) (g m : Nat) (L : List UInt8) (js : List Int) (e : Ending) (w' : World) : Prop :=
  w.grownBy w' (some g) ∧ (e = .returned (.bool false) ∨ (e = .returned (.bool true) ∧ Good m js ∧ Blk8 w' g (Crc.flips L (js.map Int.toNat))))

theorem good_none (m : Nat) : Good m [] := ⟨by simp, by simp⟩
theorem good_snoc {m : Nat} {js : List Int} {k : Nat} (hk : k < js.length) (h : Good m (js.take k)) (h1 : 0 ≤ js.getD k 0) (h2 : js.getD k 0 < 8 * (m : Int)) (h3 : ∀ t, t < k → js.getD t 0 ≠ js.getD k 0) : Good m (js.take (k + 1)) := by
  have e : js.getD k 0 = js[k] := by simp [List.getD, hk]
  rw [List.take_add_one, List.getElem?_eq_getElem hk]
  refine ⟨fun j hj => ?_, ?_⟩
  · rw [List.mem_append] at hj
    rcases hj with hj | hj
    · exact h.1 j hj
    · obtain rfl : j = js[k] := by simpa using hj
      rw [← e]; exact ⟨h1, h2⟩
  · show (js.take k ++ [js[k]]).Nodup
    rw [List.nodup_append]
    refine ⟨h.2, by simp, fun a ha b hb => ?_⟩
    obtain rfl : b = js[k] := by simpa using hb
    obtain ⟨t, ht, rfl⟩ := List.getElem_of_mem ha
    rw [List.length_take] at ht
    have := h3 t (by omega)
    rw [e] at this
    have e2 : js.getD t 0 = (js.take k)[t] := by
      rw [List.getElem_take]
      simp [List.getD, show t < js.length by omega]
    rw [e2] at this
    exact this

theorem getD_of {js : List Int} {k : Nat} (hk : k < js.length) : js.getD k 0 = js[k] := by simp [List.getD, hk]
theorem flips_succ (L : List UInt8) (js : List Int) (t : Nat) (ht : t < js.length) : Crc.flips L ((js.take (t + 1)).map Int.toNat) = Crc.flip (Crc.flips L ((js.take t).map Int.toNat)) (js.getD t 0).toNat := by
  rw [List.take_add_one, List.getElem?_eq_getElem ht, getD_of ht]
  rw [List.map_append]
  unfold Crc.flips
  rw [List.foldl_append]
  rfl
theorem flip_byte (M : List UInt8) (j : Nat) : (M.getD (j / 8) 0 ^^^ UInt8.ofNat (2 ^ (j % 8))).toNat = at8 M (j / 8) ^^^ 2 ^ (j % 8) := by
  have h2 : (2 : Nat) ^ (j % 8) ≤ 2 ^ 7 := Nat.pow_le_pow_right (by omega) (by omega)
  rw [UInt8.toNat_xor, UInt8.toNat_ofNat', Nat.mod_eq_of_lt (by omega)]
  rfl

theorem pow_lt (r : Nat) (h : r < 8) : 2 ^ r < 256 := by
  have h2 : (2 : Nat) ^ r ≤ 2 ^ 7 := Nat.pow_le_pow_right (by omega) (by omega)
  omega
theorem pow_wrap (r : Nat) (h : r < 8) : IntKind.u8.wrap ((2 : Int) ^ r) = ((2 ^ r : Nat) : Int) := by
  have := pow_lt r h
  have e : ((2 : Int) ^ r) = ((2 ^ r : Nat) : Int) := by simp
  rw [IntKind.wrap_u8', e]
  generalize 2 ^ r = p at this
  omega

end Go.Proofs.YtelbhlkojpnmgaaDoor
