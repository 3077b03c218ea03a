/-
  The document's own Reader: Wide, Uint, End. For at most 2^46 bytes.
-/
import Derived.Test.YtelbhlkojpnmgaaDoorRraw
namespace Go.Proofs.YtelbhlkojpnmgaaDoor
set_option maxRecDepth 20000
open Go.RowKit

theorem rWide_raw (s : RS) (n : Nat) : rWide s n = (numB 8 (rRaw s (n : Int)).1, (rRaw s (n : Int)).2) := by
  unfold rWide rRaw
  by_cases h : s.bad = true ∨ s.l.length < n
  · rw [if_pos h, if_pos (by rcases h with h | h; exact .inl h; exact .inr (.inr (by omega)))]; rfl
  · rw [if_neg h, if_neg (by rintro (e | e | e); exact h (.inl e); omega; exact h (.inr (by omega)))]
    have hl : (s.l.take n).length = n := by rw [List.length_take]; omega
    simp only [Int.toNat_natCast]
    rw [numB8, hl]
theorem rRaw_len (s : RS) (n : Nat) : (rRaw s (n : Int)).1.length ≤ n := by
  unfold rRaw
  split
  · simp
  · simp only [Int.toNat_natCast, List.length_take]; omega
theorem rRaw_le (s : RS) (n : Int) : (rRaw s n).1.length ≤ s.l.length ∧ (rRaw s n).2.l.length ≤ s.l.length := by
  unfold rRaw
  split
  · simp
  · simp only [List.length_take, List.length_drop]; omega
theorem numB8_lt (l : List UInt8) (h : l.length ≤ 8) : numB 8 l < 18446744073709551616 := by
  rw [numB8]
  have h1 := numLE_lt l l.length
  have h2 : (2 : Nat) ^ (8 * l.length) ≤ 2 ^ 64 := Nat.pow_le_pow_right (by decide) (by omega)
  omega
theorem rUint_raw (s : RS) : rUint s = (numB 7 (rRaw s (if (parse s.l).2 = 0 then -1 else ((parse s.l).2 : Int))).1, (rRaw s (if (parse s.l).2 = 0 then -1 else ((parse s.l).2 : Int))).2) := by
  unfold rUint rRaw
  by_cases h0 : (parse s.l).2 = 0
  · rw [if_pos (.inr h0), if_pos h0, if_pos (by omega)]; rfl
  · rw [if_neg h0]
    have hle := parse_le s.l
    by_cases hb : s.bad = true
    · rw [if_pos (.inl hb), if_pos (.inl hb)]; rfl
    · rw [if_neg (by simp [hb, h0]), if_neg (by simp [hb]; omega)]
      simp only [Int.toNat_natCast]
      rw [← parse_worth]
theorem uint_small (s : RS) : numB 7 (rRaw s (if (parse s.l).2 = 0 then -1 else ((parse s.l).2 : Int))).1 < 18446744073709551616 := by
  have h := congrArg Prod.fst (rUint_raw s)
  simp only at h
  rw [← h]
  unfold rUint
  split
  · simp
  · exact parse_lt _
set_option maxHeartbeats 1000000 in
theorem fuint_any (q : Nat) (d : Option Nat) (s : RS) (w : World) (h : Rd RfT w q d s.l s.bad) (hr : s.l.length ≤ 70368744177664) :
    Calls Tryd.prog 39 #[.pointer (some ⟨q, 0, none⟩)] w (RdE RfT w q d (.int .u64 ((rUint s).1 : Nat)) (rUint s).2) := by
  rw [rUint_raw]
  have HV := Lib.hid (uint_small s)
  have HG := Lib.hid (groups_any q d s.l s.bad w h)
  have HRA := Lib.hid (fun n => fraw_any q d s n w h hr)
  have HLe := Lib.hid (fun n => (rRaw_le s n).1)
  have hr2 := hr
  clear h
  generalize (parse s.l).2 = p at *
  by_cases h0 : p = 0
  · subst h0
    rw [if_pos rfl] at *
    go_enter Tryd.func39, Tryd.ntmps39
    go_wp2_with fail
    refine HG.out.mono ?_
    rintro e W1 ⟨rfl, rfl⟩
    go_wp2_with fail
    refine (HRA.out (-1)).mono ?_
    rintro e W1 ⟨A, cap, rfl, h1, h2, h3, h4⟩
    go_wp2_with fail
    refine (worth7_any A _ _ cap W1 h2.out rfl (by have := HLe.out (-1); omega) HV.out).mono ?_
    rintro e W2 ⟨rfl, hb⟩
    go_wp2
    go_ret
    exact ⟨rfl, Lib.hid (h1.out.keep (S := fun _ => False) (Only.ofBelow hb.out) (fun h => h) (fun _ _ h => h)), Lib.hid (h4.out.trans (Only.ofBelow (S := fun k => k = q) hb.out) fun _ _ h => h)⟩
  · rw [if_neg h0] at *
    have g0 : ¬ (p : Int) = 0 := by omega
    go_enter Tryd.func39, Tryd.ntmps39
    go_wp2_with fail
    refine HG.out.mono ?_
    rintro e W1 ⟨rfl, rfl⟩
    go_wp2_with fail
    refine (HRA.out (p : Int)).mono ?_
    rintro e W1 ⟨A, cap, rfl, h1, h2, h3, h4⟩
    go_wp2_with fail
    refine (worth7_any A _ _ cap W1 h2.out rfl (by have := HLe.out (p : Int); omega) HV.out).mono ?_
    rintro e W2 ⟨rfl, hb⟩
    go_wp2
    go_ret
    exact ⟨rfl, Lib.hid (h1.out.keep (S := fun _ => False) (Only.ofBelow hb.out) (fun h => h) (fun _ _ h => h)), Lib.hid (h4.out.trans (Only.ofBelow (S := fun k => k = q) hb.out) fun _ _ h => h)⟩
end Go.Proofs.YtelbhlkojpnmgaaDoor
