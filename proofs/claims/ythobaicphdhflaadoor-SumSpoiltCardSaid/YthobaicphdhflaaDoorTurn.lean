/-
  What turn does: it turns the bits at the given places of a block of bytes, or says that a place is none or there twice; no other block that was there changes. For at most 2^20 bytes.
-/
import Derived.Test.YthobaicphdhflaaDoorWords
import Derived.BigRegion
namespace Go.Proofs.YthobaicphdhflaaDoor
open Go.RowKit

/-- A slice's address under which the whole numbers js lie, in a block that is not g. -/
def Ints (w : World) (g : Nat) (A : Option Addr) (js : List Int) : Prop :=
  0 < js.length → ∃ b off, A = some ⟨b, off, none⟩ ∧ b ≠ g ∧ ∀ k, k < js.length → w.cell? ⟨b, off + k, none⟩ = some (.int .i64 (js.getD k 0))
def Good (m : Nat) (js : List Int) : Prop := (∀ j ∈ js, 0 ≤ j ∧ j < 8 * (m : Int)) ∧ js.Nodup
def TurnEnds (w : World) (g m : Nat) (L : List UInt8) (js : List Int) (e : Ending) (w' : World) : Prop :=
  w.grownBy w' (some g) ∧ (e = .returned (.bool false) ∨ (e = .returned (.bool true) ∧ Good m js ∧ Blk8 w' g (Crc.flips L (js.map Int.toNat))))

theorem good_none (m : Nat) : Good m [] := ⟨by simp, by simp⟩
theorem good_snoc {m : Nat} {js : List Int} {k : Nat} (hk : k < js.length) (h : Good m (js.take k)) (h1 : 0 ≤ js.getD k 0) (h2 : js.getD k 0 < 8 * (m : Int)) (h3 : ∀ t, t < k → js.getD t 0 ≠ js.getD k 0) : Good m (js.take (k + 1)) := by
  have e : js.getD k 0 = js[k] := by simp [List.getD, hk]
  rw [List.take_add_one, List.getElem?_eq_getElem hk]
  refine ⟨fun j hj => ?_, ?_⟩
  · rw [List.mem_append] at hj
    rcases hj with hj | hj
    · exact h.1 j hj
    · obtain rfl : j = js[k] := by simpa using hj
      rw [← e]; exact ⟨h1, h2⟩
  · show (js.take k ++ [js[k]]).Nodup
    rw [List.nodup_append]
    refine ⟨h.2, by simp, fun a ha b hb => ?_⟩
    obtain rfl : b = js[k] := by simpa using hb
    obtain ⟨t, ht, rfl⟩ := List.getElem_of_mem ha
    rw [List.length_take] at ht
    have := h3 t (by omega)
    rw [e] at this
    have e2 : js.getD t 0 = (js.take k)[t] := by
      rw [List.getElem_take]
      simp [List.getD, show t < js.length by omega]
    rw [e2] at this
    exact this

theorem getD_of {js : List Int} {k : Nat} (hk : k < js.length) : js.getD k 0 = js[k] := by simp [List.getD, hk]
theorem flips_succ (L : List UInt8) (js : List Int) (t : Nat) (ht : t < js.length) : Crc.flips L ((js.take (t + 1)).map Int.toNat) = Crc.flip (Crc.flips L ((js.take t).map Int.toNat)) (js.getD t 0).toNat := by
  rw [List.take_add_one, List.getElem?_eq_getElem ht, getD_of ht]
  rw [List.map_append]
  unfold Crc.flips
  rw [List.foldl_append]
  rfl
theorem flip_byte (M : List UInt8) (j : Nat) : (M.getD (j / 8) 0 ^^^ UInt8.ofNat (2 ^ (j % 8))).toNat = at8 M (j / 8) ^^^ 2 ^ (j % 8) := by
  have h2 : (2 : Nat) ^ (j % 8) ≤ 2 ^ 7 := Nat.pow_le_pow_right (by omega) (by omega)
  rw [UInt8.toNat_xor, UInt8.toNat_ofNat', Nat.mod_eq_of_lt (by omega)]
  rfl

theorem pow_lt (r : Nat) (h : r < 8) : 2 ^ r < 256 := by
  have h2 : (2 : Nat) ^ r ≤ 2 ^ 7 := Nat.pow_le_pow_right (by omega) (by omega)
  omega
theorem pow_wrap (r : Nat) (h : r < 8) : IntKind.u8.wrap ((2 : Int) ^ r) = ((2 ^ r : Nat) : Int) := by
  have := pow_lt r h
  have e : ((2 : Int) ^ r) = ((2 ^ r : Nat) : Int) := by simp
  rw [IntKind.wrap_u8', e]
  generalize 2 ^ r = p at this
  omega

set_option maxHeartbeats 1600000 in
theorem turn_any (g m : Nat) (L : List UInt8) (A : Option Addr) (js : List Int) (n cap cap' : Nat) (w : World) (hL : L.length = m) (hm : m ≤ 1048576) (hk : Blk8 w g L) (hn : js.length = n) (hnm : n ≤ maxLen) (hj : Ints w g A js) :
    Calls Tryd.prog 21 #[.slice (some ⟨g, 0, none⟩) m cap, .slice A n cap'] w (TurnEnds w g m L js) := by
  unfold maxLen at hnm
  have HK := Lib.hid hk
  have HL := Lib.hid hL
  have HN := Lib.hid hn
  have HJ := Lib.hid hj
  clear hk hL hn hj
  have m8 : (0 : Int) ≤ (m : Int) := by omega
  have m9 : (m : Int) ≤ 1048576 := by omega
  go_enter Tryd.func21, Tryd.ntmps21
  go_wp2_with fail
  go_loopw [5] (fun i wr => ∃ k q : Nat, k ≤ n ∧ i = .int .i64 k ∧ wr = w.drewN q ∧ Hid (Good m (js.take k))) (fun i _ => n - (intOf i).toNat)
  case atStart => exact ⟨0, 0, by omega, rfl, rfl, Lib.hid (by simpa using good_none m)⟩
  case round =>
    obtain ⟨k, q, hk, rfl, rfl, hgood⟩ := hrel
    by_cases hlt : k < n
    · obtain ⟨b, off, rfl, hbg, hc⟩ := HJ.out (by rw [HN.out]; omega)
      have hcell := hc k (by rw [HN.out]; exact hlt)
      have HC := Lib.hid hc
      have HBG := Lib.hid hbg
      clear hc hbg
      have HG := Lib.hid (fun h1 h2 h3 => good_snoc (m := m) (js := js) (k := k) (by rw [HN.out]; exact hlt) hgood.out h1 h2 h3)
      generalize hj : js.getD k 0 = j at hcell HG
      by_cases h1 : j < 0
      · clear hj HG
        go_wp2
        go_ret
        exact ⟨⟨rfl, rfl, rfl, Nat.le_refl _, fun _ _ _ => rfl⟩, .inl rfl⟩
      · by_cases h2 : 8 * (m : Int) ≤ j
        · clear hj HG
          go_wp2
          go_ret
          exact ⟨⟨rfl, rfl, rfl, Nat.le_refl _, fun _ _ _ => rfl⟩, .inl rfl⟩
        · have HJK := Lib.hid hj
          clear hj
          have HG2 := Lib.hid (HG.out (by omega) (by omega))
          clear HG
          have k0 : (0 : Int) ≤ (k : Int) := by omega
          have kn : (k : Int) < (n : Int) := by omega
          go_wp2_with fail
          go_loopw [6] (fun c wr => ∃ t q' : Nat, t ≤ k ∧ c = .int .i64 t ∧ wr = w.drewN q' ∧ Hid (∀ s, s < t → js.getD s 0 ≠ j)) (fun c _ => k - (intOf c).toNat)
          case atStart => exact ⟨0, q, by omega, rfl, rfl, Lib.hid (fun s hs => absurd hs (by omega))⟩
          case round =>
            obtain ⟨t, q', ht, rfl, rfl, hne⟩ := hrel
            by_cases htk : t < k
            · have hct := HC.out t (by rw [HN.out]; omega)
              have t0 : (0 : Int) ≤ (t : Int) := by omega
              have tn : (t : Int) < (n : Int) := by omega
              have HNE := Lib.hid (fun (h : js.getD t 0 ≠ j) => show ∀ s, s < t + 1 → js.getD s 0 ≠ j from fun s hs => by
                rcases Nat.lt_or_ge s t with h1 | h1
                · exact hne.out s h1
                · obtain rfl : s = t := by omega
                  exact h)
              generalize js.getD t 0 = jt at hct HNE
              by_cases hq : jt = j
              · subst hq
                go_wp2_with fail
                go_quiet (fail)
                go_wp2
                go_ret
                exact ⟨⟨rfl, rfl, rfl, Nat.le_refl _, fun _ _ _ => rfl⟩, .inl rfl⟩
              · have hqb : (jt == j) = false := by simpa using hq
                have HNE2 := Lib.hid (HNE.out hq)
                clear HNE hq
                go_wp2_with fail
                go_quiet (fail)
                go_wp2
                go_roundw
                case rel => exact ⟨t + 1, _, by omega, by go_num, rfl, HNE2⟩
                case measure => simp [intOf]; omega
            · obtain rfl : t = k := by omega
              have HG3 := Lib.hid (HG2.out (fun s hs => hne.out s hs))
              go_wp2
              go_roundw
              case rel => exact ⟨t + 1, _, by omega, by go_num, rfl, HG3⟩
              case measure => simp [intOf]; omega
    · have hkn : n = k := by omega
      have hgood2 := Lib.hid (show Good m js by have := hgood.out; rwa [List.take_of_length_le (by rw [HN.out]; omega)] at this)
      clear hgood
      subst hkn
      go_wp2_with fail
      go_loopw [7] (fun c wr => ∃ t : Nat, t ≤ n ∧ c = .int .i64 t ∧ Hid (w.grownBy wr (some g)) ∧ Hid (Blk8 wr g (Crc.flips L ((js.take t).map Int.toNat)))) (fun c _ => n - (intOf c).toNat)
      case atStart => exact ⟨0, by omega, rfl, Lib.hid ⟨rfl, rfl, rfl, Nat.le_refl _, fun _ _ _ => rfl⟩, Lib.hid (HK.out.drewN q)⟩
      case round =>
        obtain ⟨t, ht, rfl, hgr, hkb⟩ := hrel
        by_cases htn : t < n
        · obtain ⟨b, off, rfl, hbg, hc⟩ := HJ.out (by rw [HN.out]; omega)
          have hct := hgr.out.cell (hc t (by rw [HN.out]; exact htn)) (by intro h; exact hbg (by injection h))
          have HS := Lib.hid (flips_succ L js t (by rw [HN.out]; exact htn))
          have hr := hgood2.out.1 (js.getD t 0) (by rw [getD_of (by rw [HN.out]; exact htn)]; exact List.getElem_mem _)
          have HLn := Lib.hid (show (Crc.flips L ((js.take t).map Int.toNat)).length = m by rw [Crc.flips_length]; exact HL.out)
          clear hc
          generalize js.getD t 0 = j at hct HS hr
          obtain ⟨jn, rfl⟩ := Int.eq_ofNat_of_zero_le hr.1
          generalize Crc.flips L ((js.take t).map Int.toNat) = M at hkb HS HLn
          have E1 := Lib.hid (flip_byte M jn)
          have E2 := Lib.hid (show Crc.flip M jn = M.set (jn / 8) (M.getD (jn / 8) 0 ^^^ UInt8.ofNat (2 ^ (jn % 8))) from rfl)
          have e1 : IntKind.i64.wrap ((jn : Int) / 8) = ((jn / 8 : Nat) : Int) := by rw [IntWalk.i64_in _ (by omega)]; omega
          have e2 : (jn : Int).tmod 8 = ((jn % 8 : Nat) : Int) := by rw [Int.tmod_eq_emod_of_nonneg (by omega)]; omega
          have hq8 : jn / 8 < m := by omega
          have hr8 : jn % 8 < 8 := by omega
          generalize jn / 8 = d at E1 E2 e1 hq8
          generalize jn % 8 = r at E1 E2 e2 hr8
          have hcx := hkb.out.cell (k := d) (by rw [HLn.out]; exact hq8)
          have hfz := hkb.out.frozen d
          have hx := at8_lt M d
          have C1 := Lib.hid (hkb.out.set_ d (M.getD d 0 ^^^ UInt8.ofNat (2 ^ r)))
          generalize at8 M d = x at hcx hx E1
          have E3 := Lib.hid (pow_wrap r hr8)
          have e4 := E3.out
          have e5 := u8_xor_nat x (2 ^ r) hx (pow_lt r hr8)
          generalize M.getD d 0 ^^^ UInt8.ofNat (2 ^ r) = y at E1 E2 C1
          rw [← E1.out] at e5
          generalize 2 ^ r = pw at e4 e5
          have t0 : (0 : Int) ≤ (t : Int) := by omega
          have tn : (t : Int) < (n : Int) := by omega
          have j0 : (0 : Int) ≤ (jn : Int) := by omega
          have j1 : (d : Int) < (m : Int) := by omega
          have j2 : (0 : Int) ≤ (d : Int) := by omega
          have j3 : (0 : Int) ≤ (r : Int) := by omega
          go_wp2_with fail
          go_region
          have C2 : Hid (w.grownBy (wr.setCell ⟨g, d, none⟩ (.int .u8 ((y.toNat : Nat) : Int))) (some g)) := Lib.hid ⟨hgr.out.os, hgr.out.tape, hgr.out.output, by have := hgr.out.size; simpa [World.setCell] using this, fun i hi hne => (Below.heap_setCell wr ⟨g, d, none⟩ _ i (by rintro rfl; exact hne rfl)).trans (hgr.out.block i hi hne)⟩
          have HS2 := Lib.hid (show Crc.flips L ((js.take (t + 1)).map Int.toNat) = M.set d y by rw [HS.out, Int.toNat_natCast, E2.out])
          clear hct hcx hfz e1 e2 e4 e5 HS E1 E2 E3
          go_wp2
          go_roundw
          case rel => exact ⟨t + 1, by omega, by go_num, Lib.hid ⟨C2.out.os, C2.out.tape, C2.out.output, C2.out.size, C2.out.block⟩, Lib.hid (by rw [HS2.out]; exact C1.out)⟩
          case measure => simp [intOf]; omega
        · have HF := Lib.hid (show js.take t = js by rw [List.take_of_length_le (by rw [HN.out]; omega)])
          go_wp2
          go_ret
          exact ⟨hgr.out, .inr ⟨rfl, hgood2.out, by have := hkb.out; rwa [HF.out] at this⟩⟩
end Go.Proofs.YthobaicphdhflaaDoor
