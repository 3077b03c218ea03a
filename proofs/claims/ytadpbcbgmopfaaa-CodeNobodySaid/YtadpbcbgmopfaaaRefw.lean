/-
  What the document's own answers for wide numbers and texts do: the same bytes, in new memory. For texts of at most 2^45 bytes.
-/
import Derived.Test.YtadpbcbgmopfaaaRefs
namespace Go.Proofs.Ytadpbcbgmopfaaa
open Go.RowKit

theorem digL254 {x : Nat} (h : ¬ x < 256) : digL 254 x = x % 256 :: digL 254 (x / 256) := digL_more h
theorem wide_digits (x : Nat) : (∀ k, k < (digL 254 x).length → (digL 254 x).getD k 0 < 256 ∧ (digL 254 x).getD k 0 = x / 256 ^ k % 256) ∧ ∀ k, (digL 254 x).length ≤ k → x / 256 ^ k = 0 := by
  induction x using Nat.strongRecOn with
  | _ x ih =>
    by_cases h : x < 256
    · rw [digL_last h]
      refine ⟨fun k hk => ?_, fun k hk => ?_⟩
      · obtain rfl : k = 0 := by simpa using hk
        simp only [List.getD, List.getElem?_cons_zero, Option.getD_some, Nat.pow_zero, Nat.div_one]
        omega
      · have h1 : 256 ^ 1 ≤ 256 ^ k := Nat.pow_le_pow_right (by omega) (by simpa using hk)
        exact Nat.div_eq_of_lt (by omega)
    · rw [digL254 h]
      obtain ⟨h1, h2⟩ := ih (x / 256) (by omega)
      have e : ∀ k, x / 256 ^ (k + 1) = x / 256 / 256 ^ k := fun k => by rw [Nat.pow_succ, Nat.mul_comm, Nat.div_div_eq_div_mul]
      refine ⟨fun k hk => ?_, fun k hk => ?_⟩
      · cases k with
        | zero =>
          have e0 : (x % 256 :: digL 254 (x / 256)).getD 0 0 = x % 256 := rfl
          rw [e0, Nat.pow_zero, Nat.div_one]
          exact ⟨Nat.mod_lt _ (by omega), rfl⟩
        | succ k =>
          have := h1 k (by simpa using hk)
          rw [e]
          simpa [List.getD] using this
      · cases k with
        | zero => simp at hk
        | succ k => rw [e]; exact h2 k (by simpa using hk)
theorem wideL_getD (x n k : Nat) (h : k < n) : (wideL x n).getD k 0 = UInt8.ofNat (x / 256 ^ k % 256) := by
  induction n with
  | zero => omega
  | succ n ih =>
    rw [wideL]
    by_cases hk : k < n
    · have := ih hk
      simp only [List.getD] at this ⊢
      rw [List.getElem?_append_left (by rw [wideL_length]; exact hk)]
      exact this
    · obtain rfl : k = n := by omega
      simp only [List.getD]
      rw [List.getElem?_append_right (by rw [wideL_length]; exact Nat.le_refl _), wideL_length]
      simp
/-- What stands in the new block behind k of the stores. -/
def wideK (x n k : Nat) : List UInt8 := (wideL x n).take k ++ List.replicate (n - k) 0
theorem wideK_length (x n k : Nat) (h : k ≤ n) : (wideK x n k).length = n := by simp [wideK, wideL_length]; omega
theorem wideK_succ (x n k : Nat) (h : k < n) : (wideK x n k).set k (UInt8.ofNat (x / 256 ^ k % 256)) = wideK x n (k + 1) := by
  unfold wideK
  have hl : ((wideL x n).take k).length = k := by rw [List.length_take, wideL_length]; omega
  rw [List.set_append_right _ _ (by omega), hl, Nat.sub_self, take_next (by rw [wideL_length]; exact h), wideL_getD x n k h]
  obtain ⟨m, hm⟩ : ∃ m, n - k = m + 1 := ⟨n - k - 1, by omega⟩
  rw [hm, show n - (k + 1) = m by omega]
  simp [List.replicate_succ]
theorem wideK_end (x n k : Nat) (h : k ≤ n) (hz : ∀ j, k ≤ j → x / 256 ^ j = 0) : wideK x n k = wideL x n := by
  apply List.ext_getElem?
  intro i
  unfold wideK
  have hl : ((wideL x n).take k).length = k := by rw [List.length_take, wideL_length]; omega
  by_cases hi : i < k
  · rw [List.getElem?_append_left (by omega), List.getElem?_take, if_pos hi]
  · rw [List.getElem?_append_right (by omega), hl, List.getElem?_replicate]
    by_cases hin : i < n
    · rw [if_pos (by omega), List.getElem?_eq_getElem (by rw [wideL_length]; exact hin)]
      have hw := wideL_getD x n i hin
      rw [hz i (by omega)] at hw
      have hw2 : (wideL x n)[i]'(by rw [wideL_length]; exact hin) = UInt8.ofNat (0 % 256) := by
        simpa [List.getD, wideL_length, hin] using hw
      rw [hw2]
      rfl
    · rw [if_neg (by omega), List.getElem?_eq_none (by rw [wideL_length]; omega)]
/-- Block g is just the bytes l, none of them frozen. -/
def Blk8 (w : World) (g : Nat) (l : List UInt8) : Prop := w.heap[g]? = some (.cells (bv l).toArray 5 (0, 0))
section
variable {w w' : World} {g : Nat} {l : List UInt8}
theorem Blk8.cell (h : Blk8 w g l) {k : Nat} (hk : k < l.length) : w.cell? ⟨g, k, none⟩ = some (.int .u8 ((at8 l k : Nat) : Int)) := by
  rw [cell_of_row w g k _ _ (0, 0) h]
  simpa using bv_get hk
theorem Blk8.frozen (h : Blk8 w g l) (k : Nat) : w.frozen? ⟨g, k, none⟩ = false := by
  unfold Blk8 at h
  simp [World.frozen?, h]
theorem Blk8.set_ (h : Blk8 w g l) (k : Nat) (c : UInt8) : Blk8 (w.setCell ⟨g, k, none⟩ (.int .u8 ((c.toNat : Nat) : Int))) g (l.set k c) := by
  unfold Blk8 at h ⊢
  simp [World.setCell, Array.getElem?_modify, h, bv, List.map_set]
theorem Blk8.own (h : Blk8 w g l) {base : Nat} (hb : base ≤ g) (hm : l.length ≤ maxLen) : Own8 w base (some ⟨g, 0, none⟩) l.length l.length l :=
  ⟨by simp, .inr ⟨g, l.length, (bv l).toArray, rfl, hb, h, Nat.le_refl _, hm, by simp, List.take_of_length_le (by simp)⟩⟩
end
def WideRel2 (W1 : World) (g x n m : Nat) (i : Value) (wr : World) : Prop :=
  ∃ k, k ≤ n ∧ k ≤ m ∧ i = .int .i64 (k : Nat) ∧ Hid (Blk8 wr g (wideK x n k)) ∧ Hid (Below W1.heap.size W1 wr)
set_option maxHeartbeats 800000 in
theorem refWide_any (x n : Nat) (w : World) (hx : x < 18446744073709551616) (hn : n ≤ 8) :
    Calls Try.prog 18 #[.int .u64 (x : Int), .int .i64 (n : Int)] w (BytesE w (wideL x n)) := by
  have HD := Lib.hid (digits_any x 254 w hx (by omega))
  obtain ⟨hlo, hhi⟩ := wide_digits x
  have HLO := Lib.hid hlo
  have HHI := Lib.hid hhi
  have hmk := fun W => run_make_row' (P := Try.prog) 27 5 (.int .u8 0) 1 Try.underlying27 Try.infoU8 rfl .i64 .i64 n (by omega) (by omega) W
  simp only [made_u8] at hmk
  clear hlo hhi hx
  generalize digL 254 x = d at *
  generalize hdn : d.length = m at *
  have HM := Lib.hid hdn
  clear hdn
  go_enter Try.func18, Try.ntmps18
  go_wp2_with fail
  refine HD.out.mono ?_
  rintro e W1 ⟨A1, c1, rfl, hN1, hb1⟩
  rw [HM.out]
  go_wp2_with fail
  go_loopw [7] (fun i wr => WideRel2 W1 W1.heap.size x n m i wr) (fun i _ => n - (intOf i).toNat)
  case atStart => exact ⟨0, by omega, by omega, rfl, Lib.hid (by
    have e : wideK x n 0 = List.replicate n 0 := by unfold wideK; rw [List.take_zero, List.nil_append, Nat.sub_zero]
    rw [e]
    exact heap_alloc_new W1 _), Lib.hid ((Below.refl _ _).alloc (Nat.le_refl _) _)⟩
  case round =>
    obtain ⟨k, hk1, hk2, rfl, hkb, hbw⟩ := hrel
    have HFIN : k = n ∨ k = m → Hid (Blk8 wr W1.heap.size (wideL x n)) := fun h => Lib.hid (by
      have h1 := hkb.out
      rcases h with rfl | rfl
      · have e : wideK x k k = wideL x k := by unfold wideK; rw [Nat.sub_self, List.take_of_length_le (by rw [wideL_length]; exact Nat.le_refl _)]; simp
        rwa [e] at h1
      · rwa [wideK_end x n k hk1 (fun j hj => HHI.out j hj)] at h1)
    have HF := Lib.hid HFIN
    clear HFIN
    by_cases h1 : k < n
    · have q1 : (k : Int) < (n : Int) := by omega
      by_cases h2 : k < m
      · have q2 : (k : Int) < (m : Int) := by omega
        have q0 : (0 : Int) ≤ (k : Int) := by omega
        obtain ⟨b, off, rfl, hbB, hc⟩ := hN1.out (by rw [HM.out]; omega)
        have hcell := (hbw.out.cell (p := ⟨b, off + k, none⟩) hbB).trans (hc k (by rw [HM.out]; exact h2))
        obtain ⟨hd, hv⟩ := HLO.out k h2
        have HV := Lib.hid hv
        clear hc hv
        generalize d.getD k 0 = y at *
        have HC := Lib.hid (show (y : Int) = (((UInt8.ofNat (x / 256 ^ k % 256)).toNat : Nat) : Int) by rw [← HV.out, UInt8.toNat_ofNat']; omega)
        have hdst := hkb.out.cell (k := k) (by rw [wideK_length x n k hk1]; exact h1)
        have hfz := hkb.out.frozen k
        have HS := Lib.hid (wideK_succ x n k h1)
        go_wp2
        go_roundw
        case rel => exact ⟨k + 1, by omega, by omega, by go_num, Lib.hid (by rw [← HS.out]; have := hkb.out.set_ k (UInt8.ofNat (x / 256 ^ k % 256)); rw [← HC.out] at this; exact this), Lib.hid (hbw.out.setCell (Nat.le_refl _) _)⟩
        case measure => simp [intOf]; omega
      · have q2 : ¬ (k : Int) < (m : Int) := by omega
        have hF := HF.out (.inr (by omega))
        go_wp2
        go_ret
        have h3 := hF.out.own (base := w.heap.size) hb1.out.size (by rw [wideL_length]; unfold maxLen; omega)
        rw [wideL_length] at h3
        exact ⟨_, _, by rw [wideL_length]; rfl, by rw [wideL_length]; exact h3, Lib.hid (hb1.out.trans (hbw.out.mono hb1.out.size))⟩
    · have q1 : ¬ (k : Int) < (n : Int) := by omega
      have hF := HF.out (.inl (by omega))
      go_wp2
      go_ret
      have h3 := hF.out.own (base := w.heap.size) hb1.out.size (by rw [wideL_length]; unfold maxLen; omega)
      rw [wideL_length] at h3
      exact ⟨_, _, by rw [wideL_length]; rfl, by rw [wideL_length]; exact h3, Lib.hid (hb1.out.trans (hbw.out.mono hb1.out.size))⟩
end Go.Proofs.Ytadpbcbgmopfaaa
