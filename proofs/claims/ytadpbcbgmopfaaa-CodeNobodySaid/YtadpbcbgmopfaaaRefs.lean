/-
  What the document's own answers for short and wide numbers and texts do: the same bytes, in new memory. For texts of at most 2^45 bytes.
-/
import Derived.Test.YtadpbcbgmopfaaaDigits
import Derived.Test.YtadpbcbgmopfaaaForm
import Derived.Lib.AppendStr
namespace Go.Proofs.Ytadpbcbgmopfaaa
open Go.RowKit

theorem Own8.raise {w : World} {base n cap : Nat} {A : Option Addr} {l : List UInt8} (h : Own8 w 0 A n cap l) (hg : ∀ k, blockOf A = some k → base ≤ k) : Own8 w base A n cap l := by
  refine ⟨h.1, ?_⟩
  rcases h.2 with h2 | ⟨g, c, cur, hv, _, hrest⟩
  · exact .inl h2
  · have hv' : A = some ⟨g, 0, none⟩ ∧ cap = c := by simpa using hv
    exact .inr ⟨g, c, cur, hv, hg g (by rw [hv'.1]; rfl), hrest⟩
theorem digL126 {x : Nat} (h : ¬ x < 128) : digL 126 x = x % 128 :: digL 126 (x / 128) := digL_more h
theorem short_digits (x : Nat) : (shortL x).length = (digL 126 x).length ∧ ∀ k, k < (digL 126 x).length → (digL 126 x).getD k 0 < 128 ∧ (shortL x).getD k 0 = UInt8.ofNat ((digL 126 x).getD k 0 + if k + 1 < (digL 126 x).length then 128 else 0) := by
  induction x using Nat.strongRecOn with
  | _ x ih =>
    by_cases h : x < 128
    · rw [shortL_last h, digL_last h]
      refine ⟨rfl, fun k hk => ?_⟩
      obtain rfl : k = 0 := by simpa using hk
      exact ⟨h, rfl⟩
    · rw [shortL_more h, digL126 h]
      obtain ⟨h1, h2⟩ := ih (x / 128) (by omega)
      refine ⟨by simp [h1], fun k hk => ?_⟩
      have hp : 0 < (digL 126 (x / 128)).length := by rw [← h1]; exact shortL_pos _
      cases k with
      | zero =>
        refine ⟨by simp only [List.getD, List.getElem?_cons_zero, Option.getD_some]; omega, ?_⟩
        simp only [List.getD, List.getElem?_cons_zero, Option.getD_some, List.length_cons]
        rw [if_pos (by omega)]
      | succ k =>
        simp only [List.length_cons] at hk
        obtain ⟨h3, h4⟩ := h2 k (by omega)
        simp only [List.getD, List.getElem?_cons_succ, List.length_cons] at h3 h4 ⊢
        refine ⟨h3, h4.trans ?_⟩
        congr 2
        by_cases hc : k + 1 < (digL 126 (x / 128)).length
        · rw [if_pos hc, if_pos (by omega)]
        · rw [if_neg hc, if_neg (by omega)]
theorem bytes_num (w : World) (z : Int) (c : UInt8) (h : z = ((c.toNat : Nat) : Int)) : Bytes (w.alloc (.cells #[.int .u8 z] 5)) (w.heap.size + 1) (some ⟨w.heap.size, 0, none⟩) [c] := by
  subst h
  exact bytes_one w c
theorem take_next {l : List UInt8} {k : Nat} (h : k < l.length) : l.take (k + 1) = l.take k ++ [l.getD k 0] := by
  rw [List.take_add_one, List.getElem?_eq_getElem h]
  simp [List.getD, h]
def ShRel (w : World) (l : List UInt8) (o i : Value) (wr : World) : Prop :=
  ∃ k A cap, k ≤ l.length ∧ i = .int .i64 (k : Nat) ∧ o = .slice A k cap ∧ Hid (Own8 wr 0 A k cap (l.take k)) ∧ Hid (∀ j, blockOf A = some j → w.heap.size ≤ j) ∧ Hid (Below w.heap.size w wr)
set_option maxHeartbeats 800000 in
theorem refShort_any (x : Nat) (w : World) (hx : x < 18446744073709551616) :
    Calls Try.prog 23 #[.int .u64 (x : Int)] w (BytesE w (shortL x)) := by
  have HD := Lib.hid (digits_any x 126 w hx (by omega))
  obtain ⟨hln, hgt⟩ := short_digits x
  have HG := Lib.hid hgt
  have HT := Lib.hid (shortL_ten hx)
  clear hx hgt
  generalize digL 126 x = d at *
  generalize shortL x = l at *
  generalize hdn : d.length = n at *
  have HN := Lib.hid hdn
  have HL := Lib.hid hln
  clear hdn hln
  go_enter Try.func23, Try.ntmps23
  go_wp2_with fail
  refine HD.out.mono ?_
  rintro e W1 ⟨A1, c1, rfl, hN1, hb1⟩
  rw [HN.out]
  have hn10 : n ≤ 10 := by have := HT.out; rw [HL.out] at this; exact this
  go_wp2_with fail
  go_loopw [4, 5] (fun o i wr => ShRel W1 l o i wr) (fun _ i _ => n - (intOf i).toNat)
  case atStart => exact ⟨0, none, 0, by omega, rfl, rfl, Own8.nil_, Lib.hid (fun _ h => by cases h), Lib.hid (Below.refl _ _)⟩
  case round =>
    obtain ⟨k, A, cap, hk, rfl, rfl, ho, hg, hbw⟩ := hrel
    rw [HL.out] at hk
    by_cases hlt : k < n
    · obtain ⟨b, off, rfl, hbB, hc⟩ := hN1.out (by rw [HN.out]; omega)
      have hcell := (hbw.out.cell (p := ⟨b, off + k, none⟩) hbB).trans (hc k (by rw [HN.out]; exact hlt))
      obtain ⟨hd, hv⟩ := HG.out k hlt
      have HTK := Lib.hid (take_next (l := l) (k := k) (by rw [HL.out]; exact hlt))
      have hk0 : (0 : Int) ≤ (k : Int) := by omega
      have hkn : (k : Int) < (n : Int) := by omega
      have HV := Lib.hid hv
      clear hc hv
      generalize d.getD k 0 = x at *
      by_cases hmore : k + 1 < n
      · have hm : (k : Int) + 1 < (n : Int) := by omega
        rw [if_pos hmore] at HV
        have HZ := Lib.hid (show (x : Int) + 128 = (((UInt8.ofNat (x + 128)).toNat : Nat) : Int) by rw [UInt8.toNat_ofNat']; omega)
        generalize UInt8.ofNat (x + 128) = c at *
        have C1 := Lib.hid (ho.out.alloc (.cells #[.int .u8 ((x : Int) + 128)] 5))
        have C2 := Lib.hid (bytes_num wr _ c HZ.out)
        have C3 := Lib.hid ((Only.refl (fun _ => False) wr).alloc (.cells #[.int .u8 ((x : Int) + 128)] 5))
        go_wp2_with (at_builtin; refine wpList_append8 rfl (.tmp 20) (.tmp 28) rfl A k cap (l.take k) rfl C1.out (some ⟨wr.heap.size, 0, none⟩) 1 1 _ [c] rfl rfl (fun h => by cases h) C2.out (by omega) ?_)
        intro A' cap' w1 hO1 ho1 hn1
        have hb3 : Hid (Below W1.heap.size W1 w1) := Lib.hid (ho1.out.below (hbw.out.alloc hbw.out.size _) (fun j hj => hg.out j hj) (by have := hbw.out.size; simp; omega))
        have hg3 : Hid (∀ j, blockOf A' = some j → W1.heap.size ≤ j) := Lib.hid (hn1.out.ge (by have := hbw.out.size; simp; omega) hg.out)
        have hO3 : Hid (Own8 w1 0 A' (k + 1) cap' (l.take (k + 1))) := Lib.hid (by rw [HTK.out, HV.out]; exact hO1.out)
        clear hO1 ho1 hn1 C1 C2 C3 hcell
        go_wp2
        go_roundw
        case rel => exact ⟨k + 1, A', cap', by rw [HL.out]; omega, by go_num, rfl, hO3, hg3, hb3⟩
        case measure => simp [intOf]; omega
      · have hm : ¬ (k : Int) + 1 < (n : Int) := by omega
        rw [if_neg hmore, Nat.add_zero] at HV
        have HZ := Lib.hid (show (x : Int) = (((UInt8.ofNat x).toNat : Nat) : Int) by rw [UInt8.toNat_ofNat']; omega)
        generalize UInt8.ofNat x = c at *
        have C1 := Lib.hid (ho.out.alloc (.cells #[.int .u8 (x : Int)] 5))
        have C2 := Lib.hid (bytes_num wr _ c HZ.out)
        have C3 := Lib.hid ((Only.refl (fun _ => False) wr).alloc (.cells #[.int .u8 (x : Int)] 5))
        go_wp2_with (at_builtin; refine wpList_append8 rfl (.tmp 20) (.tmp 28) rfl A k cap (l.take k) rfl C1.out (some ⟨wr.heap.size, 0, none⟩) 1 1 _ [c] rfl rfl (fun h => by cases h) C2.out (by omega) ?_)
        intro A' cap' w1 hO1 ho1 hn1
        have hb3 : Hid (Below W1.heap.size W1 w1) := Lib.hid (ho1.out.below (hbw.out.alloc hbw.out.size _) (fun j hj => hg.out j hj) (by have := hbw.out.size; simp; omega))
        have hg3 : Hid (∀ j, blockOf A' = some j → W1.heap.size ≤ j) := Lib.hid (hn1.out.ge (by have := hbw.out.size; simp; omega) hg.out)
        have hO3 : Hid (Own8 w1 0 A' (k + 1) cap' (l.take (k + 1))) := Lib.hid (by rw [HTK.out, HV.out]; exact hO1.out)
        clear hO1 ho1 hn1 C1 C2 C3 hcell
        go_wp2
        go_roundw
        case rel => exact ⟨k + 1, A', cap', by rw [HL.out]; omega, by go_num, rfl, hO3, hg3, hb3⟩
        case measure => simp [intOf]; omega
    · obtain rfl : k = n := by omega
      go_wp2
      go_ret
      refine ⟨A, cap, by rw [HL.out]; rfl, ?_, Lib.hid (hb1.out.trans (hbw.out.mono hb1.out.size))⟩
      have h1 := ho.out.raise (base := w.heap.size) (fun j hj => Nat.le_trans hb1.out.size (hg.out j hj))
      rw [List.take_of_length_le (by rw [HL.out]; exact Nat.le_refl _)] at h1
      rw [HL.out]
      exact h1
end Go.Proofs.Ytadpbcbgmopfaaa
