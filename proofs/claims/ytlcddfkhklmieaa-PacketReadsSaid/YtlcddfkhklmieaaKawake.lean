/-
  What the statements' own examples come to: awake answers true, and what was there stays as it was. No condition.
-/
import Derived.Test.YtlcddfkhklmieaaKlaws
namespace Go.Proofs.Ytlcddfkhklmieaa
set_option maxRecDepth 20000
open Go.RowKit

def exA : Pk := ⟨1, (0, 0), 0, [], [], (1, 2), 5, [(2, 1), (3, 7)]⟩
def exK : Pk := ⟨3, (6, 1), 0, [⟨5, 2, 1, 1⟩], [], (0, 0), 0, []⟩
theorem exA_may : mayK exA := by decide
theorem exK_may : mayK exK := by decide
theorem exA_bytes : packetL exA = [1, 1, 2, 5, 2, 2, 1, 3, 7] := by
  have s1 : shortL 1 = [1] := by rw [shortL_last (by decide)]; rfl
  have s2 : shortL 2 = [2] := by rw [shortL_last (by decide)]; rfl
  have s5 : shortL 5 = [5] := by rw [shortL_last (by decide)]; rfl
  have s7 : shortL 7 = [7] := by rw [shortL_last (by decide)]; rfl
  rw [packetL_tail]
  unfold tailK exA
  simp only [if_true, putL, putsL, List.flatMap_cons, List.flatMap_nil, s5, show (2 : Int).toNat = 2 from rfl, show (1 : Int).toNat = 1 from rfl, show (7 : Int).toNat = 7 from rfl, s1, s2, s7]
  rfl
theorem exK_bytes : packetL exK = [3, 6, 1, 0, 1, 5, 2, 1, 1] := by
  have s1 : shortL 1 = [1] := by rw [shortL_last (by decide)]; rfl
  have s2 : shortL 2 = [2] := by rw [shortL_last (by decide)]; rfl
  rw [packetL_tail]
  unfold tailK exK
  simp only [putL, headsL, headL, List.flatMap_cons, List.flatMap_nil, show (1 : Int).toNat = 1 from rfl, s1, s2]
  rfl
set_option maxHeartbeats 8000000 in
theorem awake6_any (w : World) :
    Calls Try.prog 13 #[] w fun e w' => e = .returned (.bool true) ∧ Hid (Below w.heap.size w w') := by
  have hz : (w.alloc (.cells #[.int .i64 2, .int .u64 1, .int .i64 3, .int .u64 7] 24)).heap.size = w.heap.size + 1 := by simp
  have hb1 := kbelow_box w (.cells #[.int .i64 2, .int .u64 1, .int .i64 3, .int .u64 7] 24)
  have l1 : Lives (w.alloc (.cells #[.int .i64 2, .int .u64 1, .int .i64 3, .int .u64 7] 24)) (w.heap.size + 1) (some ⟨w.heap.size, 0, none⟩) [(2, 1), (3, 7)] := lives_new w [(2, 1), (3, 7)]
  have a1 := kbox_new (k := 1) (s := 0) (t := 0) (h := 0) (x := 1) (y := 2) (z := 5) (H := none) (A := none) (P := (some ⟨w.heap.size, 0, none⟩)) (nh := 0) (ch := 0) (n := 0) (cap := 0) (np := 2) (cp := 2) (w := (w.alloc (.cells #[.int .i64 2, .int .u64 1, .int .i64 3, .int .u64 7] 24))) 31
  rw [hz] at a1
  have hb2 := kbelow_box (w.alloc (.cells #[.int .i64 2, .int .u64 1, .int .i64 3, .int .u64 7] 24)) (.cells #[.int .i64 1, .int .i64 0, .int .u64 0, .int .i64 0, .slice none 0 0, .slice none 0 0, .int .i64 1, .int .u64 2, .int .u64 5, .slice (some ⟨w.heap.size, 0, none⟩) 2 2] 31)
  have HA := Lib.hid a1
  have B2 := Lib.hid (ktr hb1 hb2)
  have L2 := Lib.hid (l1.below (hb2.mono (by rw [hz]; exact Nat.le_refl _)))
  clear hb1 l1 a1 hb2 hz
  go_enter Try.func13, Try.ntmps13
  obtain ⟨k0, k1, k2, k3, k4, k5, k6, k7, k8, k9⟩ := HA.out
  go_wp2_with fail
  generalize (w.alloc (.cells #[.int .i64 2, .int .u64 1, .int .i64 3, .int .u64 7] 24)).alloc (.cells #[.int .i64 1, .int .i64 0, .int .u64 0, .int .i64 0, .slice none 0 0, .slice none 0 0, .int .i64 1, .int .u64 2, .int .u64 5, .slice (some ⟨w.heap.size, 0, none⟩) 2 2] 31) = W2 at *
  clear k0 k1 k2 k3 k4 k5 k6 k7 k8 k9
  have hAl : w.heap.size + 1 < W2.heap.size := World.block_lt_of_cell? _ _ HA.out.1
  have HI := Lib.hid (show PIn W2 (w.heap.size + 1) [] [] [(2, 1), (3, 7)] none 0 none 0 0 (some ⟨w.heap.size, 0, none⟩) 2 2 from ⟨fun h => by simp at h, fun h => by simp at h, L2.out, rfl, rfl, rfl, fun _ => rfl, fun e => (by cases e), by decide⟩)
  refine (enc_at (k := 1) (s := 0) (t := 0) (h := 0) (x := 1) (y := 2) (z := 5) (ch := 0) HI.out (Nat.le_of_lt hAl) (by decide) (by decide) (by omega) (by omega)).mono ?_
  rintro e W3 ⟨hb3, h⟩
  change (¬ mayK exA ∧ _) ∨ (mayK exA ∧ _) at h
  rcases h with ⟨h, -⟩ | ⟨-, A3, c3, rfl, ho3⟩
  · exact absurd exA_may h
  change Hid (Own8 W3 W2.heap.size A3 (packetL exA).length c3 (packetL exA)) at ho3
  change (fun e w => _) _ _
  rw [show (packetL (⟨1, (0, 0), 0, [], [], (1, 2), 5, [(2, 1), (3, 7)]⟩ : Pk)) = [1, 1, 2, 5, 2, 2, 1, 3, 7] from exA_bytes]
  rw [exA_bytes] at ho3
  have HA3 := Lib.hid (HA.out.below hb3.out)
  have B3 := Lib.hid (ktr B2.out hb3.out)
  have HI3 := Lib.hid (HI.out.below (hb3.out.mono (Nat.le_of_lt hAl)))
  have HA3l := Lib.hid (Nat.lt_of_lt_of_le hAl hb3.out.size)
  clear HA B2 L2 HI hb3 hAl
  -- the ack
  have hz : (W3.alloc (.cells #[.int .i64 5, .int .u64 2, .int .u64 1, .int .u64 1] 51)).heap.size = W3.heap.size + 1 := by simp
  have hb4 := kbelow_box W3 (.cells #[.int .i64 5, .int .u64 2, .int .u64 1, .int .u64 1] 51)
  have h4 : Hds (W3.alloc (.cells #[.int .i64 5, .int .u64 2, .int .u64 1, .int .u64 1] 51)) (W3.heap.size + 1) (some ⟨W3.heap.size, 0, none⟩) [⟨5, 2, 1, 1⟩] := heads_new W3 [⟨5, 2, 1, 1⟩]
  have k4 := kbox_new (k := 3) (s := 6) (t := 1) (h := 0) (x := 0) (y := 0) (z := 0) (H := (some ⟨W3.heap.size, 0, none⟩)) (A := none) (P := none) (nh := 1) (ch := 1) (n := 0) (cap := 0) (np := 0) (cp := 0) (w := (W3.alloc (.cells #[.int .i64 5, .int .u64 2, .int .u64 1, .int .u64 1] 51))) 31
  rw [hz] at k4
  have hb5 := kbelow_box (W3.alloc (.cells #[.int .i64 5, .int .u64 2, .int .u64 1, .int .u64 1] 51)) (.cells #[.int .i64 3, .int .i64 6, .int .u64 1, .int .i64 0, .slice (some ⟨W3.heap.size, 0, none⟩) 1 1, .slice none 0 0, .int .i64 0, .int .u64 0, .int .u64 0, .slice none 0 0] 31)
  have HK := Lib.hid k4
  have hb35 := ktr hb4 hb5
  have B5 := Lib.hid (ktr B3.out hb35)
  have HH5 := Lib.hid (h4.below (hb5.mono (by rw [hz]; exact Nat.le_refl _)))
  have HA5 := Lib.hid (HA3.out.below hb35)
  have HI5 := Lib.hid (HI3.out.below (hb35.mono (Nat.le_of_lt HA3l.out)))
  have O5 := Lib.hid (own8_on ho3.out hb35)
  have HS5 := Lib.hid (show w.heap.size + 1 ≤ W3.heap.size from Nat.le_of_lt HA3l.out)
  clear hb4 h4 k4 hb5 hb35 HA3 B3 HI3 ho3 hz HA3l
  obtain ⟨k0, k1, k2, k3, k4, k5, k6, k7, k8, k9⟩ := HK.out
  go_wp2_with fail
  generalize (W3.alloc (.cells #[.int .i64 5, .int .u64 2, .int .u64 1, .int .u64 1] 51)).alloc (.cells #[.int .i64 3, .int .i64 6, .int .u64 1, .int .i64 0, .slice (some ⟨W3.heap.size, 0, none⟩) 1 1, .slice none 0 0, .int .i64 0, .int .u64 0, .int .u64 0, .slice none 0 0] 31) = W5 at *
  clear k0 k1 k2 k3 k4 k5 k6 k7 k8 k9
  generalize W3.heap.size = b3 at *
  have hKl : b3 + 1 < W5.heap.size := World.block_lt_of_cell? _ _ HK.out.1
  have HJ := Lib.hid (show PIn W5 (b3 + 1) [⟨5, 2, 1, 1⟩] [] [] (some ⟨b3, 0, none⟩) 1 none 0 0 none 0 0 from ⟨HH5.out, fun h => by simp at h, fun h => by simp at h, rfl, rfl, rfl, fun _ => rfl, fun _ => rfl, by decide⟩)
  refine (enc_at (k := 3) (s := 6) (t := 1) (h := 0) (x := 0) (y := 0) (z := 0) (ch := 1) HJ.out (Nat.le_of_lt hKl) (by decide) (by decide) (by omega) (by omega)).mono ?_
  rintro e W6 ⟨hb6, h⟩
  change (¬ mayK exK ∧ _) ∨ (mayK exK ∧ _) at h
  rcases h with ⟨h, -⟩ | ⟨-, A6, c6, rfl, ho6⟩
  · exact absurd exK_may h
  change Hid (Own8 W6 W5.heap.size A6 (packetL exK).length c6 (packetL exK)) at ho6
  change (fun e w => _) _ _
  rw [show (packetL (⟨3, (6, 1), 0, [⟨5, 2, 1, 1⟩], [], (0, 0), 0, []⟩ : Pk)) = [3, 6, 1, 0, 1, 5, 2, 1, 1] from exK_bytes]
  have HRD := Lib.hid (readK_put exK_may)
  rw [exK_bytes] at ho6 HRD
  have HA6 := Lib.hid (HA5.out.below hb6.out)
  have HK6 := Lib.hid (HK.out.below hb6.out)
  have B6 := Lib.hid (ktr B5.out hb6.out)
  have HI6 := Lib.hid (HI5.out.below (hb6.out.mono (by have := HS5.out; omega)))
  have HJ6 := Lib.hid (HJ.out.below (hb6.out.mono (Nat.le_of_lt hKl)))
  have O6 := Lib.hid (own8_on O5.out hb6.out)
  have HKl6 := Lib.hid (Nat.lt_of_lt_of_le hKl hb6.out.size)
  clear HA5 HK B5 HI5 HJ O5 hb6 HH5 hKl
  go_wp2_with fail
  refine (kdec_any A6 [3, 6, 1, 0, 1, 5, 2, 1, 1] 9 c6 W6 rfl ho6.out.bytes ho6.out.none_cap (by omega)).mono ?_
  rintro e W7 h
  obtain ⟨H7, ch7, A7, cb7, P7, cp7, rfl, hm7, hb7⟩ := decK_some HRD.out h
  clear h
  have E7 : pkA exK H7 ch7 A7 cb7 P7 cp7 = #[.int .i64 3, .int .i64 6, .int .u64 1, .int .i64 0, .slice H7 1 ch7, .slice A7 0 cb7, .int .i64 0, .int .u64 0, .int .u64 0, .slice P7 0 cp7] := rfl
  rw [E7]
  have HA7 := Lib.hid (HA6.out.below hb7.out)
  have HK7 := Lib.hid (HK6.out.below hb7.out)
  have B7 := Lib.hid (ktr B6.out hb7.out)
  have HI7 := Lib.hid (HI6.out.below (hb7.out.mono (by have := HS5.out; have := HKl6.out; omega)))
  have HJ7 := Lib.hid (HJ6.out.below (hb7.out.mono (Nat.le_of_lt HKl6.out)))
  have O7 := Lib.hid (own8_on O6.out hb7.out)
  have Q7 := Lib.hid (own8_on ho6.out hb7.out)
  have HKl7 := Lib.hid (Nat.lt_of_lt_of_le HKl6.out hb7.out.size)
  clear HA6 HK6 B6 HI6 HJ6 O6 ho6 hb7 HKl6 E7 HRD
  have HX := Lib.hid (kbox_new (k := 3) (s := 6) (t := 1) (h := 0) (x := 0) (y := 0) (z := 0) (H := H7) (A := A7) (P := P7) (nh := 1) (ch := ch7) (n := 0) (cap := cb7) (np := 0) (cp := cp7) (w := W7) 31)
  have hb8 := kbelow_box W7 (.cells #[.int .i64 3, .int .i64 6, .int .u64 1, .int .i64 0, .slice H7 1 ch7, .slice A7 0 cb7, .int .i64 0, .int .u64 0, .int .u64 0, .slice P7 0 cp7] 31)
  have HA8 := Lib.hid (HA7.out.below hb8)
  have HK8 := Lib.hid (HK7.out.below hb8)
  have B8 := Lib.hid (ktr B7.out hb8)
  have HI8 := Lib.hid (HI7.out.below (hb8.mono (by have := HS5.out; have := HKl7.out; omega)))
  have HJ8 := Lib.hid (HJ7.out.below (hb8.mono (Nat.le_of_lt HKl7.out)))
  have O8 := Lib.hid (own8_on O7.out hb8)
  have Q8 := Lib.hid (own8_on Q7.out hb8)
  have M8 := Lib.hid (hm7.out.on hb8)
  have HKl8 := Lib.hid (Nat.lt_of_lt_of_le HKl7.out hb8.size)
  clear HA7 HK7 B7 HI7 HJ7 O7 Q7 hm7 hb8 HKl7
  obtain ⟨k0, k1, k2, k3, k4, k5, k6, k7, k8, k9⟩ := HA8.out
  go_wp2_with fail
  generalize W7.alloc (.cells #[.int .i64 3, .int .i64 6, .int .u64 1, .int .i64 0, .slice H7 1 ch7, .slice A7 0 cb7, .int .i64 0, .int .u64 0, .int .u64 0, .slice P7 0 cp7] 31) = W8 at *
  generalize W7.heap.size = xb at *
  refine (may_at (k := 1) (s := 0) (t := 0) (h := 0) (x := 1) (y := 2) (z := 5) (ch := 0) HI8.out (by have := HS5.out; have := HKl8.out; omega) (by decide) (by decide) (by omega) (by omega)).mono ?_
  rintro e W9 ⟨rfl, hb9⟩
  rw [decide_eq_true (show mayK (⟨1, (0, 0), 0, [], [], (1, 2), 5, [(2, 1), (3, 7)]⟩ : Pk) from exA_may)]
  have HK9 := Lib.hid (HK8.out.below hb9.out)
  have HX9 := Lib.hid (HX.out.below hb9.out)
  have B9 := Lib.hid (ktr B8.out hb9.out)
  have HJ9 := Lib.hid (HJ8.out.below (hb9.out.mono (Nat.le_of_lt HKl8.out)))
  have O9 := Lib.hid (own8_on O8.out hb9.out)
  have Q9 := Lib.hid (own8_on Q8.out hb9.out)
  have M9 := Lib.hid (M8.out.on hb9.out)
  have HKl9 := Lib.hid (Nat.lt_of_lt_of_le HKl8.out hb9.out.size)
  clear HA8 HK8 HX B8 HI8 HJ8 O8 Q8 M8 hb9 HKl8 k0 k1 k2 k3 k4 k5 k6 k7 k8 k9
  have c1 : Sem.run Try.prog (convert 26 9 (.slice A3 9 c3)) W9 = .ok (.string ⟨#[1, 1, 2, 5, 2, 2, 1, 3, 7]⟩) W9 := conv_str c3 O9.out.bytes rfl
  have c2 : Sem.run Try.prog (convert 26 9 (.slice A6 9 c6)) W9 = .ok (.string ⟨#[3, 6, 1, 0, 1, 5, 2, 1, 1]⟩) W9 := conv_str c6 Q9.out.bytes rfl
  have HS := Lib.hid (same_at (k := 3) (s := 6) (t := 1) (h := 0) (x := 0) (y := 0) (z := 0) (ch := ch7) (k' := 3) (s' := 6) (t' := 1) (h' := 0) (x' := 0) (y' := 0) (z' := 0) (ch' := 1) (show PIn W9 W9.heap.size [⟨5, 2, 1, 1⟩] [] [] H7 1 A7 0 cb7 P7 0 cp7 from M9.out.pin (by decide)) (HJ9.out.more (Nat.le_of_lt HKl9.out)) (Nat.le_refl _) (by omega) (by omega) (by omega))
  obtain ⟨k0, k1, k2, k3, k4, k5, k6, k7, k8, k9⟩ := HX9.out
  obtain ⟨j0, j1, j2, j3, j4, j5, j6, j7, j8, j9⟩ := HK9.out
  clear O9 Q9 M9 HJ9
  go_wp2_with fail
  refine HS.out.mono ?_
  rintro e W10 ⟨rfl, hb10⟩
  simp only [decide_true]
  go_wp2
  go_ret
  exact ⟨rfl, Lib.hid (ktr B9.out hb10.out)⟩
end Go.Proofs.Ytlcddfkhklmieaa
