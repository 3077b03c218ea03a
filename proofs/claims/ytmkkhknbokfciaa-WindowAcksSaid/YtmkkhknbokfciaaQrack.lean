/-
  The document's Acked. For senders of at most 2000 bodies of at most 1,000,000 bytes.
-/
import Derived.Test.YtmkkhknbokfciaaQackp
import Derived.Test.YtmkkhknbokfciaaQpush
import Derived.Test.YtmkkhknbokfciaaQown
namespace Go.Proofs.Ytmkkhknbokfciaa
set_option maxRecDepth 20000
open Go.RowKit

set_option maxHeartbeats 4000000 in
theorem rack_any (b : Nat) (A : Option Addr) (n c u : Nat) (ls : List (List UInt8)) (w : World) (hl : ls.length = n) (hi : Rws w w.heap.size A ls) (hr : n ≤ 2000) (hls : ∀ k, k < n → (bodK ls k).length ≤ 1000000) (hb : b < 18446744073709551616) (hu : u < 18446744073709551616) :
    Calls Try.prog 20 #[.agg #[.int .u64 (b : Int), .slice A n c], .int .u64 (u : Int)] w (RAckE w b ls u) := by
  have P1 : Hid (SRow w.heap.size (b : Int) A n c (w.alloc (.cells #[.int .u64 (b : Int), .slice A n c] 25))) := Lib.hid (qnew w _ _)
  have b1 := qbox w (.cells #[.int .u64 (b : Int), .slice A n c] 25)
  have R2 := Lib.hid (show SRow (w.alloc (.cells #[.int .u64 (b : Int), .slice A n c] 25)).heap.size 0 none 0 0 ((w.alloc (.cells #[.int .u64 (b : Int), .slice A n c] 25)).alloc (.cells #[.int .u64 0, .slice none 0 0] 25)) from qnew _ _ _)
  have b2 := qbox (w.alloc (.cells #[.int .u64 (b : Int), .slice A n c] 25)) (.cells #[.int .u64 0, .slice none 0 0] 25)
  have P2 := Lib.hid (P1.out.below b2)
  have B2 := Lib.hid (qtr b1 b2)
  have I2 := Lib.hid ((hi.below B2.out).more B2.out.size)
  have HL := Lib.hid hl
  have HLs := Lib.hid hls
  have es : (w.alloc (.cells #[.int .u64 (b : Int), .slice A n c] 25)).heap.size = w.heap.size + 1 := by simp
  rw [es] at R2
  have HQ1 : Hid (∀ A' c' w' e, ackOk b ls u → Rws w' w'.heap.size A' (ls.drop (u - b)) → Below w.heap.size w w' → e = .returned (.tuple #[.agg #[.int .u64 (u : Nat), .slice A' (n - (u - b)) c'], .bool true]) → RAckE w b ls u e w') := Lib.hid (fun A' c' w' e h ho hb he => rackE_yes h hl ho hb he)
  have HQ2 : Hid (∀ A' c' w' e, ¬ ackOk b ls u → Rws w' w'.heap.size A' ls → Below w.heap.size w w' → e = .returned (.tuple #[.agg #[.int .u64 (b : Nat), .slice A' n c'], .bool false]) → RAckE w b ls u e w') := Lib.hid (fun A' c' w' e h ho hb he => rackE_no h hl ho hb he)
  clear P1 b1 b2 hi hl es hls
  generalize RAckE w b ls u = Q0 at *
  go_enter Try.func20, Try.ntmps20
  obtain ⟨k0, k1⟩ := P2.out.box
  go_wp2_with fail
  generalize (w.alloc (.cells #[.int .u64 (b : Int), .slice A n c] 25)).alloc (.cells #[.int .u64 0, .slice none 0 0] 25) = W2 at *
  clear k0 k1
  refine (own_any b A n c ls W2 HL.out I2.out hr HLs.out).mono ?_
  rintro e W6 ⟨A6, c6, rfl, ho6, hb6⟩
  have R6 := Lib.hid (R2.out.below hb6.out)
  have P6 := Lib.hid (P2.out.below hb6.out)
  have B6 := Lib.hid (qtr B2.out hb6.out)
  have HW5 := Lib.hid (show w.heap.size + 1 < W2.heap.size from lt_of_heap R2.out)
  have O6 := Lib.hid (ho6.out.lower (show w.heap.size + 2 ≤ W2.heap.size by have := HW5.out; omega))
  clear R2 P2 B2 I2 ho6 hb6
  obtain ⟨p0, p1⟩ := P6.out.box
  have g0 := frozen_plain P6.out 0
  have g1 := frozen_plain P6.out 1
  have P7 := Lib.hid (show SRow w.heap.size b A6 n c6 _ from P6.out.set2 b A6 n c6)
  have o7 := only_two W6 w.heap.size (.int .u64 b) (.slice A6 n c6)
  have R7 := Lib.hid (R6.out.keep o7 (fun e => by omega))
  have O7 := Lib.hid (O6.out.keepRow P6.out o7)
  have B7 := Lib.hid (o7.below B6.out (fun j e => by omega) B6.out.size)
  clear R6 B6 O6 P6 o7
  go_wp2_with fail
  generalize (W6.setCell ⟨w.heap.size, 0, none⟩ (.int .u64 (b : Int))).setCell ⟨w.heap.size, 1, none⟩ (.slice A6 n c6) = W7 at *
  clear p0 p1 g0 g1
  have I7 := Lib.hid O7.out.rws
  have HC := Lib.hid O7.out.cap_le
  have HD := Lib.hid (dueS_le b ls)
  obtain ⟨d, hd⟩ : ∃ d, dueS b ls = d := ⟨_, rfl⟩
  rw [hd] at HD
  have HDd := Lib.hid hd
  clear hd
  go_loopw [6] (fun i wr => ∃ k, 1 ≤ k ∧ k ≤ d + 1 ∧ i = .int .i64 (k : Nat) ∧ Hid (Below W7.heap.size W7 wr) ∧ Hid (¬ (b < u ∧ u < b + k))) (fun i _ => d + 1 - (intOf i).toNat)
  case atStart => exact ⟨1, by omega, by omega, rfl, Lib.hid (Below.refl _ _), Lib.hid (by omega)⟩
  case round =>
    obtain ⟨k, hk1, hk, rfl, HW, HN⟩ := hrel
    have P8 := Lib.hid (P7.out.below HW.out)
    obtain ⟨k0, k1⟩ := P8.out.box
    have I8 := Lib.hid ((I7.out.below HW.out).more HW.out.size)
    have hd8 := HD.out
    go_wp2_with fail
    refine (rdue_any b n c6 A6 ls wr HL.out I8.out).mono ?_
    rintro e W9 ⟨rfl, hb9⟩
    rw [HDd.out]
    have P9 := Lib.hid (P8.out.below hb9.out)
    have HW9 := Lib.hid (qtr HW.out hb9.out)
    clear k0 k1 P8 I8 hb9 HW
    obtain ⟨k0, k1⟩ := P9.out.box
    have R9 := Lib.hid (R7.out.below HW9.out)
    have B9 := Lib.hid (qtr B7.out HW9.out)
    by_cases hlt : k ≤ d
    · have g5 : (k : Int) ≤ (d : Int) := by omega
      have hbn : d ≠ 0 := by omega
      have hmay : b ≤ 34359738367 := by
        by_cases hm : mayS b ls
        · have := hm.2.1; omega
        · exact absurd (HDd.out.symm.trans (dueS_not hm)) hbn
      have e4 : IntKind.u64.wrap (k : Int) = (k : Int) := wrapU (by omega) (by omega)
      have e5 : IntKind.u64.wrap ((b : Int) + (k : Int)) = (b : Int) + (k : Int) := wrapU (by omega) (by omega)
      by_cases hq : b + k = u
      · have q1 : ((b : Int) + (k : Int) == (u : Int)) = true := by rw [beq_iff_eq]; omega
        have hok : ackOk b ls u := ⟨by omega, by rw [HDd.out]; omega⟩
        have HOk := Lib.hid hok
        have hkk : u - b = k := by omega
        have HK := Lib.hid hkk
        obtain ⟨z0, z1⟩ := R9.out.box
        have f0 := frozen_plain R9.out 0
        have f1 := frozen_plain R9.out 1
        have g6 : (k : Int) ≤ (n : Int) := by have := HL.out; omega
        have g7 : (n : Int) ≤ (c6 : Int) := by have := HC.out; omega
        clear hq hok hkk hmay hbn hlt
        obtain ⟨A3, i1⟩ : ∃ A3, (if c6 = k then A6 else Option.map (fun x => x.add k) A6) = A3 := ⟨_, rfl⟩
        have HS8 := Lib.hid (R9.out.set2 u A3 (n - k) (c6 - k))
        have O8 := Lib.hid (only_two W9 (w.heap.size + 1) (.int .u64 u) (.slice A3 (n - k) (c6 - k)))
        have BE := Lib.hid (O8.out.below B9.out (fun j e => by omega) B9.out.size)
        have hcut7 : Rws ((W9.setCell ⟨w.heap.size + 1, 0, none⟩ (.int .u64 u)).setCell ⟨w.heap.size + 1, 1, none⟩ (.slice A3 (n - k) (c6 - k))) ((W9.setCell ⟨w.heap.size + 1, 0, none⟩ (.int .u64 u)).setCell ⟨w.heap.size + 1, 1, none⟩ (.slice A3 (n - k) (c6 - k))).heap.size A3 (ls.drop k) := by
          have h := cutA_rws (k := k) (((O7.out.on HW9.out).keepRow R9.out O8.out).rws) HL.out HC.out
          unfold cutA at h
          rw [i1] at h
          exact h
        have HC7 := Lib.hid hcut7
        clear hcut7
        go_wp2
        (try simp only [Exit.inBlock, Exit.then])
        refine bodyPost_ret (qres_tmp rfl _ _ (w.heap.size + 1) 25 #[.int .u64 u, .slice A3 (n - k) (c6 - k)] (0, 0) _ rfl HS8.out Try.underlying25 rfl (by kernel_rfl)) rfl ?_
        exact HQ1.out A3 (c6 - k) _ _ HOk.out (by rw [HK.out]; exact HC7.out) BE.out (by rw [HK.out]; rfl)
      · have q1 : ((b : Int) + (k : Int) == (u : Int)) = false := by rw [beq_eq_false_iff_ne]; omega
        have HN2 := Lib.hid (show ¬ (b < u ∧ u < b + (k + 1)) by have := HN.out; omega)
        clear hq hmay hbn
        go_wp2
        go_roundw
        case rel => exact ⟨k + 1, by omega, by omega, by go_num, HW9, HN2⟩
        case measure => simp [intOf]; omega
    · have g5 : ¬ (k : Int) ≤ (d : Int) := by omega
      have hno : ¬ ackOk b ls u := fun h => by
        have h1 := h.1
        have h2 := h.2
        rw [HDd.out] at h2
        have := HN.out
        omega
      have HNo := Lib.hid hno
      obtain ⟨z0, z1⟩ := R9.out.box
      have f0 := frozen_plain R9.out 0
      have f1 := frozen_plain R9.out 1
      have HS8 := Lib.hid (R9.out.set2 b A6 n c6)
      have O8 := Lib.hid (only_two W9 (w.heap.size + 1) (.int .u64 b) (.slice A6 n c6))
      have BE := Lib.hid (O8.out.below B9.out (fun j e => by omega) B9.out.size)
      have IE := Lib.hid ((O7.out.on HW9.out).keepRow R9.out O8.out)
      clear hno hlt
      go_wp2
      (try simp only [Exit.inBlock, Exit.then])
      refine bodyPost_ret (qres_tmp rfl _ _ (w.heap.size + 1) 25 #[.int .u64 b, .slice A6 n c6] (0, 0) _ rfl HS8.out Try.underlying25 rfl (by kernel_rfl)) rfl ?_
      exact HQ2.out A6 c6 _ _ HNo.out IE.out.rws BE.out rfl
end Go.Proofs.Ytmkkhknbokfciaa
