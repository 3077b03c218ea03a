/-
  Whether a sender has more than is looked at. For rows of at most 2^40 bodies.
-/
import Derived.Test.YtmkkhknbokfciaaQset
namespace Go.Proofs.Ytmkkhknbokfciaa
set_option maxRecDepth 20000
open Go.RowKit

set_option maxHeartbeats 4000000 in
theorem long7_any (b : Nat) (A : Option Addr) (n c : Nat) (ls : List (List UInt8)) (w : World) (hl : ls.length = n) (hi : Rws w w.heap.size A ls) (hbig : ∀ k, k < n → (bodK ls k).length ≤ 9223372036854775807) :
    Calls Try.prog 10 #[.agg #[.int .u64 (b : Int), .slice A n c]] w fun e w' => e = .returned (.bool (decide (longS ls))) ∧ Hid (Below w.heap.size w w') := by
  have X1 := Lib.hid (sbox_new w (b : Int) A n c 25)
  have B1 := Lib.hid (qbox w (.cells #[.int .u64 (b : Int), .slice A n c] 25))
  have I1 := Lib.hid (hi.below B1.out)
  have HL := Lib.hid hl
  have HBig := Lib.hid hbig
  generalize hd : decide (longS ls) = r
  have HD := Lib.hid hd
  clear hd hi hl hbig
  go_enter Try.func10, Try.ntmps10
  obtain ⟨k0, k1⟩ := X1.out
  go_wp2_with fail
  generalize w.alloc (.cells #[.int .u64 (b : Int), .slice A n c] 25) = W1 at *
  go_loopw [3, 4] (fun s i wr => ∃ k x : Nat, k ≤ n ∧ s = .int .i64 (x : Nat) ∧ i = .int .i64 (k : Nat) ∧ Hid (wr = W1) ∧ Hid (x = wgts (ls.take k) ∧ x ≤ 2000)) (fun _ i _ => n - (intOf i).toNat)
  case atStart => exact ⟨0, 0, Nat.zero_le _, rfl, rfl, Lib.hid rfl, Lib.hid ⟨rfl, by omega⟩⟩
  case round =>
    obtain ⟨k, x, hk, rfl, rfl, HW, HX⟩ := hrel
    obtain rfl := HW.out
    have hk2 : k ≤ 2000 := by have h1 := wgts_ge (ls.take k); rw [List.length_take, HL.out] at h1; have := HX.out; omega
    by_cases hlt : k < n
    · have g5 : (k : Int) < (n : Int) := by omega
      obtain ⟨bb, off, rfl, hbl, hc⟩ := I1.out (by rw [HL.out]; omega)
      obtain ⟨A', c', hcell, hn', hby⟩ := hc k (by rw [HL.out]; exact hlt)
      have HG := Lib.hid (wgts_succ (ls := ls) (k := k) (by rw [HL.out]; exact hlt))
      have HT := Lib.hid (wgts_take_le ls (k + 1))
      have HBk := HBig.out k hlt
      clear hbl hc hn' hby
      unfold wgt at HG
      generalize (bodK ls k).length = m at *
      obtain ⟨q, hq⟩ : ∃ q, q = m / 64 := ⟨_, rfl⟩
      have e1 : IntKind.i64.wrap ((m : Int) / 64) = (q : Int) := by
        have : (m : Int) / 64 = (q : Int) := by omega
        rw [this]
        exact IntWalk.i64_in _ (by omega)
      have hx := HX.out
      have e2 : wrap64 (1 + (q : Int)) = 1 + (q : Int) := IntWalk.wrap64_in _ (by omega)
      have e3 : wrap64 ((x : Int) + (1 + (q : Int))) = (x : Int) + (1 + (q : Int)) := IntWalk.wrap64_in _ (by omega)
      have HQ := Lib.hid hq
      clear hx HBk hq
      by_cases hb : 2000 < x + (1 + q)
      · have g6 : (2000 : Int) < (x : Int) + (1 + (q : Int)) := by omega
        have hr : r = true := by rw [← HD.out]; exact decide_eq_true (by unfold longS; have := HG.out; have := HT.out; have := HX.out.1; have := HQ.out; omega)
        subst hr
        clear HD
        go_wp2
        go_ret
        exact ⟨rfl, B1⟩
      · have g6 : (x : Int) + (1 + (q : Int)) ≤ 2000 := by omega
        clear hb
        go_wp2
        go_roundw
        case rel => exact ⟨k + 1, x + (1 + q), by omega, by simp, by go_num, Lib.hid (by trivial), Lib.hid (by have := HG.out; have := HX.out.1; have := HQ.out; omega)⟩
        case measure => simp [intOf]; omega
    · obtain rfl : k = n := by omega
      have g5 : ¬ (k : Int) < (k : Int) := by omega
      have hr : r = false := by rw [← HD.out]; exact decide_eq_false (by unfold longS; have := HX.out; rw [← HL.out, List.take_length] at this; omega)
      subst hr
      clear HD
      go_wp2
      go_ret
      exact ⟨rfl, B1⟩
end Go.Proofs.Ytmkkhknbokfciaa
