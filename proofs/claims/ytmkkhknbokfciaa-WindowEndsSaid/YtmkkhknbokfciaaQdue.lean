/-
  How many of a sender's bodies are due, by package window's due, last and by the document's Due. No condition.
-/
import Derived.Test.YtmkkhknbokfciaaQmay
namespace Go.Proofs.Ytmkkhknbokfciaa
set_option maxRecDepth 20000
open Go.RowKit

set_option maxHeartbeats 4000000 in
theorem last_any (b n c : Nat) (A : Option Addr) (w : World) (h : b + n ≤ 34359738367) :
    Calls Try.prog 30 #[.agg #[.int .u64 (b : Int), .slice A n c]] w fun e w' => e = .returned (.int .u64 ((b + n : Nat) : Int)) ∧ Hid (Below w.heap.size w w') := by
  have X1 := Lib.hid (sbox_new w (b : Int) A n c 25)
  have B1 := Lib.hid (qbox w (.cells #[.int .u64 (b : Int), .slice A n c] 25))
  have e4 : IntKind.u64.wrap (n : Int) = (n : Int) := wrapU (by omega) (by omega)
  have e3 : IntKind.u64.wrap ((b : Int) + (n : Int)) = ((b + n : Nat) : Int) := by rw [wrapU (by omega) (by omega)]; simp
  clear h
  go_enter Try.func30, Try.ntmps30
  obtain ⟨k0, k1⟩ := X1.out
  go_wp2
  go_ret
  exact ⟨rfl, B1⟩

set_option maxHeartbeats 4000000 in
theorem rdue_any (b n c : Nat) (A : Option Addr) (ls : List (List UInt8)) (w : World) (hl : ls.length = n) (hi : Rws w w.heap.size A ls) :
    Calls Try.prog 18 #[.agg #[.int .u64 (b : Int), .slice A n c]] w fun e w' => e = .returned (.int .i64 ((dueS b ls : Nat) : Int)) ∧ Hid (Below w.heap.size w w') := by
  have X1 := Lib.hid (sbox_new w (b : Int) A n c 25)
  have B1 := Lib.hid (qbox w (.cells #[.int .u64 (b : Int), .slice A n c] 25))
  have I1 := Lib.hid ((hi.below B1.out).more B1.out.size)
  have HL := Lib.hid hl
  clear hi hl
  obtain ⟨d, hd⟩ : ∃ d, dueS b ls = d := ⟨_, rfl⟩
  rw [hd]
  have HD := Lib.hid hd
  clear hd
  go_enter Try.func18, Try.ntmps18
  obtain ⟨k0, k1⟩ := X1.out
  go_wp2_with fail
  refine (rmay7_any b A n c ls _ HL.out I1.out).mono ?_
  rintro e W2 ⟨rfl, hb⟩
  have k2 := qold k1 hb.out
  have B2 := Lib.hid (qtr B1.out hb.out)
  clear k0 k1 hb
  by_cases hm : mayS b ls
  · rw [decide_eq_true hm]
    have e := HD.out
    rw [dueS_may hm, HL.out] at e
    clear hm
    by_cases h8 : n ≤ 8
    · obtain rfl : d = n := by omega
      have g8 : (d : Int) ≤ 8 := by omega
      clear e h8 HD HL
      go_wp2
      go_ret
      exact ⟨rfl, B2⟩
    · obtain rfl : d = 8 := by omega
      have g8 : ¬ (n : Int) ≤ 8 := by omega
      clear e h8 HD HL
      go_wp2
      go_ret
      exact ⟨rfl, B2⟩
  · rw [decide_eq_false hm]
    have e : d = 0 := by have := HD.out; rw [dueS_not hm] at this; omega
    subst e
    clear hm
    go_wp2
    go_ret
    exact ⟨rfl, B2⟩

/-- What package window's due answers. -/
def DueE (w : World) (b : Nat) (A : Option Addr) (c : Nat) (ls : List (List UInt8)) (e : Ending) (w' : World) : Prop :=
  ((mayS b ls ∧ e = .returned (.agg #[.int .u64 (b : Int), .slice A (dueS b ls) c])) ∨ (¬ mayS b ls ∧ e = .returned (.agg #[.int .u64 0, .slice none 0 0]))) ∧ Hid (Below w.heap.size w w')
set_option maxHeartbeats 4000000 in
theorem due_any (b n c : Nat) (A : Option Addr) (ls : List (List UInt8)) (w : World) (hl : ls.length = n) (hi : Rws w w.heap.size A ls) (hc : n ≤ c) :
    Calls Try.prog 36 #[.agg #[.int .u64 (b : Int), .slice A n c]] w (DueE w b A c ls) := by
  have X1 := Lib.hid (sbox_new w (b : Int) A n c 25)
  have b1 := qbox w (.cells #[.int .u64 (b : Int), .slice A n c] 25)
  have R2 := Lib.hid (show SRow (w.alloc (.cells #[.int .u64 (b : Int), .slice A n c] 25)).heap.size 0 none 0 0 ((w.alloc (.cells #[.int .u64 (b : Int), .slice A n c] 25)).alloc (.cells #[.int .u64 0, .slice none 0 0] 25)) from qnew _ _ _)
  have b2 := qbox (w.alloc (.cells #[.int .u64 (b : Int), .slice A n c] 25)) (.cells #[.int .u64 0, .slice none 0 0] 25)
  have X2 := Lib.hid (X1.out.below b2)
  have B2 := Lib.hid (qtr b1 b2)
  have I2 := Lib.hid ((hi.below B2.out).more B2.out.size)
  have HL := Lib.hid hl
  have es : (w.alloc (.cells #[.int .u64 (b : Int), .slice A n c] 25)).heap.size = w.heap.size + 1 := by simp
  rw [es] at R2
  have HS := Lib.hid (show w.heap.size < w.heap.size + 1 by omega)
  clear X1 b1 b2 hi hl es
  obtain ⟨d, hd⟩ : ∃ d, dueS b ls = d := ⟨_, rfl⟩
  have HD := Lib.hid hd
  have HQ : Hid (∀ e w', ((mayS b ls ∧ e = .returned (.agg #[.int .u64 (b : Int), .slice A d c])) ∨ (¬ mayS b ls ∧ e = .returned (.agg #[.int .u64 0, .slice none 0 0]))) → Below w.heap.size w w' → DueE w b A c ls e w') := Lib.hid (fun e w' h hb => ⟨by rw [hd]; exact h, Lib.hid hb⟩)
  clear hd
  generalize DueE w b A c ls = R at *
  go_enter Try.func36, Try.ntmps36
  obtain ⟨k0, k1⟩ := X2.out
  go_wp2_with fail
  generalize (w.alloc (.cells #[.int .u64 (b : Int), .slice A n c] 25)).alloc (.cells #[.int .u64 0, .slice none 0 0] 25) = W2 at *
  clear k0 k1
  refine (smay_any b A n c ls _ HL.out I2.out).mono ?_
  rintro e W3 ⟨rfl, hb⟩
  have X3 := Lib.hid (X2.out.below hb.out)
  have R3 := Lib.hid (R2.out.below hb.out)
  have B3 := Lib.hid (qtr B2.out hb.out)
  clear X2 R2 hb
  obtain ⟨z0, z1⟩ := R3.out.box
  have f0 := frozen_plain R3.out 0
  have f1 := frozen_plain R3.out 1
  by_cases hm : mayS b ls
  · rw [decide_eq_true hm]
    have e := HD.out
    rw [dueS_may hm, HL.out] at e
    have HM := Lib.hid hm
    clear hm HD
    obtain ⟨k0, k1⟩ := X3.out
    by_cases h8 : n ≤ 8
    · obtain rfl : d = n := by omega
      have g8 : (d : Int) ≤ 8 := by omega
      have g1 : (d : Int) ≤ (c : Int) := by omega
      clear e h8
      have HS8 := Lib.hid (R3.out.set2 b A d c)
      have O8 := Lib.hid (Only.undrew (only_two W3.drew (w.heap.size + 1) (.int .u64 b) (.slice A d c)))
      clear HL
      go_wp2_with fail
      go_region
      all_goals
        go_wp2
        (try simp only [Exit.inBlock, Exit.then])
        refine bodyPost_ret (results_cell_row rfl _ _ (w.heap.size + 1) 25 #[.int .u64 b, .slice A d c] (0, 0) _ rfl HS8.out Try.underlying25 rfl (by kernel_rfl)) rfl ?_
        exact HQ.out _ _ (.inl ⟨HM.out, rfl⟩) (O8.out.below B3.out (fun j e => by have := HS.out; omega) B3.out.size)
    · obtain rfl : d = 8 := by omega
      have g8 : ¬ (n : Int) ≤ 8 := by omega
      have g1 : (8 : Int) ≤ (c : Int) := by omega
      clear e h8
      have HS8 := Lib.hid (R3.out.set2 b A 8 c)
      have O8 := Lib.hid (Only.undrew (only_two W3.drew (w.heap.size + 1) (.int .u64 b) (.slice A 8 c)))
      clear HL
      go_wp2_with fail
      go_region
      all_goals
        go_wp2
        (try simp only [Exit.inBlock, Exit.then])
        refine bodyPost_ret (results_cell_row rfl _ _ (w.heap.size + 1) 25 #[.int .u64 b, .slice A 8 c] (0, 0) _ rfl HS8.out Try.underlying25 rfl (by kernel_rfl)) rfl ?_
        exact HQ.out _ _ (.inl ⟨HM.out, rfl⟩) (O8.out.below B3.out (fun j e => by have := HS.out; omega) B3.out.size)
  · rw [decide_eq_false hm]
    have HM := Lib.hid hm
    clear hm
    have HS8 := Lib.hid (R3.out.set2 0 none 0 0)
    have O8 := Lib.hid (only_two W3 (w.heap.size + 1) (.int .u64 0) (.slice none 0 0))
    go_wp2
    (try simp only [Exit.inBlock, Exit.then])
    refine bodyPost_ret (results_cell_row rfl _ _ (w.heap.size + 1) 25 #[.int .u64 0, .slice none 0 0] (0, 0) _ rfl HS8.out Try.underlying25 rfl (by kernel_rfl)) rfl ?_
    exact HQ.out _ _ (.inr ⟨HM.out, rfl⟩) (O8.out.below B3.out (fun j e => by have := HS.out; omega) B3.out.size)
end Go.Proofs.Ytmkkhknbokfciaa
