/-
  Package window's Due: what it answers. No condition but that a row's length is no more than its room.
-/
import Derived.Test.YtmkkhknbokfciaaQseq
namespace Go.Proofs.Ytmkkhknbokfciaa
set_option maxRecDepth 20000
open Go.RowKit Go.Shelf

theorem seqG_on {P : Program} {g : Nat} {lb : Array Value} {k : Nat} {E : Nat → Array Value → Nat → World → Prop} {R : Nat → Prop} {w w' : World} (h : SeqG P g lb k E R w) (hb : Below w.heap.size w w') : SeqG P g lb k E R w' :=
  fun l J Jx W hW => h l J Jx W (qtr hb hW)
/-- What Due answers; the blocks that a round must leave alone are those that are there when it answers, and the iterator's. -/
def DueFX (w : World) (b : Nat) (ls : List (List UInt8)) (e : Ending) (w' : World) : Prop :=
  ∃ p b', e = .returned (.func (.func 37) #[] #[.pointer (some ⟨p, 0, none⟩)]) ∧ Hid (DueSeqX b' (dueL b ls) p w.heap.size w'.heap.size w') ∧ Hid (p < w'.heap.size) ∧ Hid (mayS b ls → b' = b) ∧ Hid (Below w.heap.size w w')
set_option maxHeartbeats 4000000 in
theorem wduex_any (b n c : Nat) (A : Option Addr) (ls : List (List UInt8)) (w : World) (hl : ls.length = n) (hi : Rws w w.heap.size A ls) (hc : n ≤ c) :
    Calls Try.prog 17 #[.agg #[.int .u64 (b : Int), .slice A n c]] w (DueFX w b ls) := by
  have X1 := Lib.hid (sbox_new w (b : Int) A n c 25)
  have B1 := Lib.hid (qbox w (.cells #[.int .u64 (b : Int), .slice A n c] 25))
  have I1 := Lib.hid ((hi.below B1.out).more B1.out.size)
  have HL := Lib.hid hl
  have HC := Lib.hid hc
  have HQ : Hid (∀ e w', (∃ p b', e = .returned (.func (.func 37) #[] #[.pointer (some ⟨p, 0, none⟩)]) ∧ Hid (DueSeqX b' (dueL b ls) p w.heap.size w'.heap.size w') ∧ Hid (p < w'.heap.size) ∧ Hid (mayS b ls → b' = b) ∧ Hid (Below w.heap.size w w')) → DueFX w b ls e w') := Lib.hid (fun e w' h => h)
  clear hi hl hc
  generalize DueFX w b ls = Q0 at *
  go_enter Try.func17, Try.ntmps17
  obtain ⟨k0, k1⟩ := X1.out
  go_wp2_with fail
  generalize w.alloc (.cells #[.int .u64 (b : Int), .slice A n c] 25) = W1 at *
  clear k0 k1
  refine (due_any b n c A ls W1 HL.out I1.out HC.out).mono ?_
  rintro e W2 ⟨hcase, hb2⟩
  have B2 := Lib.hid (qtr B1.out hb2.out)
  have I2 := Lib.hid ((I1.out.below hb2.out).more hb2.out.size)
  have HW := Lib.hid (show w.heap.size ≤ W2.heap.size from B2.out.size)
  clear hb2
  have key : ∀ (b' : Nat) (A' : Option Addr) (c' : Nat) (W4 W5 : World), (mayS b ls → b' = b) → b' + dueS b ls < 9223372036854775808 → (∀ k, k < dueS b ls → 1 ≤ (bodK (dueL b ls) k).length ∧ (bodK (dueL b ls) k).length ≤ 1000000) → ORws W4 W2.heap.size A' (dueS b ls) c' (dueL b ls) → Below W2.heap.size W2 W4 → W5 = W4.alloc (.cells #[.int .u64 (b' : Int), .slice A' (dueS b ls) c'] 25) → Q0 (.returned (.func (.func 37) #[] #[.pointer (some ⟨W4.heap.size, 0, none⟩)])) W5 := by
    rintro b' A' c' W4 _ h1 h2 h3 h4 h5 rfl
    have h6 := qbox W4 (.cells #[.int .u64 (b' : Int), .slice A' (dueS b ls) c'] 25)
    have hs : w.heap.size ≤ W4.heap.size := Nat.le_trans HW.out h5.size
    exact HQ.out _ _ ⟨W4.heap.size, b', rfl, Lib.hid (due1x_any W4.heap.size b' w.heap.size A' (dueS b ls) c' (dueL b ls) _ (sbox_new W4 _ _ _ _ _) hs h2 ((h4.lower HW.out).on h6) h3 (Nat.le_trans hs h6.size)), Lib.hid (by simp), Lib.hid h1, Lib.hid (qtr (qtr B2.out h5) h6)⟩
  rcases hcase with ⟨hm, rfl⟩ | ⟨hm, rfl⟩
  · have hsm := mayS_small hm
    have hd := dueS_le b ls
    have I3 := Lib.hid (show Rws W2 W2.heap.size A (dueL b ls) from I2.out.front _)
    have H3 := Lib.hid (show ∀ k, k < dueS b ls → 1 ≤ (bodK (dueL b ls) k).length ∧ (bodK (dueL b ls) k).length ≤ 1000000 from fun k hk => by
      have hkn : k < ls.length := by omega
      have e : bodK (dueL b ls) k = bodK ls k := bodK_take hk
      rw [e]
      have := hm.2.2 _ (bodK_mem hkn)
      omega)
    have H4 := Lib.hid (show b + dueS b ls < 9223372036854775808 by have := hm.2.1; omega)
    have HD := Lib.hid (dueL_length b ls)
    have HD8 := Lib.hid hd.1
    clear hm hsm hd I1 I2
    have key2 := Lib.hid key
    clear key
    generalize dueL b ls = ds at *
    generalize dueS b ls = d at *
    go_wp2_with fail
    refine (copied_any b A d c ds W2 HD.out I3.out (by have := HD8.out; omega) (fun k hk => (H3.out k hk).2)).mono ?_
    rintro e W4 ⟨A', c', rfl, ho, hb4⟩
    go_wp2
    exact key2.out b A' c' W4 _ (fun _ => rfl) H4.out H3.out ho.out hb4.out rfl
  · have H0 := Lib.hid (dueS_not hm)
    have HL0 := Lib.hid (show dueL b ls = [] by unfold dueL; rw [H0.out]; rfl)
    have key2 := Lib.hid key
    clear key
    rw [HL0.out, H0.out] at key2
    have HM := Lib.hid hm
    clear hm I1 I2 H0 HL0
    go_wp2_with fail
    refine (copied_any 0 none 0 0 [] W2 rfl Rws.nil_ (by omega) (fun k hk => absurd hk (by omega))).mono ?_
    rintro e W4 ⟨A', c', rfl, ho, hb4⟩
    go_wp2
    exact key2.out 0 A' c' W4 _ (fun h => absurd h HM.out) (by omega) (fun k hk => absurd hk (by omega)) ho.out hb4.out rfl
/-- What Due answers. -/
def DueFE (w : World) (b : Nat) (ls : List (List UInt8)) (e : Ending) (w' : World) : Prop :=
  ∃ p b', e = .returned (.func (.func 37) #[] #[.pointer (some ⟨p, 0, none⟩)]) ∧ Hid (DueSeq b' (dueL b ls) p w.heap.size w') ∧ Hid (p < w'.heap.size) ∧ Hid (mayS b ls → b' = b) ∧ Hid (Below w.heap.size w w')
theorem wdue_any (b n c : Nat) (A : Option Addr) (ls : List (List UInt8)) (w : World) (hl : ls.length = n) (hi : Rws w w.heap.size A ls) (hc : n ≤ c) :
    Calls Try.prog 17 #[.agg #[.int .u64 (b : Int), .slice A n c]] w (DueFE w b ls) :=
  (wduex_any b n c A ls w hl hi hc).mono fun _ _ ⟨p, b', e, h1, h2, h3, h4⟩ => ⟨p, b', e, Lib.hid (dueSeq_of h1.out h4.out.size), h2, h3, h4⟩
end Go.Proofs.Ytmkkhknbokfciaa
