/-
  Package packet's small questions: lives that packets may have, servers, numbers above 0, heads of data and of acks. For lives whose numbers are unsigned.
-/
import Derived.Test.YtlcddfkhklmieaaKmayp
import Derived.Test.YtlcddfkhklmieaaKmem
import Derived.Test.YtlcddfkhklmieaaKsmall
namespace Go.Proofs.Ytlcddfkhklmieaa
set_option maxRecDepth 20000
open Go.RowKit

set_option maxHeartbeats 1000000 in
theorem islife_any (p : Life) (hp : 0 ≤ p.2) (w : World) :
    Calls Try.prog 47 #[lifeV p] w fun e w' => e = .returned (.bool (decide (lifeK p))) ∧ Hid (Below w.heap.size w w') := by
  obtain ⟨x, y⟩ := p
  have R := Lib.hid (life_row w x y 24)
  have B1 := Lib.hid (kbelow_box w (.cells #[.int .i64 x, .int .u64 y] 24))
  have HM := Lib.hid (fun W => may_any (x, y) hp W)
  generalize hd : decide (lifeK (x, y)) = r
  have HD := Lib.hid hd
  clear hd
  go_enter Try.func47, Try.ntmps47
  go_wp2_with fail
  generalize w.alloc (.cells #[.int .i64 x, .int .u64 y] 24) = W1 at *
  refine (HM.out W1).mono ?_
  rintro e W2 ⟨rfl, hb2⟩
  have R2 := Lib.hid ((hb2.out.block _ (lt_of_heap R.out)).trans R.out)
  have B2 := Lib.hid (ktr B1.out hb2.out)
  have p0 := cell_plain R2.out 0
  have p1 := cell_plain R2.out 1
  simp only [List.getElem?_toArray, List.getElem?_cons_zero, List.getElem?_cons_succ] at p0 p1
  clear R B1 hb2 HM
  by_cases hm : mayL (x, y)
  · rw [decide_eq_true hm]
    have : r = decide (y ≤ 34359738367) := by rw [← HD.out, Bool.eq_iff_iff, decide_eq_true_iff, decide_eq_true_iff]; exact ⟨fun h => by have := h.2; simp only at this; omega, fun h => ⟨hm, by simp only; omega⟩⟩
    subst this
    clear HD
    go_wp2
    go_ret
    exact ⟨rfl, B2⟩
  · rw [decide_eq_false hm]
    have : r = false := by rw [← HD.out]; exact decide_eq_false (fun h => hm h.1)
    subst this
    clear HD
    go_wp2
    go_ret
    exact ⟨rfl, B2⟩
set_option maxHeartbeats 1000000 in
theorem isserver_any (p : Life) (hp : 0 ≤ p.2) (w : World) :
    Calls Try.prog 45 #[lifeV p] w fun e w' => e = .returned (.bool (decide (srvK p))) ∧ Hid (Below w.heap.size w w') := by
  obtain ⟨x, y⟩ := p
  have R := Lib.hid (life_row w x y 24)
  have B1 := Lib.hid (kbelow_box w (.cells #[.int .i64 x, .int .u64 y] 24))
  have HM := Lib.hid (fun W => islife_any (x, y) hp W)
  generalize hd : decide (srvK (x, y)) = r
  have HD := Lib.hid hd
  clear hd
  go_enter Try.func45, Try.ntmps45
  go_wp2_with fail
  generalize w.alloc (.cells #[.int .i64 x, .int .u64 y] 24) = W1 at *
  refine (HM.out W1).mono ?_
  rintro e W2 ⟨rfl, hb2⟩
  have R2 := Lib.hid ((hb2.out.block _ (lt_of_heap R.out)).trans R.out)
  have B2 := Lib.hid (ktr B1.out hb2.out)
  have p0 := cell_plain R2.out 0
  have p1 := cell_plain R2.out 1
  simp only [List.getElem?_toArray, List.getElem?_cons_zero, List.getElem?_cons_succ] at p0 p1
  clear R B1 hb2 HM
  by_cases hm : lifeK (x, y)
  · rw [decide_eq_true hm]
    have : r = decide (x ≤ 4) := by rw [← HD.out, Bool.eq_iff_iff, decide_eq_true_iff, decide_eq_true_iff]; exact ⟨fun h => h.2, fun h => ⟨hm, h⟩⟩
    subst this
    clear HD
    go_wp2
    go_ret
    exact ⟨rfl, B2⟩
  · rw [decide_eq_false hm]
    have : r = false := by rw [← HD.out]; exact decide_eq_false (fun h => hm h.1)
    subst this
    clear HD
    go_wp2
    go_ret
    exact ⟨rfl, B2⟩
theorem iscount_any (x : Nat) (w : World) :
    Calls Try.prog 46 #[.int .u64 (x : Int)] w fun e w' => e = .returned (.bool (decide (countK x))) ∧ w = w' := by
  generalize hr : decide (countK x) = r
  have HD := Lib.hid hr
  clear hr
  by_cases h1 : (0 : Int) < (x : Int)
  · by_cases h2 : (x : Int) ≤ 34359738367
    · have : r = true := by rw [← HD.out]; exact decide_eq_true (by unfold countK cnt; omega)
      subst this
      go_enter Try.func46, Try.ntmps46
      go_wp2
      go_ret
      exact ⟨by first | rfl | simp_all, rfl⟩
    · have : r = false := by rw [← HD.out]; exact decide_eq_false (by unfold countK cnt; omega)
      subst this
      have h3 : decide ((x : Int) ≤ 34359738367) = false := decide_eq_false h2
      go_enter Try.func46, Try.ntmps46
      go_wp2
      go_ret
      exact ⟨by first | rfl | exact congrArg (fun b => Ending.returned (.bool b)) h3 | simp_all, rfl⟩
  · have : r = false := by rw [← HD.out]; exact decide_eq_false (by unfold countK; omega)
    subst this
    have h3 : decide ((0 : Int) < (x : Int)) = false := decide_eq_false h1
    go_enter Try.func46, Try.ntmps46
    go_wp2
    go_ret
    exact ⟨by first | rfl | exact congrArg (fun b => Ending.returned (.bool b)) h3 | simp_all, rfl⟩
def hdV (h : Hd) : Value := .agg #[.int .i64 h.dst, .int .u64 (h.conn : Int), .int .u64 (h.seq : Int), .int .u64 (h.inc : Int)]
set_option maxHeartbeats 1000000 in
theorem maydata_any (d : Int) (c q i : Nat) (w : World) :
    Calls Try.prog 23 #[.agg #[.int .i64 d, .int .u64 (c : Int), .int .u64 (q : Int), .int .u64 (i : Int)]] w fun e w' => e = .returned (.bool (decide (hdOk false ⟨d, c, q, i⟩))) ∧ Hid (Below w.heap.size w w') := by
  have R := Lib.hid (hbox_new w d c q i 51)
  have B1 := Lib.hid (kbelow_box w (.cells #[.int .i64 d, .int .u64 (c : Int), .int .u64 (q : Int), .int .u64 (i : Int)] 51))
  have HC := Lib.hid (fun W => iscount_any c W)
  have HQ := Lib.hid (fun W => iscount_any q W)
  generalize hd : decide (hdOk false ⟨d, c, q, i⟩) = r
  have HD := Lib.hid hd
  clear hd
  obtain ⟨p0, p1, p2, p3⟩ := R.out
  go_enter Try.func23, Try.ntmps23
  go_wp2_with fail
  refine (HC.out _).mono ?_
  rintro e W2 ⟨rfl, rfl⟩
  by_cases h1 : countK c
  · rw [decide_eq_true h1]
    go_wp2_with fail
    refine (HQ.out _).mono ?_
    rintro e W2 ⟨rfl, rfl⟩
    by_cases h2 : countK q
    · rw [decide_eq_true h2]
      have : r = ((i : Int) == 0) := by
        rw [← HD.out, Bool.eq_iff_iff, decide_eq_true_iff, beq_iff_eq]
        unfold hdOk
        simp only [Bool.false_eq_true, if_false]
        exact ⟨fun h => by omega, fun h => ⟨h1, h2, by omega⟩⟩
      subst this
      clear HD h1 h2
      go_wp2
      go_ret
      exact ⟨rfl, B1⟩
    · rw [decide_eq_false h2]
      have : r = false := by rw [← HD.out]; exact decide_eq_false (fun h => by unfold hdOk at h; simp only [Bool.false_eq_true, if_false] at h; exact h2 h.2.1)
      subst this
      clear HD h1 h2
      go_wp2
      go_ret
      exact ⟨rfl, B1⟩
  · rw [decide_eq_false h1]
    have : r = false := by rw [← HD.out]; exact decide_eq_false (fun h => by unfold hdOk at h; simp only [Bool.false_eq_true, if_false] at h; exact h1 h.1)
    subst this
    clear HD h1
    go_wp2
    go_ret
    exact ⟨rfl, B1⟩
set_option maxHeartbeats 1000000 in
theorem mayack_any (d : Int) (c q i : Nat) (w : World) :
    Calls Try.prog 24 #[.agg #[.int .i64 d, .int .u64 (c : Int), .int .u64 (q : Int), .int .u64 (i : Int)]] w fun e w' => e = .returned (.bool (decide (hdOk true ⟨d, c, q, i⟩))) ∧ Hid (Below w.heap.size w w') := by
  have R := Lib.hid (hbox_new w d c q i 51)
  have B1 := Lib.hid (kbelow_box w (.cells #[.int .i64 d, .int .u64 (c : Int), .int .u64 (q : Int), .int .u64 (i : Int)] 51))
  have HC := Lib.hid (fun W => iscount_any c W)
  have HQ := Lib.hid (fun W => iscount_any i W)
  generalize hd : decide (hdOk true ⟨d, c, q, i⟩) = r
  have HD := Lib.hid hd
  clear hd
  obtain ⟨p0, p1, p2, p3⟩ := R.out
  go_enter Try.func24, Try.ntmps24
  by_cases h2 : (q : Int) ≤ 34359738367
  · have h2b : decide ((q : Int) ≤ 34359738367) = true := decide_eq_true h2
    go_wp2_with fail
    refine (HC.out _).mono ?_
    rintro e W2 ⟨rfl, rfl⟩
    by_cases h1 : countK c
    · rw [decide_eq_true h1]
      go_wp2_with fail
      refine (HQ.out _).mono ?_
      rintro e W2 ⟨rfl, rfl⟩
      have : r = decide (countK i) := by
        rw [← HD.out, Bool.eq_iff_iff, decide_eq_true_iff, decide_eq_true_iff]
        unfold hdOk
        simp only [if_true]
        exact ⟨fun h => h.2.2, fun h => ⟨h1, by unfold cnt; omega, h⟩⟩
      subst this
      clear HD h1
      go_wp2
      go_ret
      exact ⟨rfl, B1⟩
    · rw [decide_eq_false h1]
      have : r = false := by rw [← HD.out]; exact decide_eq_false (fun h => by unfold hdOk at h; simp only [if_true] at h; exact h1 h.1)
      subst this
      clear HD h1
      go_wp2
      go_ret
      exact ⟨rfl, B1⟩
  · have h2b : decide ((q : Int) ≤ 34359738367) = false := decide_eq_false h2
    have : r = false := by rw [← HD.out]; exact decide_eq_false (fun h => by unfold hdOk cnt at h; simp only [if_true] at h; omega)
    subst this
    go_wp2_with fail
    refine (HC.out _).mono ?_
    rintro e W2 ⟨rfl, rfl⟩
    clear HD
    by_cases h1 : countK c
    · rw [decide_eq_true h1]
      clear h1
      go_wp2
      go_ret
      exact ⟨by first | rfl | simp_all, B1⟩
    · rw [decide_eq_false h1]
      clear h1
      go_wp2
      go_ret
      exact ⟨by first | rfl | simp_all, B1⟩
end Go.Proofs.Ytlcddfkhklmieaa
