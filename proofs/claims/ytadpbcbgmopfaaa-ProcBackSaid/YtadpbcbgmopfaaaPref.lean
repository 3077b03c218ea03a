/-
  The document's answers on lists of lives: whether a life is among a list's, whether two lists are the same, whether one is a set. For lists of at most 2^40 lives.
-/
import Derived.Test.YtadpbcbgmopfaaaPcmp
import Derived.Test.YtadpbcbgmopfaaaPeq
namespace Go.Proofs.Ytadpbcbgmopfaaa
set_option maxRecDepth 20000
open Go.RowKit

theorem eq_run (x1 x2 y1 y2 : Int) (w : World) : Sem.run Try.prog (binOp .eql 70 (.agg #[.int .i64 x1, .int .u64 x2]) (.agg #[.int .i64 y1, .int .u64 y2])) w = .ok (.bool (decide (((x1, x2) : Life) = (y1, y2)))) w := eqP.1 (x1, x2) (y1, y2) w
theorem ne_run (x1 x2 y1 y2 : Int) (w : World) : Sem.run Try.prog (binOp .neq 70 (.agg #[.int .i64 x1, .int .u64 x2]) (.agg #[.int .i64 y1, .int .u64 y2])) w = .ok (.bool (!decide (((x1, x2) : Life) = (y1, y2)))) w := neP.1 (x1, x2) (y1, y2) w
theorem guard_run (op : BinOp) (a b : Operand) (x1 x2 y1 y2 : Int) (w : World) : Sem.run Try.prog (eqGuard op 70 a b (.agg #[.int .i64 x1, .int .u64 x2]) (.agg #[.int .i64 y1, .int .u64 y2])) w = .ok () w := eqP.2 op a b (x1, x2) (y1, y2) w
/-- The two cells of the life at place k. -/
theorem Lives.at_ {w : World} {B : Nat} {A : Option Addr} {l : List Life} (h : Lives w B A l) {k : Nat} (hk : k < l.length) : ∃ b off, A = some ⟨b, off, none⟩ ∧ b < B ∧ w.cell? ⟨b, off + k * 2, none⟩ = some (.int .i64 (atL l k).1) ∧ w.cell? ⟨b, off + k * 2 + 1, none⟩ = some (.int .u64 (atL l k).2) := by
  obtain ⟨b, off, e, hb, hc⟩ := h (by omega)
  exact ⟨b, off, e, hb, (hc k hk).1, (hc k hk).2⟩
theorem mem_upto {l : List Life} {p : Life} : (∀ j, j < l.length → atL l j ≠ p) ↔ p ∉ l := by
  constructor
  · intro h hm
    obtain ⟨j, hj, e⟩ := List.getElem_of_mem hm
    exact h j hj (by rw [atL_lt hj]; exact e)
  · intro h j hj e
    exact h (by rw [← e]; exact atL_mem hj)
set_option maxHeartbeats 1000000 in
theorem rhas_any (A : Option Addr) (l : List Life) (n c : Nat) (p : Life) (w : World) (h : Lives w w.heap.size A l) (hn : l.length = n) (hb : n ≤ 1099511627776) :
    Calls Try.prog 49 #[.slice A n c, lifeV p] w fun e w' => e = .returned (.bool (decide (p ∈ l))) ∧ Hid (Below w.heap.size w w') := by
  have B1 := Lib.hid ((Below.refl w.heap.size w).alloc (Nat.le_refl _) (.cells #[.int .i64 p.1, .int .u64 p.2] 70))
  have k1 := cell_at_new w #[.int .i64 p.1, .int .u64 p.2] 70 0 _ rfl
  have k2 := cell_at_new w #[.int .i64 p.1, .int .u64 p.2] 70 1 _ rfl
  obtain ⟨p1, p2⟩ := p
  simp only at B1 k1 k2
  generalize hr : decide (((p1, p2) : Life) ∈ l) = r
  have HR := Lib.hid hr
  clear hr
  have HL := Lib.hid h
  have HN := Lib.hid hn
  clear h hn
  go_enter Try.func49, Try.ntmps49
  go_wp2_with fail
  generalize w.alloc (.cells #[.int .i64 p1, .int .u64 p2] 70) = W2 at *
  generalize hB : w.heap.size = B at k1 k2 ⊢
  have HB := Lib.hid hB
  clear hB
  go_loopw [5] (fun i wr => ∃ k q : Nat, k ≤ n ∧ i = .int .i64 k ∧ wr = W2.drewN q ∧ Hid (∀ j, j < k → atL l j ≠ (p1, p2))) (fun i _ => n - (intOf i).toNat)
  case atStart => exact ⟨0, 0, Nat.zero_le _, rfl, rfl, Lib.hid fun j hj => absurd hj (Nat.not_lt_zero _)⟩
  case round =>
    obtain ⟨k, q, hk, rfl, rfl, hall⟩ := hrel
    by_cases hlt : k < n
    · obtain ⟨b, off, rfl, hbb, hc1, hc2⟩ := (HL.out.below B1.out).at_ (k := k) (by rw [HN.out]; exact hlt)
      have g0 : (0 : Int) ≤ (k : Int) := by omega
      have g1 : (k : Int) < (n : Int) := by omega
      have he := fun w => eq_run (atL l k).1 (atL l k).2 p1 p2 w
      have hg := fun op a b w => guard_run op a b (atL l k).1 (atL l k).2 p1 p2 w
      have HE := Lib.hid (show ((atL l k).1, (atL l k).2) = atL l k from rfl)
      generalize (atL l k).1 = x1 at *
      generalize (atL l k).2 = x2 at *
      by_cases hx : ((x1, x2) : Life) = (p1, p2)
      · have HX := Lib.hid hx
        rw [decide_eq_true hx] at he
        clear hx
        go_wp2_with fail
        go_quiet (fail)
        go_wp2
        go_ret
        refine ⟨?_, Lib.hid (by rw [World.drewN_drewN]; exact (B1.out.trans (Below.refl _ _)) |> fun h => ⟨h.os, h.tape, h.output, h.size, h.block⟩)⟩
        have : ((p1, p2) : Life) ∈ l := by
          rw [← HX.out, HE.out]
          exact atL_mem (by rw [HN.out]; exact hlt)
        rw [← HR.out, decide_eq_true this]
        rfl
      · have HX := Lib.hid hx
        rw [decide_eq_false hx] at he
        clear hx
        go_wp2_with fail
        go_quiet (fail)
        go_wp2
        go_roundw
        case rel => exact ⟨k + 1, q + nq, by omega, by go_num, rfl, Lib.hid fun j hj e => by
          by_cases hjk : j = k
          · subst hjk
            exact HX.out (by rw [HE.out, e])
          · exact hall.out j (by omega) e⟩
        case measure => simp [intOf]; omega
    · obtain rfl : k = n := by omega
      have g1 : ¬ (k : Int) < (k : Int) := by omega
      go_wp2
      go_ret
      refine ⟨?_, Lib.hid ⟨B1.out.os, B1.out.tape, B1.out.output, B1.out.size, B1.out.block⟩⟩
      have : ((p1, p2) : Life) ∉ l := mem_upto.1 (by rw [HN.out]; exact hall.out)
      rw [← HR.out, decide_eq_false this]
      rfl
end Go.Proofs.Ytadpbcbgmopfaaa
