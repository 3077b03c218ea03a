/-
  Package window's numbered: an iterator over a sender's bodies, by their numbers. For senders whose numbers are below 2^63.
-/
import Derived.Test.YtmkkhknbokfciaaQset
import Derived.Test.YtmkkhknbokfciaaQrange
namespace Go.Proofs.Ytmkkhknbokfciaa
set_option maxRecDepth 20000
open Go.RowKit Go.Shelf
attribute [local go_sem] Oper.semAt_some
theorem wideDepth : Fence.wide.depth = none := rfl
theorem wideFn (f : FuncId) : Fence.wide.fn f = True := rfl
attribute [local go_sem] wideDepth wideFn

set_option maxHeartbeats 4000000 in
theorem numbered1_any (bx base : Nat) (A : Option Addr) (n c : Nat) (vals : Nat → Value) (R : Nat → Prop) (w : World) (hx : SBox bx (base : Int) A n c w) (hb : base + n < 9223372036854775808) (hA : 0 < n → ∃ b off, A = some ⟨b, off, none⟩ ∧ R b ∧ b < w.heap.size ∧ ∀ i, i < n → w.cell? ⟨b, off + i, none⟩ = some (vals i)) (hR : R bx) :
    SeqG Try.prog 39 #[.pointer (some ⟨bx, 0, none⟩)] n (fun i vs _ _ => vs = #[.int .u64 ((base + 1 + i : Nat) : Int), vals i]) R w := by
  intro l J Jx W hW _ _ hY h0
  have X1 := Lib.hid (hx.below hW)
  have HR := Lib.hid hR
  have HY := Lib.hid hY
  have HJ0 := Lib.hid h0
  have Hb := Lib.hid hb
  have HA : Hid (0 < n → ∃ b off, A = some ⟨b, off, none⟩ ∧ R b ∧ b < W.heap.size ∧ ∀ i, i < n → W.cell? ⟨b, off + i, none⟩ = some (vals i)) := Lib.hid (fun hn => by
    obtain ⟨b, off, e, h1, h2, h3⟩ := hA hn
    exact ⟨b, off, e, h1, Nat.lt_of_lt_of_le h2 hW.size, fun i hi => (hW.cell (p := ⟨b, off + i, none⟩) h2).trans (h3 i hi)⟩)
  have HXl := Lib.hid (World.block_lt_of_cell? _ _ X1.out.1)
  clear hx hb hA hR hY h0 hW
  refine callsIn_of_wp Try.func39 rfl trivial ?_ rfl
  simp only [Try.ntmps39, List.size_toArray, List.length_cons, List.length_nil, Nat.reduceAdd, Nat.reduceSub, Array.replicate_succ, Array.replicate_zero, List.push_toArray, List.append_toArray, List.nil_append, List.cons_append]
  obtain ⟨k0, k1⟩ := X1.out
  gi_wp2
  gi_loopw [8] (fun i wr => ∃ k, k ≤ n ∧ i = .int .i64 (k : Nat) ∧ Hid (J k wr) ∧ Hid (W.heap.size ≤ wr.heap.size ∧ ∀ j, R j → j < W.heap.size → wr.heap[j]? = W.heap[j]?)) (fun i _ => n - (intOf i).toNat)
  case atStart => exact ⟨0, Nat.zero_le _, rfl, HJ0, Lib.hid ⟨Nat.le_refl _, fun _ _ _ => rfl⟩⟩
  case round =>
    obtain ⟨k, hk, rfl, HJ, HK⟩ := hrel
    by_cases hlt : k < n
    · have g5 : (k : Int) < (n : Int) := by omega
      obtain ⟨b, off, rfl, hRb, hbl, hc⟩ := HA.out (by omega)
      have hcell : wr.cell? ⟨b, off + k, none⟩ = some (vals k) := (World.cell?_of_block (w := W) (HK.out.2 b hRb hbl)).trans (hc k hlt)
      have q0 : wr.cell? ⟨bx, 0, none⟩ = some (.int .u64 (base : Int)) := (World.cell?_of_block (w := W) (HK.out.2 bx HR.out HXl.out)).trans k0
      have e1 : IntKind.u64.wrap ((base : Int) + 1) = (base : Int) + 1 := wrapU (by omega) (by have := Hb.out; omega)
      have e2 : IntKind.u64.wrap (k : Int) = (k : Int) := wrapU (by omega) (by have := Hb.out; omega)
      have e3 : IntKind.u64.wrap ((base : Int) + 1 + (k : Int)) = (base : Int) + 1 + (k : Int) := wrapU (by omega) (by have := Hb.out; omega)
      have hy0 := HY.out k #[.int .u64 ((base + 1 + k : Nat) : Int), vals k] wr.heap.size wr hlt HK.out.1 HK.out.1 HJ.out rfl
      have e4 : ((base + 1 + k : Nat) : Int) = (base : Int) + 1 + (k : Int) := by omega
      rw [e4] at hy0
      obtain ⟨fn, tmps, assign, body, hy, hR2⟩ := hy0
      clear e4 hRb hbl hc
      generalize vals k = vk at *
      gi_wp2
      refine hR2.mono ?_
      have HJ1 := HJ
      clear HJ HY HA
      rintro e W4 (⟨rfl, hJ4, hk4⟩ | ⟨rfl, hJx, _⟩)
      · have HJ4 := Lib.hid hJ4
        have HK4 := Lib.hid (show W.heap.size ≤ W4.heap.size ∧ ∀ j, R j → j < W.heap.size → W4.heap[j]? = W.heap[j]? from
          ⟨Nat.le_trans HK.out.1 hk4.size, fun j hj hlt => (hk4.same j hj (by have := HK.out.1; omega) (by have := HK.out.1; omega)).trans (HK.out.2 j hj hlt)⟩)
        have := Hb.out
        clear hJ4 hk4
        gi_wp2
        go_roundw
        case rel => exact ⟨k + 1, by omega, by go_num, HJ4, HK4⟩
        case measure => simp [intOf]; omega
      · have HJx := Lib.hid hJx
        clear hJx
        gi_wp2
        refine bodyPost_ret (results_none rfl _ _ _) rfl ?_
        exact ⟨⟨_, rfl⟩, .inr ⟨k, hlt, HJx.out⟩⟩
    · obtain rfl : k = n := by omega
      have g5 : ¬ (k : Int) < (k : Int) := by omega
      gi_wp2
      go_end0
      exact ⟨⟨_, rfl⟩, .inl HJ.out⟩
set_option maxHeartbeats 1000000 in
/-- Package window's numbered: the sender's box, and the iterator's value. -/
theorem numbered_any (base : Nat) (A : Option Addr) (n c : Nat) (w : World) :
    Calls Try.prog 38 #[.agg #[.int .u64 (base : Int), .slice A n c]] w fun e w' => e = .returned (.func (.func 39) #[] #[.pointer (some ⟨w.heap.size, 0, none⟩)]) ∧ SBox w.heap.size (base : Int) A n c w' ∧ Hid (Below w.heap.size w w') ∧ Hid (w'.heap.size = w.heap.size + 1) := by
  have X1 := Lib.hid (sbox_new w (base : Int) A n c 25)
  have B1 := Lib.hid (qbox w (.cells #[.int .u64 (base : Int), .slice A n c] 25))
  go_enter Try.func38, Try.ntmps38
  go_wp2
  go_ret
  exact ⟨rfl, X1.out, B1, Lib.hid (by simp)⟩
end Go.Proofs.Ytmkkhknbokfciaa
