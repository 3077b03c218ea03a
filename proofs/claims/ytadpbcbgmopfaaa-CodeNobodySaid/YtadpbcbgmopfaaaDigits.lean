/-
  What the document's own digits do: they are the number's to that base, the lowest first, in new memory. No condition but a base of two at least.
-/
import Derived.Test.YtadpbcbgmopfaaaWrs
namespace Go.Proofs.Ytadpbcbgmopfaaa
open Go.RowKit

/-- The digits of x to base b + 2, the lowest first, one at least. -/
def digL (b x : Nat) : List Nat := if x < b + 2 then [x] else x % (b + 2) :: digL b (x / (b + 2))
termination_by x
decreasing_by
  rename_i h
  exact Nat.div_lt_self (by omega) (by omega)
theorem digL_last {b x : Nat} (h : x < b + 2) : digL b x = [x] := by rw [digL, if_pos h]
theorem digL_more {b x : Nat} (h : ¬ x < b + 2) : digL b x = x % (b + 2) :: digL b (x / (b + 2)) := by rw [digL, if_neg h]
def nv (l : List Nat) : List Value := l.map fun (n : Nat) => .int .u64 ((n : Nat) : Int)
theorem nv_length (l : List Nat) : (nv l).length = l.length := by simp [nv]
theorem nv_append (a b : List Nat) : nv (a ++ b) = nv a ++ nv b := by simp [nv]
theorem nv_get {l : List Nat} {k : Nat} (h : k < l.length) : (nv l)[k]? = some (.int .u64 ((l.getD k 0 : Nat) : Int)) := by simp [nv, List.getD, h]
/-- A slice of numbers that the program itself made. -/
def Own64 (w : World) (base : Nat) (A : Option Addr) (n cap : Nat) (l : List Nat) : Prop := w.ownsRow base 29 1 (.slice A n cap) n (nv l)
theorem Own64.len {w : World} {base n cap : Nat} {A : Option Addr} {l : List Nat} (h : Own64 w base A n cap l) : l.length = n := by
  have := h.1
  simpa [nv_length] using this
theorem Own64.nums {w : World} {base n cap : Nat} {A : Option Addr} {l : List Nat} (h : Own64 w base A n cap l) : Nums w w.heap.size A l := fun hn => by
  have hl := h.len
  rcases h.2 with ⟨hv, hx⟩ | ⟨g, c, cur, hv, hb, hh, _⟩
  · rw [hx] at hl; omega
  · have hv' : A = some ⟨g, 0, none⟩ ∧ n = n ∧ cap = c := by simpa using hv
    obtain ⟨rfl, -, rfl⟩ := hv'
    refine ⟨g, 0, rfl, lt_of_heap hh, fun k hk => ?_⟩
    have hc := h.cells (g := g) rfl k _ (nv_get hk)
    rw [add_mk] at hc
    exact hc
theorem own64_value {w : World} {base n : Nat} {v : Value} {xs : List Value} (h : w.ownsRow base 29 1 v n xs) : ∃ A cap, v = .slice A n cap := by
  rcases h.2 with ⟨hv, hx⟩ | ⟨g, c, cur, hv, _⟩
  · refine ⟨none, 0, ?_⟩
    rw [hx]
    exact hv
  · exact ⟨_, _, hv⟩
theorem Try.infoU64 : (Try.prog.info? 29).map (fun i => (i.zero, i.size, i.bytes)) = some (some (.int .u64 0), 1, 8) := by kernel_rfl
theorem digL_len (k b x : Nat) (h : x < 2 ^ (k + 1)) : (digL b x).length ≤ k + 1 := by
  induction k generalizing x with
  | zero => rw [digL_last (by omega)]; simp
  | succ k ih =>
    by_cases h1 : x < b + 2
    · rw [digL_last h1]; simp
    · rw [digL_more h1]
      have h2 : x / (b + 2) ≤ x / 2 := Nat.div_le_div_left (by omega) (by omega)
      have := ih (x / (b + 2)) (by rw [Nat.pow_succ] at h; omega)
      simp; omega
def DigRel (w : World) (b x : Nat) (v o : Value) (wr : World) : Prop :=
  ∃ y pre A cap, v = .int .u64 ((y : Nat) : Int) ∧ y ≤ x ∧ Hid (pre ++ digL b y = digL b x) ∧ o = .slice A (pre.length + 1) cap ∧ Hid (Own64 wr w.heap.size A (pre.length + 1) cap (pre ++ [y % (b + 2)])) ∧ Hid (Below w.heap.size w wr)
def DigE (w : World) (l : List Nat) (e : Ending) (w' : World) : Prop := ∃ A cap, e = .returned (.slice A l.length cap) ∧ Hid (Nums w' w'.heap.size A l) ∧ Hid (Below w.heap.size w w')

set_option maxHeartbeats 800000 in
theorem digits_any (x b : Nat) (w : World) (hx : x < 18446744073709551616) (hb : b ≤ 1000) :
    Calls Try.prog 66 #[.int .u64 (x : Int), .int .u64 ((b + 2 : Nat) : Int)] w (DigE w (digL b x)) := by
  obtain ⟨i0, hi0, hz0, hz1, hz2⟩ := info_parts Try.infoU64
  have HLE := Lib.hid (digL_len 63 b x (by omega))
  have HX := Lib.hid hx
  clear hx
  obtain ⟨B, hB⟩ : ∃ B, b + 2 = B := ⟨_, rfl⟩
  have HB := Lib.hid hB
  have hB1 : 2 ≤ B := by omega
  have hB2 : B ≤ 1002 := by omega
  rw [hB]
  clear hB hb
  have HS := Lib.hid (World.ownsRow_lit (base := w.heap.size) (e := 29) (size := 1) w #[.int .u64 ((x : Int) % (B : Int))] 1 (Nat.le_refl _) (by unfold maxLen; omega) rfl)
  go_enter Try.func66, Try.ntmps66
  go_wp2_with fail
  go_loopw [0, 5] (fun v o wr => DigRel w b x v o wr) (fun v _ _ => (intOf v).toNat)
  case atStart =>
    refine ⟨x, [], some ⟨w.heap.size, 0, none⟩, 1, rfl, Nat.le_refl _, rfl, rfl, ?_, Lib.hid ((Below.refl _ _).alloc (Nat.le_refl _) _)⟩
    rw [HB.out]
    have h := HS.out
    rw [← Int.natCast_emod] at h
    exact h
  case round =>
    obtain ⟨y, pre, A, cap, rfl, hyx, hpre, rfl, ho, hbw⟩ := hrel
    have hn := Lib.hid (show pre.length + (digL b y).length ≤ 64 by
      have h1 := congrArg List.length hpre.out
      have h2 := HLE.out
      rw [List.length_append] at h1
      omega)
    by_cases hlt : y < B
    · have hlt' : ¬ (B : Int) ≤ (y : Int) := by omega
      have HE := Lib.hid (show pre ++ [y % (b + 2)] = digL b x by rw [HB.out, Nat.mod_eq_of_lt hlt, ← hpre.out, digL_last (by rw [HB.out]; exact hlt)])
      go_wp2
      go_ret
      have ho' := ho.out
      rw [HE.out] at ho'
      have hl := ho'.len
      exact ⟨A, cap, by rw [hl]; rfl, ho'.nums, hbw⟩
    · have hlt' : (B : Int) ≤ (y : Int) := by omega
      have HE := Lib.hid (show (pre ++ [y % (b + 2)]) ++ digL b (y / B) = digL b x by rw [← hpre.out, digL_more (x := y) (by rw [HB.out]; exact hlt), HB.out]; simp)
      have C1 := Lib.hid (World.ownsRow.alloc ho.out (.cells #[.int .u64 ((y : Int) / (B : Int) % (B : Int))] 29))
      have C2 := Lib.hid (cell_one_new wr (.int .u64 ((y : Int) / (B : Int) % (B : Int))) 29)
      have C3 := Lib.hid (hbw.out.alloc hbw.out.size (.cells #[.int .u64 ((y : Int) / (B : Int) % (B : Int))] 29))
      have hp : pre.length + 1 + 1 ≤ 65 := by
        have h1 := hn.out
        have h2 : 0 < (digL b y).length := by rw [digL_more (by rw [HB.out]; exact hlt)]; simp
        omega
      have C4 := Lib.hid (show pre.length + 1 + 1 ≤ maxLen by unfold maxLen; omega)
      have C5 := Lib.hid (show w.heap.size ≤ (wr.alloc (.cells #[.int .u64 ((y : Int) / (B : Int) % (B : Int))] 29)).heap.size by have := hbw.out.size; simp; omega)
      have C6 := Lib.hid (World.ownsRow.lt ho.out)
      have C7 := Lib.hid (show (pre.length + 1 + 1) * 8 ≤ 140737488355328 by omega)
      have hm := Lib.hid (show y / B < y from Nat.div_lt_self (by omega) (by omega))
      have hyB : (0 : Int) ≤ (y : Int) / (B : Int) := Int.ediv_nonneg (by omega) (by omega)
      have ew : IntKind.u64.wrap ((y : Int) / (B : Int)) = (y : Int) / (B : Int) := IntWalk.u64_in _ ⟨hyB, by
        have h1 := HX.out
        have h2 : (y : Int) / (B : Int) ≤ (y : Int) := Int.ediv_le_self _ (by omega)
        omega⟩
      go_wp2_with (at_builtin; refine wpList_append_own_at _ rfl (.tmp 16) (.tmp 20) 22 rfl w.heap.size 29 i0 _ 1 8 Try.underlying22 hi0 hz0 hz1 hz2 rfl (by omega) (.slice A (pre.length + 1) cap) (pre.length + 1) (nv (pre ++ [y % (b + 2)])) rfl C1.out ⟨wr.heap.size, 0, none⟩ 1 1 [.int .u64 ((y : Int) / (B : Int) % (B : Int))] rfl rfl C2.out (by simp [Value.oneCell']) C4.out C7.out C5.out ?_)
      intro v' w1 hown hg _ _
      have hb3 : Hid (Below w.heap.size w w1) := Lib.hid (C3.out.grown hg C5.out (fun j hj => (C6.out j hj).1))
      obtain ⟨A3, cap3, rfl⟩ := own64_value hown
      have ho3 : Hid (Own64 w1 w.heap.size A3 ((pre ++ [y % (b + 2)]).length + 1) cap3 ((pre ++ [y % (b + 2)]) ++ [y / B % (b + 2)])) := Lib.hid (by
        unfold Own64
        rw [nv_append, List.length_append, HB.out]
        rw [← Int.natCast_ediv, ← Int.natCast_emod, HB.out] at hown
        exact hown)
      clear hown hg C1 C2 C3 C4 C5 C6 C7
      go_wp2
      go_roundw
      case rel => exact ⟨y / B, pre ++ [y % (b + 2)], A3, cap3, by rw [Int.natCast_ediv], by have := hm.out; omega, HE, by rw [List.length_append]; rfl, ho3, hb3⟩
      case measure => have := hm.out; rw [← Int.natCast_ediv]; simp [intOf]; omega
end Go.Proofs.Ytadpbcbgmopfaaa
