/-
  What a Reader's look at a wide number does. For at most 2^46 bytes.
-/
import Derived.Test.YtadpbcbgmopfaaaRds
import Derived.Deep.RegionLaw
namespace Go.Proofs.Ytadpbcbgmopfaaa
open Go.RowKit

theorem Only.drew_left {S : Nat → Prop} {w w' : World} (h : Only S w.drew w') : Only S w w' := ⟨h.os, h.tape, h.output, h.size, h.block⟩
/-- Eight bytes, by value. -/
def agg8 (l : List UInt8) : Array Value := #[.int .u8 (at8 l 0 : Nat), .int .u8 (at8 l 1 : Nat), .int .u8 (at8 l 2 : Nat), .int .u8 (at8 l 3 : Nat), .int .u8 (at8 l 4 : Nat), .int .u8 (at8 l 5 : Nat), .int .u8 (at8 l 6 : Nat), .int .u8 (at8 l 7 : Nat)]
theorem agg8_eq {l : List UInt8} (h : l.length = 8) : (bv l).toArray = agg8 l := by
  match l, h with
  | [a, b, c, d, e, f, g, i], _ => rfl
theorem index8_at (x0 x1 x2 x3 x4 x5 x6 x7 : Int) (w : World) : ∀ k, k < 8 → (Instr.index 128 (.agg #[.int .u8 x0, .int .u8 x1, .int .u8 x2, .int .u8 x3, .int .u8 x4, .int .u8 x5, .int .u8 x6, .int .u8 x7]) (.int .i64 (k : Nat))).run Try.prog w = .ok (.int .u8 ([x0, x1, x2, x3, x4, x5, x6, x7].getD k 0)) w
  | 0, _ => by kernel_rfl
  | 1, _ => by kernel_rfl
  | 2, _ => by kernel_rfl
  | 3, _ => by kernel_rfl
  | 4, _ => by kernel_rfl
  | 5, _ => by kernel_rfl
  | 6, _ => by kernel_rfl
  | 7, _ => by kernel_rfl
  | n + 8, h => absurd h (by omega)
set_option maxRecDepth 10000 in
theorem index8 (l : List UInt8) (w : World) (k : Nat) (hk : k < 8) : (Instr.index 128 (.agg (agg8 l)) (.int .i64 (k : Int))).run Try.prog w = .ok (.int .u8 ((at8 l k : Nat) : Int)) w := by
  have h := index8_at (at8 l 0 : Nat) (at8 l 1 : Nat) (at8 l 2 : Nat) (at8 l 3 : Nat) (at8 l 4 : Nat) (at8 l 5 : Nat) (at8 l 6 : Nat) (at8 l 7 : Nat) w k hk
  unfold agg8
  rw [h]
  congr 2
  match k, hk with
  | 0, _ => rfl
  | 1, _ => rfl
  | 2, _ => rfl
  | 3, _ => rfl
  | 4, _ => rfl
  | 5, _ => rfl
  | 6, _ => rfl
  | 7, _ => rfl
  | n + 8, h => exact absurd h (by omega)
/-- The eight bytes out of which a wide number is read. -/
def wideF (s : RS) (n : Nat) : List UInt8 := if s.l.length < n then List.replicate 8 0 else s.l.take n ++ List.replicate (8 - n) 0
theorem wideF_length (s : RS) (n : Nat) (hn : n ≤ 8) : (wideF s n).length = 8 := by
  unfold wideF
  split
  · simp
  · simp; omega
theorem numLE_zeros (n k : Nat) : numLE (List.replicate n 0) k = 0 := by
  induction k with
  | zero => rfl
  | succ k ih =>
    rw [numLE, ih]
    have : ((List.replicate n (0 : UInt8)).getD k 0).toNat = 0 := by
      simp only [List.getD, List.getElem?_replicate]
      split <;> rfl
    rw [this]; simp
theorem numLE_front (l r : List UInt8) (k : Nat) (hk : k ≤ l.length) : numLE (l ++ r) k = numLE l k := by
  induction k with
  | zero => rfl
  | succ k ih =>
    rw [numLE, numLE, ih (by omega)]
    congr 2
    simp only [List.getD]
    rw [List.getElem?_append_left (by omega)]
theorem numLE_pad (l : List UInt8) (n k : Nat) : numLE (l ++ List.replicate n 0) (l.length + k) = numLE l l.length := by
  induction k with
  | zero => exact numLE_front l _ _ (Nat.le_refl _)
  | succ k ih =>
    rw [show l.length + (k + 1) = (l.length + k) + 1 by omega, numLE, ih]
    have : ((l ++ List.replicate n (0 : UInt8)).getD (l.length + k) 0).toNat = 0 := by
      simp only [List.getD]
      rw [List.getElem?_append_right (by omega)]
      simp only [List.getElem?_replicate]
      split <;> rfl
    rw [this]; simp
theorem wide_worth (s : RS) (n : Nat) (hn : n ≤ 8) (hb : s.bad = false) : (rWide s n).1 = numLE (wideF s n) 8 := by
  unfold rWide wideF
  by_cases h : s.l.length < n
  · rw [if_pos (.inr h), if_pos h, numLE_zeros]
  · rw [if_neg (by rw [hb]; simpa using h), if_neg h]
    have e : (s.l.take n).length = n := by rw [List.length_take]; omega
    have := numLE_pad (s.l.take n) (8 - n) (8 - n)
    rw [e, show n + (8 - n) = 8 by omega] at this
    exact this.symm

/-- What take answers to a wide number: xs, k of them, at A. -/
def TakeE (w : World) (q : Nat) (d : Option Nat) (s' : RS) (k : Nat) (xs : List UInt8) (e : Ending) (w' : World) : Prop :=
  ∃ A, e = .returned (.slice A k k) ∧ Hid (Rd RdT w' q d s'.l s'.bad) ∧ Hid (Bytes w' w'.heap.size A xs) ∧ Hid (Only (fun k => k = q) w w')
theorem take_wide (q : Nat) (d : Option Nat) (s : RS) (n : Nat) (hn : n ≤ 8) (hb : s.bad = false) : ∃ k xs, xs.length = k ∧ k ≤ 8 ∧ xs ++ List.replicate (8 - k) 0 = wideF s n ∧
    ∀ w, Rd RdT w q d s.l false → Calls Try.prog 78 #[.pointer (some ⟨q, 0, none⟩), .int .i64 (n : Int)] w (TakeE w q d (rWide s n).2 k xs) := by
  by_cases h : s.l.length < n
  · refine ⟨0, [], rfl, by omega, by unfold wideF; rw [if_pos h]; rfl, fun w hR => ?_⟩
    rw [show rWide s n = (0, ⟨s.l, true⟩) from if_pos (.inr h)]
    refine (take_no q d s.l false n w hR (.inr (by omega))).mono ?_
    rintro e w1 ⟨rfl, h1, h2⟩
    exact ⟨none, rfl, h1, Bytes.nil_, h2⟩
  · refine ⟨n, s.l.take n, by rw [List.length_take]; omega, hn, by unfold wideF; rw [if_neg h], fun w hR => ?_⟩
    rw [show rWide s n = (numLE (s.l.take n) n, ⟨s.l.drop n, false⟩) from if_neg (by rw [hb]; simpa using h)]
    refine (take_ok q d s.l false n w hR (by omega)).mono ?_
    rintro e w1 ⟨A, rfl, h1, h2, h3, h4⟩
    exact ⟨A, rfl, h1, h2.out.bytes, h4⟩
theorem last_step (n x k : Nat) (hk : k < 8) (hn : n < 2 ^ (8 * k)) (hx : x < 256) :
    bits .or .u64 (n : Int) ((x : Int) * 2 ^ (8 * k) % 18446744073709551616) = ((n + x * 2 ^ (8 * k) : Nat) : Int) := by
  have hp : (2 : Nat) ^ (8 * k) ≤ 2 ^ 56 := Nat.pow_le_pow_right (by omega) (by omega)
  have hm : x * 2 ^ (8 * k) ≤ 255 * 2 ^ 56 := Nat.mul_le_mul (by omega) hp
  have h2 : (x : Int) * 2 ^ (8 * k) = ((x * 2 ^ (8 * k) : Nat) : Int) := by simp
  rw [h2]
  have h3 : ((x * 2 ^ (8 * k) : Nat) : Int) % 18446744073709551616 = ((x * 2 ^ (8 * k) : Nat) : Int) := by omega
  rw [h3, u64_or_nat _ _ (by omega) (by omega), or_place hn]
theorem splice8 {xs : List UInt8} {k : Nat} (hx : xs.length = k) : splice (bv (List.replicate 8 0)) 0 (bv xs) = bv (xs ++ List.replicate (8 - k) 0) := by
  subst hx
  unfold splice
  rw [bv_append, Nat.zero_add, bv_length, List.take_zero, List.nil_append]
  congr 1
  simp only [bv, List.map_replicate, List.drop_replicate]

set_option maxRecDepth 100000 in
set_option maxHeartbeats 800000 in
theorem wide_any (q : Nat) (d : Option Nat) (s : RS) (n : Nat) (w : World) (hn : n ≤ 8) (h : Rd RdT w q d s.l s.bad) :
    Calls Try.prog 94 #[.pointer (some ⟨q, 0, none⟩), .int .i64 (n : Int)] w (RdE RdT w q d (.int .u64 ((rWide s n).1 : Nat)) (rWide s n).2) := by
  have H := Lib.hid h
  clear h
  cases hbad : s.bad with
  | true =>
    have HR := Lib.hid (show rWide s n = (0, ⟨s.l, true⟩) from if_pos (.inl hbad))
    rw [hbad] at H
    have HE := Lib.hid (err_bad q d s.l w H.out)
    clear hbad
    go_enter Try.func94, Try.ntmps94
    go_wp2_with fail
    refine HE.out.mono ?_
    rintro e w1 ⟨rfl, rfl⟩
    go_wp2
    go_ret
    exact ⟨by rw [HR.out]; rfl, by rw [HR.out]; exact H, Only.refl _ _⟩
  | false =>
    rw [hbad] at H
    have HE := Lib.hid (err_ok q d s.l w H.out)
    obtain ⟨k, xs, hxk, hk8, hxs, hT⟩ := take_wide q d s n hn hbad
    have HXK := Lib.hid hxk
    have HXS := Lib.hid hxs
    have HT := Lib.hid hT
    have HWW := Lib.hid (wide_worth s n hn hbad)
    have HWL := Lib.hid (wideF_length s n hn)
    clear hxk hxs hT hbad
    obtain ⟨W1, hW1⟩ : ∃ W1, w.alloc (.cells #[.int .u8 0, .int .u8 0, .int .u8 0, .int .u8 0, .int .u8 0, .int .u8 0, .int .u8 0, .int .u8 0] 128) = W1 := ⟨_, rfl⟩
    have HW := Lib.hid hW1
    have ho1 : Hid (Only (fun k => k = q) w W1) := Lib.hid (by rw [← hW1]; exact (Only.refl _ _).alloc _)
    have hb1 : Hid (W1.heap[w.heap.size]? = some (.cells (bv (List.replicate 8 0)).toArray 128 (0, 0))) := Lib.hid (by rw [← hW1]; exact heap_alloc_new w _)
    have hR1 : Hid (Rd RdT W1 q d s.l false) := Lib.hid (by rw [← hW1]; exact H.out.keep (S := fun _ => False) ((Only.refl _ _).alloc _) (fun h => h) (fun _ _ h => h))
    have hgq : Hid (w.heap.size ≠ q) := Lib.hid (by have := H.out.lt; omega)
    clear hW1
    go_enter Try.func94, Try.ntmps94
    go_wp2_with fail
    refine HE.out.mono ?_
    rintro e w1 ⟨rfl, rfl⟩
    go_wp2_with fail
    rw [HW.out]
    generalize hg : w.heap.size = g at hb1 hgq ⊢
    have HG := Lib.hid hg
    clear hg HW
    go_region_law (first | (refine step_copy_splice rfl (.tmp 12) (.tmp 17) 27 27 rfl 5 Try.underlying27 Try.sizeU8 (some ⟨g, 0, none⟩) A 8 8 k k (by simp [Act.eval]) (by simp [Act.eval]) g 0 (bv (List.replicate 8 0)) 128 C1.out (bv xs) C2.out C3.out C4.out (bv_one _) g w2 (Below.refl _ _) (Nat.le_refl _) ?_; intro w3 hg3 hb3) | (go_simp; go_at_call 78; refine (HT.out W1.drew hR1.out).mono ?_; rintro e w2 ⟨A, rfl, h2, h3, h4⟩; have C1 : Hid (w2.heap[g]? = some (.cells (bv (List.replicate 8 0)).toArray 128 (0, 0))) := Lib.hid ((h4.out.block g (lt_of_heap hb1.out) hgq.out).trans hb1.out); have C2 : Hid ((bv xs).length = Nat.min k 8) := Lib.hid (by rw [bv_length, HXK.out]; exact (Nat.min_eq_left hk8).symm); have C3 : Hid (0 < (bv xs).length → (some ⟨g, 0, none⟩ : Option Addr) = some ⟨g, 0, none⟩ ∧ ∃ ad, A = some ad ∧ ∀ j v, (bv xs)[j]? = some v → w2.cell? (ad.add j) = some v) := Lib.hid (fun hn => ⟨rfl, h3.out.src hn⟩); have C4 : Hid (0 + (bv xs).length ≤ (bv (List.replicate 8 0)).length) := Lib.hid (by rw [bv_length, HXK.out]; simpa using hk8)))
    have hb4 : Hid (w3.heap[g]? = some (.cells (agg8 (wideF s n)) 128 (0, 0))) := Lib.hid (by
      have h5 := hg3.out
      rw [splice8 HXK.out, HXS.out, agg8_eq HWL.out] at h5
      exact h5)
    have hO3 : Hid (Only (fun k => g ≤ k) w2 w3) := Lib.hid ⟨hb3.os, hb3.tape, hb3.output, hb3.size, fun j _ hne => hb3.block j (by omega)⟩
    have hqg := H.out.lt
    have hdg := H.out.dlt
    rw [HG.out] at hqg hdg
    have ho3 : Hid (Only (fun k => k = q) w w3) := Lib.hid ((ho1.out.trans h4.out.drew_left fun _ _ h => h).trans hO3.out fun j hj e => by rw [HG.out] at hj; omega)
    have hR3 : Hid (Rd RdT w3 q d (rWide s n).2.l (rWide s n).2.bad) := Lib.hid (h2.out.keep hO3.out (by omega) (fun j hj => by have := hdg j hj; omega))
    clear hqg hdg hO3
    clear HT C1 C2 C3 C4 h2 h3 h4 hg3 hb3 hb1 hR1 ho1 HE H HXK HXS
    generalize wideF s n = l at *
    go_wp2_with (with_reducible refine wpList_load_row rfl 128 (.tmp 5) rfl g rfl 128 (agg8 l) (0, 0) _ hb4.out Try.underlying128 rfl (by kernel_rfl) ?_)
    have HIX := Lib.hid (fun k h W => index8 l W k h)
    go_loop [6, 20] (fun x i => ∃ k : Nat, k ≤ 8 ∧ i = .int .i64 k ∧ x = .int .u64 ((numLE l k : Nat) : Int)) (fun _ i => 8 - (intOf i).toNat)
    case atStart => exact ⟨0, by omega, rfl, rfl⟩
    case round =>
      obtain ⟨j, hj, rfl, rfl⟩ := hrel
      by_cases hlt : j < 8
      · have hN := numLE_lt l j
        have hx := at8_lt l j
        have HE := Lib.hid (show numLE l (j + 1) = numLE l j + at8 l j * 2 ^ (8 * j) from rfl)
        have H3 := Lib.hid (last_step _ _ j hlt hN hx)
        have HI := HIX.out j hlt
        clear hN
        generalize numLE l j = y at HE H3
        generalize at8 l j = x at hx HE H3 HI
        have e1 : (x : Int) % 18446744073709551616 = x := by omega
        generalize agg8 l = ag at *
        go_wp2
        go_round
        case rel => exact ⟨j + 1, by omega, by go_num, by rw [HE.out, ← H3.out]; rfl⟩
        case measure => simp [intOf]; omega
      · obtain rfl : j = 8 := by omega
        go_wp2
        go_ret
        exact ⟨by rw [HWW.out]; rfl, hR3, ho3⟩

set_option maxHeartbeats 400000 in
theorem ru8_any (q : Nat) (d : Option Nat) (s : RS) (w : World) (h : Rd RdT w q d s.l s.bad) :
    Calls Try.prog 64 #[.pointer (some ⟨q, 0, none⟩)] w (RdE RdT w q d (.int .u8 ((rWide s 1).1 : Nat)) (rWide s 1).2) := by
  have H := Lib.hid (wide_any q d s 1 w (by omega) h)
  have hb := rWide_lt s 1
  have e1 : (((rWide s 1).1 : Nat) : Int) % 256 = ((rWide s 1).1 : Nat) := by omega
  generalize (rWide s 1).1 = x at *
  clear h hb
  go_enter Try.func64, Try.ntmps64
  go_wp2_with fail
  refine H.out.mono ?_
  rintro e w1 ⟨rfl, h1, h2⟩
  go_wp2
  go_ret
  exact ⟨rfl, h1, h2⟩

set_option maxHeartbeats 400000 in
theorem ru16_any (q : Nat) (d : Option Nat) (s : RS) (w : World) (h : Rd RdT w q d s.l s.bad) :
    Calls Try.prog 69 #[.pointer (some ⟨q, 0, none⟩)] w (RdE RdT w q d (.int .u16 ((rWide s 2).1 : Nat)) (rWide s 2).2) := by
  have H := Lib.hid (wide_any q d s 2 w (by omega) h)
  have hb := rWide_lt s 2
  have e1 : (((rWide s 2).1 : Nat) : Int) % 65536 = ((rWide s 2).1 : Nat) := by omega
  generalize (rWide s 2).1 = x at *
  clear h hb
  go_enter Try.func69, Try.ntmps69
  go_wp2_with fail
  refine H.out.mono ?_
  rintro e w1 ⟨rfl, h1, h2⟩
  go_wp2
  go_ret
  exact ⟨rfl, h1, h2⟩

set_option maxHeartbeats 400000 in
theorem ru32_any (q : Nat) (d : Option Nat) (s : RS) (w : World) (h : Rd RdT w q d s.l s.bad) :
    Calls Try.prog 70 #[.pointer (some ⟨q, 0, none⟩)] w (RdE RdT w q d (.int .u32 ((rWide s 4).1 : Nat)) (rWide s 4).2) := by
  have H := Lib.hid (wide_any q d s 4 w (by omega) h)
  have hb := rWide_lt s 4
  have e1 : (((rWide s 4).1 : Nat) : Int) % 4294967296 = ((rWide s 4).1 : Nat) := by omega
  generalize (rWide s 4).1 = x at *
  clear h hb
  go_enter Try.func70, Try.ntmps70
  go_wp2_with fail
  refine H.out.mono ?_
  rintro e w1 ⟨rfl, h1, h2⟩
  go_wp2
  go_ret
  exact ⟨rfl, h1, h2⟩

set_option maxHeartbeats 400000 in
theorem ru64_any (q : Nat) (d : Option Nat) (s : RS) (w : World) (h : Rd RdT w q d s.l s.bad) :
    Calls Try.prog 71 #[.pointer (some ⟨q, 0, none⟩)] w (RdE RdT w q d (.int .u64 ((rWide s 8).1 : Nat)) (rWide s 8).2) := by
  have H := Lib.hid (wide_any q d s 8 w (by omega) h)
  generalize (rWide s 8).1 = x at *
  clear h
  go_enter Try.func71, Try.ntmps71
  go_wp2_with fail
  refine H.out.mono ?_
  rintro e w1 ⟨rfl, h1, h2⟩
  go_wp2
  go_ret
  exact ⟨rfl, h1, h2⟩

/-- A new Reader. -/
def NewRE (w : World) (l : List UInt8) (e : Ending) (w' : World) : Prop :=
  ∃ q d, e = .returned (.pointer (some ⟨q, 0, none⟩)) ∧ Hid (Rd RdT w' q d l false) ∧ Hid (w.heap.size ≤ q ∧ ∀ k, d = some k → w.heap.size ≤ k) ∧ Hid (Below w.heap.size w w')
set_option maxHeartbeats 400000 in
theorem newr_any (A : Option Addr) (l : List UInt8) (n cap B : Nat) (w : World) (hn : l.length = n) (hA : A = none → cap = 0) (hb : Bytes w B A l) (hB : B ≤ w.heap.size) (hr : n ≤ 70368744177664) :
    Calls Try.prog 27 #[.slice A n cap] w (NewRE w l) := by
  have H := Lib.hid (clone_any A l n cap B w hn hA hb hB hr)
  clear hA hb
  go_enter Try.func27, Try.ntmps27
  go_wp2_with fail
  refine H.out.mono ?_
  rintro e w1 ⟨A', cap', rfl, ho, hb⟩
  go_wp2
  go_ret
  have hs := hb.out.size
  refine ⟨w1.heap.size, blockOf A', rfl, ⟨A', cap', by rw [hn]; exact heap_alloc_new w1 _, (ho.out.alloc _).bts, rfl⟩, ⟨hs, fun k hk => (ho.out.lt hk).1⟩, hb.out.alloc hs _⟩
end Go.Proofs.Ytadpbcbgmopfaaa
