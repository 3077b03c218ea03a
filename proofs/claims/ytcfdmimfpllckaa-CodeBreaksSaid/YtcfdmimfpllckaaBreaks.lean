/-
  The statement CodeBreaks' walk: whatever number, text, cut and calls, it answers true, and leaves all that was there as it was. No condition.
-/
import Derived.Test.YtcfdmimfpllckaaAsked
namespace Go.Proofs.Ytcfdmimfpllckaa
open Go.RowKit

theorem i64_and24 (n : Int) : bits .and .i64 n 16777215 = n % 16777216 := by
  have h3 : (BitVec.ofInt 64 16777215).toNat = 2 ^ 24 - 1 := by decide
  have key : (BitVec.ofInt 64 n &&& BitVec.ofInt 64 16777215).toNat = (n % ((2 ^ 64 : Nat) : Int)).toNat % 2 ^ 24 := by
    rw [BitVec.toNat_and, BitVec.toNat_ofInt, h3, Nat.and_two_pow_sub_one_eq_mod]
  show IntKind.i64.wrap ((BitVec.ofInt 64 n &&& BitVec.ofInt 64 16777215).toNat : Nat) = n % 16777216
  rw [key, IntKind.wrap_i64]
  omega
theorem uint_cut (x k : Nat) (hk : k < (shortL x).length) : rUint ⟨(shortL x).take k, false⟩ = (0, ⟨(shortL x).take k, true⟩) := by
  unfold rUint
  rw [if_pos (.inr (by rw [parse_cut x k hk]))]
theorem text_cut (n k : Nat) (xs : List UInt8) (hx : xs.length = n) (hn : n < 18446744073709551616) (hk : k < (shortL n ++ xs).length) : rText ⟨(shortL n ++ xs).take k, false⟩ (n : Int) = ([], ⟨(shortL n ++ xs).take k, true⟩) := by
  by_cases h : k < (shortL n).length
  · have e : (shortL n ++ xs).take k = (shortL n).take k := List.take_append_of_le_length (by omega)
    rw [e]
    unfold rText
    rw [if_pos (.inr (.inl (by rw [parse_cut n k h])))]
  · have e : (shortL n ++ xs).take k = shortL n ++ xs.take (k - (shortL n).length) := by rw [List.take_append, List.take_of_length_le (by omega)]
    rw [e]
    unfold rText
    rw [if_pos (.inr (.inr (.inr (.inr (by
      rw [parse_short hn]
      simp only [List.length_append, List.length_take] at hk ⊢
      omega)))))]
theorem ask_bad (l : List UInt8) (k : Nat) (n : Int) (hk : k < 9) : ask ⟨l, true⟩ k n = (if k = 8 then 3 else 0, [], ⟨l, true⟩) := by
  have hw : ∀ j, rWide ⟨l, true⟩ j = (0, ⟨l, true⟩) := fun j => if_pos (.inl rfl)
  have hu : rUint ⟨l, true⟩ = (0, ⟨l, true⟩) := if_pos (.inl rfl)
  have ht : rText ⟨l, true⟩ n = ([], ⟨l, true⟩) := if_pos (.inl rfl)
  have hr : rRaw ⟨l, true⟩ n = ([], ⟨l, true⟩) := if_pos (.inl rfl)
  have hcs : k = 0 ∨ k = 1 ∨ k = 2 ∨ k = 3 ∨ k = 4 ∨ k = 5 ∨ k = 6 ∨ k = 7 ∨ k = 8 := by omega
  rcases hcs with rfl | rfl | rfl | rfl | rfl | rfl | rfl | rfl | rfl <;> simp [ask, hw, hu, ht, hr, rEnd, errOf]
theorem asked_bad (q : Nat) (d : Option Nat) (l : List UInt8) (x n : Int) (w : World) (hn : I64 n) (h : Rd RdT w q d l true) (hr : l.length ≤ 70368744177664) :
    Calls Try.prog 25 #[.pointer (some ⟨q, 0, none⟩), .agg #[.int .i64 x, .int .i64 n]] w (AskE w q d (if kind x = 8 then 3 else 0, [], ⟨l, true⟩)) := by
  have := asked_any q d ⟨l, true⟩ x n w hn h hr
  rwa [ask_bad _ _ _ (kind_lt x)] at this
theorem below_drewN_left {B n : Nat} {w w' : World} (h : Below B (w.drewN n) w') : Below B w w' := ⟨h.os, h.tape, h.output, h.size, h.block⟩
def BreaksRel (w : World) (q1 q2 : Nat) (d1 d2 : Option Nat) (l1 l2 : List UInt8) (n : Nat) (i : Value) (wr : World) : Prop :=
  ∃ k, k ≤ n ∧ i = .int .i64 (k : Nat) ∧ Hid (RdS RdT w.heap.size w wr q1 d1 ⟨l1, true⟩) ∧ Hid (RdS RdT w.heap.size w wr q2 d2 ⟨l2, true⟩)
set_option maxRecDepth 100000 in
set_option maxHeartbeats 3200000 in
theorem breaks_walk (x : Nat) (s : ByteArray) (cut : Int) (A0 : Option Addr) (aks : List (Int × Int)) (c0 : Nat) (w : World) (hx : x < 18446744073709551616) (ha : AsksIn w A0 aks) (hi : ∀ a ∈ aks, I64 a.1 ∧ I64 a.2) :
    Calls Try.prog 10 #[.int .u64 (x : Int), .string s, .int .i64 cut, .slice A0 aks.length c0] w fun e w' => e = .returned (.bool true) ∧ Hid (Below w.heap.size w w') := by
  have HX := Lib.hid hx
  have HA := Lib.hid ha
  have HI := Lib.hid hi
  clear hx ha hi
  generalize hn0 : aks.length = n0 at *
  have HN := Lib.hid hn0
  clear hn0
  go_enter Try.func10, Try.ntmps10
  by_cases hb1 : 10000 < s.size
  · have hb1' : (10000 : Int) < (s.size : Int) := by omega
    go_wp2_with fail
    refine (awake_any w).mono ?_
    rintro e W1 ⟨rfl, hb⟩
    go_wp2
    go_ret
    exact ⟨rfl, hb⟩
  · have hb1' : ¬ (10000 : Int) < (s.size : Int) := by omega
    by_cases hb2 : 100 < n0
    · have hb2' : (100 : Int) < (n0 : Int) := by omega
      go_wp2_with fail
      refine (awake_any w).mono ?_
      rintro e W1 ⟨rfl, hb⟩
      go_wp2
      go_ret
      exact ⟨rfl, hb⟩
    · have hb2' : ¬ (100 : Int) < (n0 : Int) := by omega
      go_wp2_with fail
      refine (new_at (Below.refl w.heap.size w) (Nat.le_refl _)).mono ?_
      rintro e W1 ⟨p1, rfl, o1, b1, z1⟩
      go_wp2_with fail
      refine (new_at o1.out.below o1.out.size).mono ?_
      rintro e W2 ⟨p2, rfl, o2, b2, z2⟩
      have o1a := Lib.hid (o1.out.later b2.out)
      have n12 : Hid (p1 ≠ p2) := Lib.hid (by have := o1.out.wr.lt; have := z2.out; omega)
      clear o1 b1 z1 b2 z2 hb1' hb2'
      go_wp2_with fail
      refine (uint_at o1a.out x HX.out (by decide)).mono ?_
      rintro e W3 ⟨rfl, g1, o3, e3, f3⟩
      have o23 := Lib.hid (o2.out.beside o1a.out n12.out.symm (fun _ h => by cases h) f3.out)
      clear o1a o2 e3 f3
      go_wp2_with fail
      refine (text_at o23.out s (by omega) (by decide)).mono ?_
      rintro e W4 ⟨rfl, g2, o4, e4, f4⟩
      have o34 := Lib.hid (o3.out.beside o23.out n12.out (fun _ _ h => by cases h) f4.out)
      rw [List.nil_append] at o34 o4
      have hL1 := shortL_pos x
      have hL1' := shortL_ten HX.out
      have hL2 : 0 < (shortL s.size ++ strL s).length := by rw [List.length_append]; have := shortL_pos s.size; omega
      have hL2' : (shortL s.size ++ strL s).length ≤ 10010 := by rw [List.length_append, show (strL s).length = s.size from rfl]; have := shortL_ten (x := s.size) (by omega); omega
      have HC1 := Lib.hid (uint_cut x)
      have HC2 := Lib.hid (fun k => text_cut s.size k (strL s) rfl (by omega))
      clear o3 o23 e4 f4
      generalize shortL x = a1 at *
      generalize shortL s.size ++ strL s = a2 at *
      generalize hm1 : a1.length = m1 at *
      generalize hm2 : a2.length = m2 at *
      have HM1 := Lib.hid hm1
      have HM2 := Lib.hid hm2
      clear hm1 hm2
      go_wp2_with fail
      refine (bytes_at o34.out (by rw [HM1.out]; omega)).mono ?_
      rintro e W5 ⟨A1, c1, rfl, ho1, hb5⟩
      have o5 := Lib.hid (o4.out.later hb5.out)
      rw [HM1.out]
      clear o34 o4
      go_wp2_with fail
      refine (bytes_at o5.out (by rw [HM2.out]; omega)).mono ?_
      rintro e W6 ⟨A2, c2, rfl, ho2, hb6⟩
      rw [HM2.out]
      have o6 := Lib.hid (o5.out.later hb6.out)
      have ho1' : Hid (Own8 W6 0 A1 m1 c1 a1) := Lib.hid (by have h := (ho1.out.lower (Nat.zero_le _)).keep (S := fun _ => False) (Only.ofBelow hb6.out) (fun _ _ h => h); rwa [HM1.out] at h)
      have ho2' : Hid (Own8 W6 0 A2 m2 c2 a2) := Lib.hid (by have h := ho2.out.lower (Nat.zero_le _); rwa [HM2.out] at h)
      clear ho1 ho2 hb5 hb6 o5
      have q1 : ¬ (m1 : Int) = 0 := by omega
      have q2 : ¬ (m2 : Int) = 0 := by omega
      have q1' : ((m1 : Int) == 0) = false := by simpa using q1
      have q2' : ((m2 : Int) == 0) = false := by simpa using q2
      obtain ⟨m, hm⟩ : ∃ m : Nat, cut % 16777216 = (m : Int) := ⟨(cut % 16777216).toNat, by omega⟩
      have e1 : bits .and .i64 cut 16777215 = (m : Int) := by rw [i64_and24, hm]
      have hm9 : m < 16777216 := by omega
      clear hm
      obtain ⟨k1, hk1⟩ : ∃ k1, m % m1 = k1 := ⟨_, rfl⟩
      obtain ⟨k2, hk2⟩ : ∃ k2, m % m2 = k2 := ⟨_, rfl⟩
      have r1 : (m : Int).tmod (m1 : Int) = (k1 : Int) := by rw [Int.tmod_eq_emod_of_nonneg (by omega), ← hk1]; simp
      have r2 : (m : Int).tmod (m2 : Int) = (k2 : Int) := by rw [Int.tmod_eq_emod_of_nonneg (by omega), ← hk2]; simp
      have r1' : (m : Int) % (m1 : Int) = (k1 : Int) := by rw [← hk1]; simp
      have r2' : (m : Int) % (m2 : Int) = (k2 : Int) := by rw [← hk2]; simp
      have hk1m : k1 < m1 := by rw [← hk1]; exact Nat.mod_lt _ hL1
      have hk2m : k2 < m2 := by rw [← hk2]; exact Nat.mod_lt _ hL2
      have hc1 : m1 ≤ c1 := ho1'.out.cap_le
      have hc2 : m2 ≤ c2 := ho2'.out.cap_le
      have w1 : IntKind.i64.wrap (k1 : Int) = (k1 : Int) := IntWalk.i64_in _ (by omega)
      have w2 : IntKind.i64.wrap (k2 : Int) = (k2 : Int) := IntWalk.i64_in _ (by omega)
      have y1 : (0 : Int) ≤ (k1 : Int) := by omega
      have y2 : (0 : Int) ≤ (k2 : Int) := by omega
      have y3 : (k1 : Int) ≤ (c1 : Int) := by omega
      have y4 : (k2 : Int) ≤ (c2 : Int) := by omega
      clear hk1 hk2
      go_wp2_with fail
      go_quiet (fail)
      clear e1 r1 r2 r1' r2' w1 w2 q1' q2'
      go_wp2_with fail
      refine (newr_at (below_drewN o6.out.below _) o6.out.size A1 (a1.take k1) k1 c1 (by rw [List.length_take, HM1.out]; omega) ho1'.out.none_cap (ho1'.out.bytes.front k1) (by omega)).mono ?_
      rintro e W7 ⟨q1, d1, rfl, r1, b7, z7⟩
      have ho2b : Hid (Own8 W7 0 A2 m2 c2 a2) := Lib.hid (ho2'.out.keep (S := fun _ => False) (Only.ofBelow (w := W6) (below_drewN_left b7.out)) (fun _ _ h => h))
      clear ho1' ho2' o6 b7 z7
      go_wp2_with fail
      refine (newr_at r1.out.below r1.out.size A2 (a2.take k2) k2 c2 (by rw [List.length_take, HM2.out]; omega) ho2b.out.none_cap (ho2b.out.bytes.front k2) (by omega)).mono ?_
      rintro e W8 ⟨q2, d2, rfl, r2, b8, z8⟩
      have r1b := Lib.hid (r1.out.later b8.out)
      have hap : Hid ((q1 ≠ q2 ∧ d1 ≠ some q2) ∧ (q2 ≠ q1 ∧ d2 ≠ some q1) ∧ Ap d1 d2) := Lib.hid (by
        have h1 := r1.out.rd.lt
        have h2 := r1.out.dlt
        have h3 := z8.out.1
        have h4 := z8.out.2
        refine ⟨⟨by omega, fun e => by have := h2 _ e; omega⟩, ⟨by omega, fun e => by have := h4 _ e; omega⟩, fun k e e' => by have := h2 k e; have := h4 k e'; omega⟩)
      have HU := Lib.hid (HC1.out k1 hk1m)
      have HT := Lib.hid (HC2.out k2 hk2m)
      have HK1 : Hid ((a1.take k1).length = k1) := Lib.hid (by rw [List.length_take, HM1.out]; omega)
      have HK2 : Hid ((a2.take k2).length = k2) := Lib.hid (by rw [List.length_take, HM2.out]; omega)
      have k1s : k1 ≤ 10010 := by omega
      have k2s : k2 ≤ 10010 := by omega
      clear r1 b8 z8 ho2b HC1 HC2 HM1 HM2
      generalize a1.take k1 = l1 at *
      generalize a2.take k2 = l2 at *
      have s63 : (s.size : Int) ≤ 9223372036854775807 := by omega
      have s64 : -9223372036854775808 ≤ (s.size : Int) := by omega
      have HS3 := Lib.hid s63
      have HS4 := Lib.hid s64
      clear s63 s64
      go_wp2_with fail
      refine (uint_any q1 d1 ⟨l1, false⟩ W8 r1b.out.rd (by simp only; rw [HK1.out]; omega)).mono ?_
      rintro e W9 ⟨rfl, e1, e2⟩
      rw [HU.out] at e1
      rw [HU.out]
      have r19 := Lib.hid (r1b.out.step (s' := ⟨l1, true⟩) e1 e2)
      have r29 := Lib.hid (r2.out.other e2.out (by rintro k rfl; exact r1b.out.hq) (fun e => hap.out.2.1.1 e) (by rintro k hk rfl; exact hap.out.2.1.2 hk))
      clear e1 e2 r1b r2 HU
      go_wp2_with fail
      refine (text_any q2 d2 ⟨l2, false⟩ (s.size : Int) W9 HS4.out HS3.out r29.out.rd (by simp only; rw [HK2.out]; omega)).mono ?_
      rintro e W10 ⟨rfl, e1, e2⟩
      rw [HT.out] at e1
      rw [HT.out]
      have r2a := Lib.hid (r29.out.step (s' := ⟨l2, true⟩) e1 e2)
      have r1a := Lib.hid (r19.out.other e2.out (by rintro k rfl; exact r29.out.hq) (fun e => hap.out.1.1 e) (by rintro k hk rfl; exact hap.out.1.2 hk))
      clear e1 e2 r19 r29 HT HS3 HS4
      go_wp2_with fail
      refine (err_bad q1 d1 l1 W10 r1a.out.rd).mono ?_
      rintro e W11 ⟨rfl, rfl⟩
      go_wp2_with fail
      refine (err_bad q2 d2 l2 W10 r2a.out.rd).mono ?_
      rintro e W11 ⟨rfl, rfl⟩
      go_wp2_with fail
      clear y1 y2 y3 y4
      go_loopw [15] (fun i wr => BreaksRel w q1 q2 d1 d2 l1 l2 n0 i wr) (fun i _ => n0 - (intOf i).toNat)
      case atStart => exact ⟨0, by omega, rfl, r1a, r2a⟩
      case round =>
        obtain ⟨k, hk, rfl, hR1, hR2⟩ := hrel
        by_cases hlt : k < n0
        · obtain ⟨b, off, rfl, hbB, hc⟩ := HA.out (by rw [HN.out]; omega)
          obtain ⟨hc1', hc2'⟩ := hc k (by rw [HN.out]; exact hlt)
          have cc1 := (hR1.out.below.cell (p := ⟨b, off + k * 2, none⟩) hbB).trans hc1'
          have cc2 := (hR1.out.below.cell (p := ⟨b, off + k * 2 + 1, none⟩) hbB).trans hc2'
          have HII := Lib.hid (HI.out (aks.getD k (0, 0)) (by rw [show aks.getD k (0, 0) = aks[k]'(by rw [HN.out]; exact hlt) by simp [List.getD, HN.out, hlt]]; exact List.getElem_mem _))
          clear hc hc1' hc2'
          generalize (aks.getD k (0, 0)).1 = wh at *
          generalize (aks.getD k (0, 0)).2 = nn at *
          have k0 : (0 : Int) ≤ (k : Int) := by omega
          have kn : (k : Int) < (n0 : Int) := by omega
          have HKE := Lib.hid (kind_emod wh)
          have hk9 := kind_lt wh
          obtain ⟨v, hv⟩ : ∃ v : Nat, (if kind wh = 8 then 3 else 0) = v := ⟨_, rfl⟩
          have HV := Lib.hid hv
          have hq : (!((v : Int) != 0) == ((wrap64 (wh.tmod 9 + 9)).tmod 9 == 8)) = false := by
            have hw : wrap64 (wh.tmod 9 + 9) = wh.tmod 9 + 9 := by unfold wrap64; have := HKE.out.2.2; generalize wh.tmod 9 = y at *; omega
            rw [hw, Int.tmod_eq_emod_of_nonneg (by have := HKE.out.2.2; generalize wh.tmod 9 = y at *; omega), HKE.out.2.1, ← hv]
            by_cases h8 : kind wh = 8
            · rw [if_pos h8, h8]; rfl
            · rw [if_neg h8]
              have : (((kind wh : Nat) : Int) == 8) = false := by simp; omega
              rw [this]; rfl
          clear hv
          go_wp2_with fail
          refine (asked_bad q1 d1 l1 wh nn wr HII.out.2 hR1.out.rd (by rw [HK1.out]; omega)).mono ?_
          rintro e V1 ⟨rfl, e1, e2⟩
          simp only [] at e1
          rw [HV.out]
          have s1 : Hid (RdS RdT w.heap.size w V1 q1 d1 ⟨l1, true⟩) := Lib.hid ⟨e1.out, e2.out.below hR1.out.below (by rintro k (rfl | e); exact hR1.out.hq; exact hR1.out.hd _ e) hR1.out.size, hR1.out.hq, hR1.out.hd⟩
          have s2 : Hid (RdS RdT w.heap.size w V1 q2 d2 ⟨l2, true⟩) := Lib.hid (hR2.out.other e2.out (by rintro k (rfl | e); exact hR1.out.hq; exact hR1.out.hd _ e) (by rintro (e | e); exact hap.out.1.1 e.symm; exact hap.out.1.2 e) (by rintro k hk (rfl | e); exact hap.out.2.1.2 hk; exact hap.out.2.2 k e hk))
          have cd1 := (s1.out.below.cell (p := ⟨b, off + k * 2, none⟩) hbB).trans ((hR1.out.below.cell (p := ⟨b, off + k * 2, none⟩) hbB).symm.trans cc1)
          have cd2 := (s1.out.below.cell (p := ⟨b, off + k * 2 + 1, none⟩) hbB).trans ((hR1.out.below.cell (p := ⟨b, off + k * 2 + 1, none⟩) hbB).symm.trans cc2)
          clear e1 e2 hR1 hR2 cc1 cc2
          go_wp2_with fail
          refine (asked_bad q2 d2 l2 wh nn V1 HII.out.2 s2.out.rd (by rw [HK2.out]; omega)).mono ?_
          rintro e V2 ⟨rfl, e1, e2⟩
          simp only [] at e1
          rw [HV.out]
          have t2 : Hid (RdS RdT w.heap.size w V2 q2 d2 ⟨l2, true⟩) := Lib.hid ⟨e1.out, e2.out.below s2.out.below (by rintro k (rfl | e); exact s2.out.hq; exact s2.out.hd _ e) s2.out.size, s2.out.hq, s2.out.hd⟩
          have t1 : Hid (RdS RdT w.heap.size w V2 q1 d1 ⟨l1, true⟩) := Lib.hid (s1.out.other e2.out (by rintro k (rfl | e); exact s2.out.hq; exact s2.out.hd _ e) (by rintro (e | e); exact hap.out.2.1.1 e.symm; exact hap.out.2.1.2 e) (by rintro k hk (rfl | e); exact hap.out.1.2 hk; exact hap.out.2.2 k hk e))
          have ce1 := (t1.out.below.cell (p := ⟨b, off + k * 2, none⟩) hbB).trans ((s1.out.below.cell (p := ⟨b, off + k * 2, none⟩) hbB).symm.trans cd1)
          clear e1 e2 s1 s2 cd1 cd2
          go_wp2_with fail
          go_roundw
          case rel => exact ⟨k + 1, by omega, by go_num, t1, t2⟩
          case measure => simp [intOf]; omega
        · have kn : ¬ (k : Int) < (n0 : Int) := by omega
          go_wp2_with fail
          refine (left_any q1 d1 l1 true k1 wr hR1.out.rd HK1.out).mono ?_
          rintro e V1 ⟨rfl, rfl⟩
          go_wp2_with fail
          refine (left_any q2 d2 l2 true k2 wr hR2.out.rd HK2.out).mono ?_
          rintro e V1 ⟨rfl, rfl⟩
          go_wp2_with fail
          refine (awake_any wr).mono ?_
          rintro e V1 ⟨rfl, hb⟩
          go_wp2
          go_ret
          exact ⟨rfl, Lib.hid (hR1.out.below.trans (hb.out.mono hR1.out.size))⟩
end Go.Proofs.Ytcfdmimfpllckaa
