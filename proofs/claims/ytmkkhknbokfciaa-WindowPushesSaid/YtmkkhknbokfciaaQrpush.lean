/-
  The document's Push. For senders of at most 2000 bodies of at most 1,000,000 bytes.
-/
import Derived.Test.YtmkkhknbokfciaaQpush
import Derived.Test.YtmkkhknbokfciaaQown
namespace Go.Proofs.Ytmkkhknbokfciaa
set_option maxRecDepth 20000
open Go.RowKit

set_option maxHeartbeats 4000000 in
theorem rpush_any (b : Nat) (A : Option Addr) (n c : Nat) (ls : List (List UInt8)) (A2 : Option Addr) (m c2 : Nat) (l : List UInt8) (w : World) (hl : ls.length = n) (hi : Rws w w.heap.size A ls) (hm : l.length = m) (h2 : Bytes w w.heap.size A2 l) (hc2 : A2 = none → c2 = 0) (hm2 : m ≤ 140737488355328) :
    Calls Try.prog 14 #[.agg #[.int .u64 (b : Int), .slice A n c], .slice A2 m c2] w (PushE w b ls l) := by
  have X1 := Lib.hid (sbox_new w (b : Int) A n c 25)
  have b1 := qbox w (.cells #[.int .u64 (b : Int), .slice A n c] 25)
  have P1 : Hid (SRow w.heap.size (b : Int) A n c (w.alloc (.cells #[.int .u64 (b : Int), .slice A n c] 25))) := Lib.hid (qnew w _ _)
  have R2 := Lib.hid (show SRow (w.alloc (.cells #[.int .u64 (b : Int), .slice A n c] 25)).heap.size 0 none 0 0 ((w.alloc (.cells #[.int .u64 (b : Int), .slice A n c] 25)).alloc (.cells #[.int .u64 0, .slice none 0 0] 25)) from qnew _ _ _)
  have b2 := qbox (w.alloc (.cells #[.int .u64 (b : Int), .slice A n c] 25)) (.cells #[.int .u64 0, .slice none 0 0] 25)
  have X2 := Lib.hid (X1.out.below b2)
  have P2 := Lib.hid (P1.out.below b2)
  have B2 := Lib.hid (qtr b1 b2)
  have I2 := Lib.hid ((hi.below B2.out).more B2.out.size)
  have J2 := Lib.hid ((h2.below B2.out).more B2.out.size)
  have HL := Lib.hid hl
  have J0 := Lib.hid h2
  have HM := Lib.hid hm
  have HC2 := Lib.hid hc2
  have es : (w.alloc (.cells #[.int .u64 (b : Int), .slice A n c] 25)).heap.size = w.heap.size + 1 := by simp
  rw [es] at R2
  have HE : Hid (pushErr b ls l = if ¬ mayS b ls then 1 else if ¬ (1 ≤ m ∧ m ≤ 448) then 2 else if n = 48 ∨ b + n = 34359738367 then 4 else 0) := Lib.hid (by unfold pushErr bodyS; rw [hl, hm])
  have HQ1 : Hid (∀ er w' e, pushErr b ls l = er → er ≠ 0 → Below w.heap.size w w' → e = .returned (.tuple #[.agg #[.int .u64 0, .slice none 0 0], .int .i64 (er : Nat)]) → PushE w b ls l e w') := Lib.hid (fun er w' e h h0 hb he => pushE_err h h0 hb he)
  have HQ2 : Hid (∀ A' c' w' e, pushErr b ls l = 0 → ORws w' w.heap.size A' (n + 1) c' (ls ++ [l]) → Below w.heap.size w w' → e = .returned (.tuple #[.agg #[.int .u64 (b : Nat), .slice A' (n + 1) c'], .int .i64 0]) → PushE w b ls l e w') := Lib.hid (fun A' c' w' e h ho hb he => pushE_ok h hl ho hb he)
  clear X1 P1 b1 b2 hi hl es h2 hm hc2
  generalize PushE w b ls l = Q0 at *
  go_enter Try.func14, Try.ntmps14
  obtain ⟨k0, k1⟩ := X2.out
  go_wp2_with fail
  generalize (w.alloc (.cells #[.int .u64 (b : Int), .slice A n c] 25)).alloc (.cells #[.int .u64 0, .slice none 0 0] 25) = W2 at *
  clear k0 k1
  refine (rmay7_any b A n c ls _ HL.out I2.out).mono ?_
  rintro e W3 ⟨rfl, hb⟩
  have X3 := Lib.hid (X2.out.below hb.out)
  have P3 := Lib.hid (P2.out.below hb.out)
  have R3 := Lib.hid (R2.out.below hb.out)
  have B3 := Lib.hid (qtr B2.out hb.out)
  have I3 := Lib.hid ((I2.out.below hb.out).more hb.out.size)
  have J3 := Lib.hid ((J2.out.below hb.out).more hb.out.size)
  clear X2 P2 R2 hb I2 J2 B2
  by_cases hmay : mayS b ls
  · rw [decide_eq_true hmay]
    have HMay := Lib.hid hmay
    rw [if_neg (not_not_intro hmay)] at HE
    clear hmay
    go_wp2_with fail
    refine (rbody_any _ _ _ _).mono ?_
    rintro e W4 ⟨rfl, rfl⟩
    by_cases hbd : 1 ≤ m ∧ m ≤ 448
    · rw [decide_eq_true hbd]
      rw [if_neg (not_not_intro hbd)] at HE
      have HBd := Lib.hid hbd
      clear hbd
      obtain ⟨k0, k1⟩ := X3.out
      have hcap : b + n ≤ 34359738367 := by have := HMay.out.2.1; rw [HL.out] at this; exact this
      have hn48 : n ≤ 48 := by have := HMay.out.1; rw [HL.out] at this; exact this
      by_cases h48 : n = 48
      · have HE4 := Lib.hid (HE.out.trans (if_pos (.inl h48)))
        subst h48
        obtain ⟨z0, z1⟩ := R3.out.box
        have f0 := frozen_plain R3.out 0
        have f1 := frozen_plain R3.out 1
        have HS8 := Lib.hid (R3.out.set2 0 none 0 0)
        have O8 := Lib.hid (only_two W3 (w.heap.size + 1) (.int .u64 0) (.slice none 0 0))
        clear HE hcap hn48
        go_wp2
        (try simp only [Exit.inBlock, Exit.then])
        refine bodyPost_ret (qres_tmp rfl _ _ (w.heap.size + 1) 25 #[.int .u64 0, .slice none 0 0] (0, 0) _ rfl HS8.out Try.underlying25 rfl (by kernel_rfl)) rfl ?_
        exact HQ1.out 4 _ _ HE4.out (by omega) (O8.out.below B3.out (fun j e => by omega) B3.out.size) rfl
      · have q48 : ¬ (48 : Int) ≤ (n : Int) := by omega
        have e4 : IntKind.u64.wrap (n : Int) = (n : Int) := wrapU (by omega) (by omega)
        have e5 : IntKind.u64.wrap ((b : Int) + (n : Int)) = (b : Int) + (n : Int) := wrapU (by omega) (by omega)
        have e6 : IntKind.u64.wrap ((b : Int) + (n : Int) + 1) = ((b + n + 1 : Nat) : Int) := by rw [wrapU (by omega) (by omega)]; simp
        by_cases hfull : b + n = 34359738367
        · have HE4 := Lib.hid (HE.out.trans (if_pos (.inr hfull)))
          have HC := Lib.hid (show decide (b + n + 1 < 34359738368) = false from decide_eq_false (by omega))
          obtain ⟨z0, z1⟩ := R3.out.box
          have f0 := frozen_plain R3.out 0
          have f1 := frozen_plain R3.out 1
          have HS8 := Lib.hid (R3.out.set2 0 none 0 0)
          have O8 := Lib.hid (only_two W3 (w.heap.size + 1) (.int .u64 0) (.slice none 0 0))
          clear HE hcap hn48 h48 hfull
          go_wp2_with fail
          refine (rcnt_any (b + n + 1) W3).mono ?_
          rintro e W5 ⟨rfl, rfl⟩
          rw [HC.out]
          go_wp2
          (try simp only [Exit.inBlock, Exit.then])
          refine bodyPost_ret (qres_tmp rfl _ _ (w.heap.size + 1) 25 #[.int .u64 0, .slice none 0 0] (0, 0) _ rfl HS8.out Try.underlying25 rfl (by kernel_rfl)) rfl ?_
          exact HQ1.out 4 _ _ HE4.out (by omega) (O8.out.below B3.out (fun j e => by omega) B3.out.size) rfl
        · have HE0 := Lib.hid (HE.out.trans (if_neg (fun h => h.elim h48 hfull)))
          have HC := Lib.hid (show decide (b + n + 1 < 34359738368) = true from decide_eq_true (by omega))
          have hsm := mayS_small HMay.out
          have HCo := Lib.hid (own_any b A n c ls W3 HL.out I3.out (by omega) (fun k hk => by have := hsm.2 k (by rw [HL.out]; exact hk); omega))
          have HN := Lib.hid hn48
          clear HE hcap hn48 h48 hfull hsm
          go_wp2_with fail
          refine (rcnt_any (b + n + 1) W3).mono ?_
          rintro e W5 ⟨rfl, rfl⟩
          rw [HC.out]
          go_wp2_with fail
          refine HCo.out.mono ?_
          rintro e W6 ⟨A6, c6, rfl, ho6, hb6⟩
          have R6 := Lib.hid (R3.out.below hb6.out)
          have P6 := Lib.hid (P3.out.below hb6.out)
          have B6 := Lib.hid (qtr B3.out hb6.out)
          have J6 := Lib.hid ((J3.out.below hb6.out).more hb6.out.size)
          have HW5 := Lib.hid (show w.heap.size + 1 < W3.heap.size from lt_of_heap R3.out)
          have O6 := Lib.hid (ho6.out.lower (show w.heap.size + 2 ≤ W3.heap.size by have := HW5.out; omega))
          have HJ := Lib.hid (J3.out.below (hb6.out))
          clear k0 k1 HCo X3 R3 P3 B3 I3 ho6 hb6 J3
          obtain ⟨p0, p1⟩ := P6.out.box
          have g0 := frozen_plain P6.out 0
          have g1 := frozen_plain P6.out 1
          have P7 := Lib.hid (show SRow w.heap.size b A6 n c6 _ from P6.out.set2 b A6 n c6)
          have o7 := only_two W6 w.heap.size (.int .u64 b) (.slice A6 n c6)
          have R7 := Lib.hid (R6.out.keep o7 (fun e => by omega))
          have O7 := Lib.hid (O6.out.keepRow P6.out o7)
          have B7 := Lib.hid (o7.below B6.out (fun j e => by omega) B6.out.size)
          have J7 : Hid (Bytes ((W6.setCell ⟨w.heap.size, 0, none⟩ (.int .u64 b)).setCell ⟨w.heap.size, 1, none⟩ (.slice A6 n c6)) w.heap.size A2 l) := Lib.hid (fun hp => by
            obtain ⟨b2, o2, e2, hl2, hc2⟩ := J0.out hp
            exact ⟨b2, o2, e2, hl2, fun j hj => (B7.out.cell (p := ⟨b2, o2 + j, none⟩) hl2).trans (hc2 j hj)⟩)
          have HOb := Lib.hid O6.out.bs
          have HWu := Lib.hid (show w.heap.size + 1 < W6.heap.size from lt_of_heap R6.out)
          clear R6 B6 J6 O6 P6 o7 HJ J0
          go_wp2_with fail
          generalize (W6.setCell ⟨w.heap.size, 0, none⟩ (.int .u64 (b : Int))).setCell ⟨w.heap.size, 1, none⟩ (.slice A6 n c6) = W7 at *
          clear p0 p1 g0 g1
          have hsz7 : w.heap.size + 1 < W7.heap.size := lt_of_heap R7.out
          have kp1 := P7.out.box.2
          have C1 : Hid (Own8 (W7.alloc (.cells #[] 5)).drew 0 (some ⟨W7.heap.size, 0, none⟩) 0 0 []) := Lib.hid (World.ownsRow_made (base := 0) (e := 5) (size := 1) W7 #[] 0 (Nat.zero_le _) (by unfold maxLen; omega) rfl)
          have HYa : Hid (Bytes (W7.alloc (.cells #[] 5)).drew w.heap.size A2 l) := Lib.hid (show Bytes (W7.alloc (.cells #[] 5)) w.heap.size A2 l from Bytes.alloc (w := W7) J7.out (by omega) (.cells #[] 5))
          have kpa := qold kp1 (qbox _ (.cells #[] 5))
          have HSz := Lib.hid hsz7
          go_region_law (first
            | (refine step_append8 rfl rfl (.tmp 35) (.tmp 36) rfl (some ⟨W7.heap.size, 0, none⟩) 0 0 [] rfl C1.out A2 m c2 w.heap.size l rfl HM.out HC2.out HYa.out (by have := HBd.out; omega) ?_; intro A1 c1 V1 e51 e52 e53; have b1 := Lib.hid (newBelow (o := .cells #[] 5) e52.out (fun j e => by have e' : W7.heap.size = j := Option.some.inj e; omega)); have o1 := Lib.hid (own8_raise (show Own8 V1 0 A1 m c1 l from by have := e51.out; rwa [Nat.zero_add] at this) (fun j e => e53.out.ge (B := W7.heap.size) (by simp) (fun i hi => by have e' : W7.heap.size = i := Option.some.inj hi; omega) j e)); have Y1 := Lib.hid (P7.out.below b1.out); have k41 := Y1.out.box.2; have k42 := fun o => qold k41 (qbox _ o); have U1 := Lib.hid (O7.out.on b1.out); have S1 := Lib.hid (show w.heap.size + 2 ≤ V1.heap.size from by have := b1.out.size; have := HSz.out; omega))
            | (refine step_appendR rfl rfl (.tmp 34) (.tmp 38) rfl (w.heap.size + 2) A6 n c6 ls rfl (Nat.le_trans S1.out (qbox _ _).size) (U1.out.on (qbox _ _)) V1.heap.size A1 m c1 l rfl ((cell_of_row _ _ 0 _ _ (0, 0) (qnew V1 #[.slice A1 m c1] 26)).trans rfl) HM.out ((o1.out.lower (show w.heap.size + 2 ≤ W7.heap.size by have := HSz.out; omega)).keep (S := fun _ => False) (Only.ofBelow (qbox _ _)) (fun _ _ h => h)) (fun g hg e => by have h1 := (o1.out.lt hg).1; have h2 := (O7.out.bs g e).2; omega) (by have := HN.out; omega) ?_; intro A8 c8 V6 e61 e62 e63; have X6 := Lib.hid ((Y1.out.below (qbox _ _)).keep e62.out (fun e => by have := (HOb.out _ e).1; omega)); have z6 := X6.out.box.2; have f6 := frozen_plain X6.out 1))
          all_goals
            have O7s := Lib.hid (show Only (fun k => k = w.heap.size) V6 (V6.setCell ⟨w.heap.size, 1, none⟩ (.slice A8 (n + 1) c8)) from (Only.refl (fun k => k = w.heap.size) V6).setCell (p := ⟨w.heap.size, 1, none⟩) (.inl rfl) _)
            have X7 := Lib.hid (X6.out.set1 A8 (n + 1) c8)
            have U7 := Lib.hid (e61.out.keepRow X6.out O7s.out)
            have Q1 : Only (fun k => k = w.heap.size ∨ blockOf A6 = some k) W7 V6 := ((Only.ofBelow (S := fun k => k = w.heap.size ∨ blockOf A6 = some k) b1.out).trans (Only.ofBelow (S := fun k => k = w.heap.size ∨ blockOf A6 = some k) (qbox V1 (.cells #[.slice A1 m c1] 26))) fun _ _ h => h).trans e62.out fun j hj e => .inr e
            have Q7 := Lib.hid (Q1.trans O7s.out fun j hj e => .inl e)
            have RP := Lib.hid (R7.out.keep Q7.out (fun e => by rcases e with e | e; omega; have := (HOb.out _ e).1; omega))
            have B8 := Lib.hid (Q7.out.below B7.out (fun k e => by rcases e with e | e; omega; have := (HOb.out _ e).1; omega) B7.out.size)
            clear e51 e52 e53 e61 e62 e63 X6 z6 f6 Y1 k41 k42 U1 S1 o1 b1 O7s Q1 Q7
            obtain ⟨k0, k1⟩ := X7.out.box
            obtain ⟨z0, z1⟩ := RP.out.box
            have f0 := frozen_plain RP.out 0
            have f1 := frozen_plain RP.out 1
            generalize V6.setCell ⟨w.heap.size, 1, none⟩ (.slice A8 (n + 1) c8) = V7 at *
            have HS8 := Lib.hid (RP.out.set2 b A8 (n + 1) c8)
            have O8 := Lib.hid (only_two V7 (w.heap.size + 1) (.int .u64 b) (.slice A8 (n + 1) c8))
            have U8' := Lib.hid ((U7.out.keepRow RP.out O8.out).lower (show w.heap.size ≤ w.heap.size + 2 by omega))
            have B9 := Lib.hid (O8.out.below B8.out (fun j e => by omega) B8.out.size)
            go_wp2
            (try simp only [Exit.inBlock, Exit.then])
            refine bodyPost_ret (qres_tmp rfl _ _ (w.heap.size + 1) 25 #[.int .u64 b, .slice A8 (n + 1) c8] (0, 0) _ rfl HS8.out Try.underlying25 rfl (by kernel_rfl)) rfl ?_
            exact HQ2.out A8 c8 _ _ HE0.out U8'.out B9.out rfl
    · rw [decide_eq_false hbd]
      have HE2 := Lib.hid (HE.out.trans (if_pos hbd))
      clear HE hbd
      obtain ⟨z0, z1⟩ := R3.out.box
      have f0 := frozen_plain R3.out 0
      have f1 := frozen_plain R3.out 1
      have HS8 := Lib.hid (R3.out.set2 0 none 0 0)
      have O8 := Lib.hid (only_two W3 (w.heap.size + 1) (.int .u64 0) (.slice none 0 0))
      go_wp2
      (try simp only [Exit.inBlock, Exit.then])
      refine bodyPost_ret (qres_tmp rfl _ _ (w.heap.size + 1) 25 #[.int .u64 0, .slice none 0 0] (0, 0) _ rfl HS8.out Try.underlying25 rfl (by kernel_rfl)) rfl ?_
      exact HQ1.out 2 _ _ HE2.out (by omega) (O8.out.below B3.out (fun j e => by omega) B3.out.size) rfl
  · rw [decide_eq_false hmay]
    have HE1 := Lib.hid (HE.out.trans (if_pos hmay))
    clear HE hmay
    obtain ⟨z0, z1⟩ := R3.out.box
    have f0 := frozen_plain R3.out 0
    have f1 := frozen_plain R3.out 1
    have HS8 := Lib.hid (R3.out.set2 0 none 0 0)
    have O8 := Lib.hid (only_two W3 (w.heap.size + 1) (.int .u64 0) (.slice none 0 0))
    go_wp2
    (try simp only [Exit.inBlock, Exit.then])
    refine bodyPost_ret (qres_tmp rfl _ _ (w.heap.size + 1) 25 #[.int .u64 0, .slice none 0 0] (0, 0) _ rfl HS8.out Try.underlying25 rfl (by kernel_rfl)) rfl ?_
    exact HQ1.out 1 _ _ HE1.out (by omega) (O8.out.below B3.out (fun j e => by omega) B3.out.size) rfl
end Go.Proofs.Ytmkkhknbokfciaa
