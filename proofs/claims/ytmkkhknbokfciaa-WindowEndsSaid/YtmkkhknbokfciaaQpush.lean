/-
  Package window's Push. For senders of at most 2000 bodies of at most 1,000,000 bytes.
-/
import Derived.Test.YtmkkhknbokfciaaQres
import Derived.Test.YtmkkhknbokfciaaQdue
import Derived.Test.YtmkkhknbokfciaaQcopy
namespace Go.Proofs.Ytmkkhknbokfciaa
set_option maxRecDepth 20000
open Go.RowKit

/-- The error of a push. -/
def pushErr (b : Nat) (ls : List (List UInt8)) (l : List UInt8) : Nat := if ¬ mayS b ls then 1 else if ¬ bodyS l then 2 else if ls.length = 48 ∨ b + ls.length = 34359738367 then 4 else 0
def pushB (b : Nat) (ls : List (List UInt8)) (l : List UInt8) : Nat := if pushErr b ls l = 0 then b else 0
def pushL (b : Nat) (ls : List (List UInt8)) (l : List UInt8) : List (List UInt8) := if pushErr b ls l = 0 then ls ++ [l] else []
/-- What Push answers. -/
def PushE (w : World) (b : Nat) (ls : List (List UInt8)) (l : List UInt8) (e : Ending) (w' : World) : Prop :=
  ∃ A' c', e = .returned (.tuple #[.agg #[.int .u64 (pushB b ls l : Nat), .slice A' (pushL b ls l).length c'], .int .i64 (pushErr b ls l : Nat)]) ∧ Hid (ORws w' w.heap.size A' (pushL b ls l).length c' (pushL b ls l)) ∧ Hid (Below w.heap.size w w')
theorem pushE_err {w w' : World} {b : Nat} {ls : List (List UInt8)} {l : List UInt8} {er : Nat} (h : pushErr b ls l = er) (h0 : er ≠ 0) (hb : Below w.heap.size w w') {e : Ending} (he : e = .returned (.tuple #[.agg #[.int .u64 0, .slice none 0 0], .int .i64 (er : Nat)])) : PushE w b ls l e w' := by
  subst h
  have h1 : pushB b ls l = 0 := if_neg h0
  have h2 : pushL b ls l = [] := if_neg h0
  refine ⟨none, 0, ?_, Lib.hid ?_, Lib.hid hb⟩
  · rw [h1, h2, he]; rfl
  · rw [h2]; exact ORws.nil_
theorem pushE_ok {w w' : World} {b : Nat} {ls : List (List UInt8)} {l : List UInt8} {A' : Option Addr} {n c' : Nat} (h : pushErr b ls l = 0) (hn : ls.length = n) (ho : ORws w' w.heap.size A' (n + 1) c' (ls ++ [l])) (hb : Below w.heap.size w w') {e : Ending} (he : e = .returned (.tuple #[.agg #[.int .u64 (b : Nat), .slice A' (n + 1) c'], .int .i64 0])) : PushE w b ls l e w' := by
  have h1 : pushB b ls l = b := if_pos h
  have h2 : pushL b ls l = ls ++ [l] := if_pos h
  have h3 : (ls ++ [l]).length = n + 1 := by simp [hn]
  refine ⟨A', c', ?_, Lib.hid ?_, Lib.hid hb⟩
  · rw [h1, h2, h, h3, he]; rfl
  · rw [h2, h3]; exact ho
/-- A store into a sender's cells leaves rows alone. -/
theorem ORws.keepRow {w w' : World} {base : Nat} {A : Option Addr} {n c G : Nat} {ls : List (List UInt8)} {b' : Int} {A0 : Option Addr} {n0 c0 : Nat} (h : ORws w base A n c ls) (hr : SRow G b' A0 n0 c0 w) (ho : Only (fun k => k = G) w w') : ORws w' base A n c ls := by
  obtain ⟨vs, h1, h2, h3⟩ := h
  unfold SRow at hr
  refine ⟨vs, h1.keep ho (fun k e hk => ?_), h2, fun k hk => ?_⟩
  · subst hk
    rcases h1.2 with ⟨hv, _⟩ | ⟨g, c', cur, hv, hg, hh, _⟩
    · have hv' : A = none ∧ n = 0 ∧ c = 0 := by simpa using hv
      rw [hv'.1] at e
      cases e
    · have hv' : A = some ⟨g, 0, none⟩ ∧ c = c' := by simpa using hv
      rw [hv'.1] at e
      have e' : g = k := Option.some.inj e
      rw [e', hr] at hh
      simp at hh
  · obtain ⟨A', c', e1, e2, e3⟩ := h3 k hk
    refine ⟨A', c', e1, e2.keep ho (fun g hg hk => ?_), e3⟩
    subst hk
    obtain ⟨_, cur, hh, _⟩ := e2.block hg
    rw [hr] at hh
    simp at hh
set_option maxHeartbeats 4000000 in
theorem push_any (b : Nat) (A : Option Addr) (n c : Nat) (ls : List (List UInt8)) (A2 : Option Addr) (m c2 : Nat) (l : List UInt8) (w : World) (hl : ls.length = n) (hi : Rws w w.heap.size A ls) (hm : l.length = m) (h2 : Bytes w w.heap.size A2 l) (hc2 : A2 = none → c2 = 0) (hm2 : m ≤ 140737488355328) :
    Calls Try.prog 13 #[.agg #[.int .u64 (b : Int), .slice A n c], .slice A2 m c2] w (PushE w b ls l) := by
  have X1 := Lib.hid (sbox_new w (b : Int) A n c 25)
  have b1 := qbox w (.cells #[.int .u64 (b : Int), .slice A n c] 25)
  have R2 := Lib.hid (show SRow (w.alloc (.cells #[.int .u64 (b : Int), .slice A n c] 25)).heap.size 0 none 0 0 ((w.alloc (.cells #[.int .u64 (b : Int), .slice A n c] 25)).alloc (.cells #[.int .u64 0, .slice none 0 0] 25)) from qnew _ _ _)
  have b2 := qbox (w.alloc (.cells #[.int .u64 (b : Int), .slice A n c] 25)) (.cells #[.int .u64 0, .slice none 0 0] 25)
  have X2 := Lib.hid (X1.out.below b2)
  have B2 := Lib.hid (qtr b1 b2)
  have I2 := Lib.hid ((hi.below B2.out).more B2.out.size)
  have J2 := Lib.hid ((h2.below B2.out).more B2.out.size)
  have HL := Lib.hid hl
  have HM := Lib.hid hm
  have HC2 := Lib.hid hc2
  have es : (w.alloc (.cells #[.int .u64 (b : Int), .slice A n c] 25)).heap.size = w.heap.size + 1 := by simp
  rw [es] at R2
  have HE : Hid (pushErr b ls l = if ¬ mayS b ls then 1 else if ¬ (1 ≤ m ∧ m ≤ 448) then 2 else if n = 48 ∨ b + n = 34359738367 then 4 else 0) := Lib.hid (by unfold pushErr bodyS; rw [hl, hm])
  have HQ1 : Hid (∀ er w' e, pushErr b ls l = er → er ≠ 0 → Below w.heap.size w w' → e = .returned (.tuple #[.agg #[.int .u64 0, .slice none 0 0], .int .i64 (er : Nat)]) → PushE w b ls l e w') := Lib.hid (fun er w' e h h0 hb he => pushE_err h h0 hb he)
  have HQ2 : Hid (∀ A' c' w' e, pushErr b ls l = 0 → ORws w' w.heap.size A' (n + 1) c' (ls ++ [l]) → Below w.heap.size w w' → e = .returned (.tuple #[.agg #[.int .u64 (b : Nat), .slice A' (n + 1) c'], .int .i64 0]) → PushE w b ls l e w') := Lib.hid (fun A' c' w' e h ho hb he => pushE_ok h hl ho hb he)
  clear X1 b1 b2 hi hl es h2 hm hc2
  generalize PushE w b ls l = Q0 at *
  go_enter Try.func13, Try.ntmps13
  obtain ⟨k0, k1⟩ := X2.out
  go_wp2_with fail
  generalize (w.alloc (.cells #[.int .u64 (b : Int), .slice A n c] 25)).alloc (.cells #[.int .u64 0, .slice none 0 0] 25) = W2 at *
  clear k0 k1
  refine (smay_any b A n c ls _ HL.out I2.out).mono ?_
  rintro e W3 ⟨rfl, hb⟩
  have X3 := Lib.hid (X2.out.below hb.out)
  have R3 := Lib.hid (R2.out.below hb.out)
  have B3 := Lib.hid (qtr B2.out hb.out)
  have I3 := Lib.hid ((I2.out.below hb.out).more hb.out.size)
  have J3 := Lib.hid ((J2.out.below hb.out).more hb.out.size)
  clear X2 R2 hb I2 J2 B2
  by_cases hmay : mayS b ls
  · rw [decide_eq_true hmay]
    have HMay := Lib.hid hmay
    rw [if_neg (not_not_intro hmay)] at HE
    clear hmay
    go_wp2_with fail
    refine (isbody_any _ _ _ _).mono ?_
    rintro e W4 ⟨rfl, rfl⟩
    by_cases hbd : 1 ≤ m ∧ m ≤ 448
    · rw [decide_eq_true hbd]
      rw [if_neg (not_not_intro hbd)] at HE
      have HBd := Lib.hid hbd
      clear hbd
      obtain ⟨k0, k1⟩ := X3.out
      have hcap : b + n ≤ 34359738367 := by have := HMay.out.2.1; rw [HL.out] at this; exact this
      have hn48 : n ≤ 48 := by have := HMay.out.1; rw [HL.out] at this; exact this
      by_cases h48 : n = 48
      · have HE4 := Lib.hid (HE.out.trans (if_pos (.inl h48)))
        subst h48
        obtain ⟨z0, z1⟩ := R3.out.box
        have f0 := frozen_plain R3.out 0
        have f1 := frozen_plain R3.out 1
        have HS8 := Lib.hid (R3.out.set2 0 none 0 0)
        have O8 := Lib.hid (only_two W3 (w.heap.size + 1) (.int .u64 0) (.slice none 0 0))
        clear HE hcap hn48
        go_wp2
        (try simp only [Exit.inBlock, Exit.then])
        refine bodyPost_ret (qres_tmp rfl _ _ (w.heap.size + 1) 25 #[.int .u64 0, .slice none 0 0] (0, 0) _ rfl HS8.out Try.underlying25 rfl (by kernel_rfl)) rfl ?_
        exact HQ1.out 4 _ _ HE4.out (by omega) (O8.out.below B3.out (fun j e => by omega) B3.out.size) rfl
      · have q48 : ((n : Int) == 48) = false := by rw [beq_eq_false_iff_ne]; omega
        have HLa := Lib.hid (last_any b n c A W3 hcap)
        go_wp2_with fail
        refine HLa.out.mono ?_
        rintro e W5 ⟨rfl, hb5⟩
        have X5 := Lib.hid (X3.out.below hb5.out)
        have R5 := Lib.hid (R3.out.below hb5.out)
        have B5 := Lib.hid (qtr B3.out hb5.out)
        have I5 := Lib.hid ((I3.out.below hb5.out).more hb5.out.size)
        have J5 := Lib.hid ((J3.out.below hb5.out).more hb5.out.size)
        clear k0 k1 X3 R3 B3 I3 J3 hb5 HLa
        obtain ⟨k0, k1⟩ := X5.out
        obtain ⟨z0, z1⟩ := R5.out.box
        have f0 := frozen_plain R5.out 0
        have f1 := frozen_plain R5.out 1
        by_cases hfull : b + n = 34359738367
        · have HE4 := Lib.hid (HE.out.trans (if_pos (.inr hfull)))
          have qf : (((b + n : Nat) : Int) == 34359738367) = true := by rw [beq_iff_eq]; omega
          have HS8 := Lib.hid (R5.out.set2 0 none 0 0)
          have O8 := Lib.hid (only_two W5 (w.heap.size + 1) (.int .u64 0) (.slice none 0 0))
          clear HE hcap hn48 h48 hfull
          generalize ((b + n : Nat) : Int) = bn at *
          go_wp2
          (try simp only [Exit.inBlock, Exit.then])
          refine bodyPost_ret (qres_tmp rfl _ _ (w.heap.size + 1) 25 #[.int .u64 0, .slice none 0 0] (0, 0) _ rfl HS8.out Try.underlying25 rfl (by kernel_rfl)) rfl ?_
          exact HQ1.out 4 _ _ HE4.out (by omega) (O8.out.below B5.out (fun j e => by omega) B5.out.size) rfl
        · have HE0 := Lib.hid (HE.out.trans (if_neg (fun h => h.elim h48 hfull)))
          have qf : (((b + n : Nat) : Int) == 34359738367) = false := by rw [beq_eq_false_iff_ne]; omega
          have hsm := mayS_small HMay.out
          have HCo := Lib.hid (copied_any b A n c ls W5 HL.out I5.out (by omega) (fun k hk => by have := hsm.2 k (by rw [HL.out]; exact hk); omega))
          have HN := Lib.hid hn48
          clear HE hcap hn48 h48 hfull hsm
          generalize ((b + n : Nat) : Int) = bn at *
          go_wp2_with fail
          refine HCo.out.mono ?_
          rintro e W6 ⟨A6, c6, rfl, ho6, hb6⟩
          have R6 := Lib.hid (R5.out.below hb6.out)
          have B6 := Lib.hid (qtr B5.out hb6.out)
          have J6 := Lib.hid ((J5.out.below hb6.out).more hb6.out.size)
          have HW5 := Lib.hid (show w.heap.size + 1 < W5.heap.size from lt_of_heap R5.out)
          have O6 := Lib.hid (ho6.out.lower (show w.heap.size ≤ W5.heap.size by have := HW5.out; omega))
          have HA6 := Lib.hid (show ∀ k, blockOf A6 = some k → W5.heap.size ≤ k from fun k e => (ho6.out.bs k e).1)
          clear k0 k1 z0 z1 f0 f1 HCo X5 R5 B5 I5 J5 ho6 hb6
          have R7 : Hid (SRow W6.heap.size (b : Int) A6 n c6 (W6.alloc (.cells #[.int .u64 (b : Int), .slice A6 n c6] 25))) := Lib.hid (qnew W6 _ _)
          have b7 := qbox W6 (.cells #[.int .u64 (b : Int), .slice A6 n c6] 25)
          have R7' := Lib.hid (R6.out.below b7)
          have B7 := Lib.hid (qtr B6.out b7)
          have J7 := Lib.hid ((J6.out.below b7).more b7.size)
          have O7 := Lib.hid (O6.out.on b7)
          have HOb := Lib.hid O6.out.bs
          have HWu := Lib.hid (show w.heap.size + 1 < W6.heap.size from lt_of_heap R6.out)
          have HWG : Hid ((W6.alloc (.cells #[.int .u64 (b : Int), .slice A6 n c6] 25)).heap.size = W6.heap.size + 1) := Lib.hid (by simp)
          have HNb := Lib.hid (show ∀ k, blockOf A6 = some k → k ≠ w.heap.size + 1 from fun k e => by have := HA6.out k e; have := HW5.out; omega)
          have HGe := Lib.hid (show ∀ k, blockOf A6 = some k → w.heap.size ≤ k from fun k e => (O6.out.bs k e).1)
          clear R6 B6 J6 O6 b7
          obtain ⟨k0, k1⟩ := R7.out.box
          go_wp2_with fail
          generalize W6.alloc (.cells #[.int .u64 (b : Int), .slice A6 n c6] 25) = W7 at *
          generalize W6.heap.size = G at *
          clear k0
          have HCl := Lib.hid (clone_any A2 l m c2 W7.heap.size W7.drew HM.out HC2.out J7.out (Nat.le_refl _) (by have := HBd.out; omega))
          go_region_law (first
            | (refine step_free rfl ?_; unfold Oper.wp; simp only [execOp]; go_simp; go_at_call 32; refine HCl.out.mono ?_; rintro e V1 ⟨A1, c1, rfl, o1, b1⟩; have Y1 := Lib.hid (R7.out.below (undrew b1.out)); have k41 := Y1.out.box.2; have k42 := fun o => qold k41 (qbox _ o); have U1 := Lib.hid (O7.out.on (undrew b1.out)); have S1 := Lib.hid (show w.heap.size ≤ V1.heap.size from Nat.le_trans B7.out.size b1.out.size))
            | (refine step_appendR rfl rfl (.tmp 31) (.tmp 34) rfl w.heap.size A6 n c6 ls rfl (Nat.le_trans S1.out (qbox _ _).size) (U1.out.on (qbox _ _)) V1.heap.size A1 l.length c1 l rfl ((cell_of_row _ _ 0 _ _ (0, 0) (qnew V1 #[.slice A1 l.length c1] 26)).trans rfl) rfl ((o1.out.lower (show w.heap.size ≤ W7.heap.size from B7.out.size)).keep (S := fun _ => False) (Only.ofBelow (qbox _ _)) (fun _ _ h => h)) (fun g hg e => by have h1 : W7.heap.size ≤ g := (o1.out.lt hg).1; have h2 := (HOb.out g e).2; have := HWG.out; omega) (by have := HN.out; omega) ?_; intro A8 c8 V6 e61 e62 e63; have X6 := Lib.hid ((Y1.out.below (qbox _ _)).keep e62.out (fun e => by have := (HOb.out _ e).2; omega)); have z6 := X6.out.box.2; have f6 := frozen_plain X6.out 1))
          all_goals
            have O7s := Lib.hid (show Only (fun k => k = G) V6 (V6.setCell ⟨G, 1, none⟩ (.slice A8 (n + 1) c8)) from (Only.refl (fun k => k = G) V6).setCell (p := ⟨G, 1, none⟩) (.inl rfl) _)
            have X7 := Lib.hid (X6.out.set1 A8 (n + 1) c8)
            have U7 := Lib.hid (e61.out.keepRow X6.out O7s.out)
            have Q1 : Only (fun k => k = G ∨ blockOf A6 = some k) W7 V6 := ((Only.ofBelow (S := fun k => k = G ∨ blockOf A6 = some k) (undrew b1.out)).trans (Only.ofBelow (S := fun k => k = G ∨ blockOf A6 = some k) (qbox V1 (.cells #[.slice A1 l.length c1] 26))) fun _ _ h => h).trans e62.out fun j hj e => .inr e
            have Q7 := Lib.hid (Q1.trans O7s.out fun j hj e => .inl e)
            have RP := Lib.hid (R7'.out.keep Q7.out (fun e => by rcases e with e | e; exact absurd e (by have := HWu.out; omega); exact HNb.out _ e rfl))
            have B8 := Lib.hid (Q7.out.below B7.out (fun k e => by rcases e with e | e; have := HWu.out; omega; exact HGe.out k e) B7.out.size)
            clear e61 e62 e63 X6 z6 f6 Y1 k41 k42 U1 S1 o1 b1 O7s Q1 Q7
            obtain ⟨k0, k1⟩ := X7.out.box
            obtain ⟨z0, z1⟩ := RP.out.box
            have f0 := frozen_plain RP.out 0
            have f1 := frozen_plain RP.out 1
            generalize V6.setCell ⟨G, 1, none⟩ (.slice A8 (n + 1) c8) = V7 at *
            have HS8 := Lib.hid (RP.out.set2 b A8 (n + 1) c8)
            have O8 := Lib.hid (only_two V7 (w.heap.size + 1) (.int .u64 b) (.slice A8 (n + 1) c8))
            have U8' := Lib.hid (U7.out.keepRow RP.out O8.out)
            have B9 := Lib.hid (O8.out.below B8.out (fun j e => by omega) B8.out.size)
            go_wp2
            (try simp only [Exit.inBlock, Exit.then])
            refine bodyPost_ret (qres_tmp rfl _ _ (w.heap.size + 1) 25 #[.int .u64 b, .slice A8 (n + 1) c8] (0, 0) _ rfl HS8.out Try.underlying25 rfl (by kernel_rfl)) rfl ?_
            exact HQ2.out A8 c8 _ _ HE0.out U8'.out B9.out rfl
    · rw [decide_eq_false hbd]
      have HE2 := Lib.hid (HE.out.trans (if_pos hbd))
      clear HE hbd
      obtain ⟨z0, z1⟩ := R3.out.box
      have f0 := frozen_plain R3.out 0
      have f1 := frozen_plain R3.out 1
      have HS8 := Lib.hid (R3.out.set2 0 none 0 0)
      have O8 := Lib.hid (only_two W3 (w.heap.size + 1) (.int .u64 0) (.slice none 0 0))
      go_wp2
      (try simp only [Exit.inBlock, Exit.then])
      refine bodyPost_ret (qres_tmp rfl _ _ (w.heap.size + 1) 25 #[.int .u64 0, .slice none 0 0] (0, 0) _ rfl HS8.out Try.underlying25 rfl (by kernel_rfl)) rfl ?_
      exact HQ1.out 2 _ _ HE2.out (by omega) (O8.out.below B3.out (fun j e => by omega) B3.out.size) rfl
  · rw [decide_eq_false hmay]
    have HE1 := Lib.hid (HE.out.trans (if_pos hmay))
    clear HE hmay
    obtain ⟨z0, z1⟩ := R3.out.box
    have f0 := frozen_plain R3.out 0
    have f1 := frozen_plain R3.out 1
    have HS8 := Lib.hid (R3.out.set2 0 none 0 0)
    have O8 := Lib.hid (only_two W3 (w.heap.size + 1) (.int .u64 0) (.slice none 0 0))
    go_wp2
    (try simp only [Exit.inBlock, Exit.then])
    refine bodyPost_ret (qres_tmp rfl _ _ (w.heap.size + 1) 25 #[.int .u64 0, .slice none 0 0] (0, 0) _ rfl HS8.out Try.underlying25 rfl (by kernel_rfl)) rfl ?_
    exact HQ1.out 1 _ _ HE1.out (by omega) (O8.out.below B3.out (fun j e => by omega) B3.out.size) rfl
end Go.Proofs.Ytmkkhknbokfciaa
