/-
  The walk of WindowPushes. No condition.
-/
import Derived.Test.YtmkkhknbokfciaaQawake
import Derived.Test.YtmkkhknbokfciaaQargs
import Derived.Test.YtmkkhknbokfciaaQlong
import Derived.Test.YtmkkhknbokfciaaQsame
import Derived.Test.YtmkkhknbokfciaaQspoil
import Derived.Test.YtmkkhknbokfciaaQrpush
namespace Go.Proofs.Ytmkkhknbokfciaa
set_option maxRecDepth 20000
open Go.RowKit

/-- The sender's own copy, and the text, whatever order they come in. -/
structure PushS (w W3 : World) (b n : Nat) (ls : List (List UInt8)) (pb : Nat) (A4 : Option Addr) (c4 : Nat) (W : World) : Prop where
  row : SRow pb b A4 n c4 W
  own : ORws W W3.heap.size A4 n c4 ls
  below : Below W3.heap.size W3 W
theorem pushS_new {w W3 V : World} {b n : Nat} {ls : List (List UInt8)} {A4 : Option Addr} {c4 : Nat} (o4 : ORws V W3.heap.size A4 n c4 ls) (b4 : Below W3.heap.size W3 V) :
    PushS w W3 b n ls V.heap.size A4 c4 (((V.alloc (.cells #[.int .u64 0, .slice none 0 0] 25)).setCell ⟨V.heap.size, 0, none⟩ (.int .u64 b)).setCell ⟨V.heap.size, 1, none⟩ (.slice A4 n c4)) := by
  have h0 : SRow V.heap.size 0 none 0 0 (V.alloc (.cells #[.int .u64 0, .slice none 0 0] 25)) := qnew V _ _
  have h1 := only_two (V.alloc (.cells #[.int .u64 0, .slice none 0 0] 25)) V.heap.size (.int .u64 b) (.slice A4 n c4)
  have hq := qbox V (.cells #[.int .u64 0, .slice none 0 0] 25)
  exact ⟨h0.set2 _ _ _ _, (o4.on hq).keepRow h0 h1, h1.below (qtr b4 hq) (fun k e => by have := b4.size; omega) (Nat.le_trans b4.size hq.size)⟩
theorem pushS_made {w W3 V : World} {b n : Nat} {ls : List (List UInt8)} {A4 : Option Addr} {c4 : Nat} (o4 : ORws V W3.heap.size A4 n c4 ls) (b4 : Below W3.heap.size W3 V) :
    PushS w W3 b n ls V.heap.size A4 c4 (V.alloc (.cells #[.int .u64 b, .slice A4 n c4] 25)) := by
  have hq := qbox V (.cells #[.int .u64 b, .slice A4 n c4] 25)
  exact ⟨qnew V _ _, o4.on hq, qtr b4 hq⟩
theorem pushS_old {w W3 V : World} {b n pb : Nat} {ls : List (List UInt8)} {A4 : Option Addr} {c4 : Nat} (o4 : ORws V W3.heap.size A4 n c4 ls) (b4 : Below W3.heap.size W3 V) (h0 : SRow pb 0 none 0 0 V) (hp : W3.heap.size ≤ pb) :
    PushS w W3 b n ls pb A4 c4 ((V.setCell ⟨pb, 0, none⟩ (.int .u64 b)).setCell ⟨pb, 1, none⟩ (.slice A4 n c4)) := by
  have h1 := only_two V pb (.int .u64 b) (.slice A4 n c4)
  exact ⟨h0.set2 _ _ _ _, o4.keepRow h0 h1, h1.below b4 (fun k e => by omega) b4.size⟩
def midQ (N : Act → World → Prop) : Exit → Act → World → Prop
  | .normal, a, w => N a w
  | _, _, _ => False
/-- The region between: six slots turn. -/
theorem push_mid {c : Code} {Q : Exit → Act → World → Prop} {a : Act} {w : World} (v19 v21 t : Value) (v20 : Option Addr → Nat → Value) (Pz : Nat → Option Addr → Nat → World → Prop)
    (h : c.wp Try.prog (midQ fun a' W' => ∃ pb A4 c4, a' = (((((a.put (some 19) v19).put (some 20) (v20 A4 c4)).put (some 21) v21).put (some 22) t).put (some 5) (.pointer (some ⟨pb, 0, none⟩))).put (some 6) t ∧ Pz pb A4 c4 W') a w)
    (k : ∀ pb A4 c4 W', Pz pb A4 c4 W' → Q .normal ((((((a.put (some 19) v19).put (some 20) (v20 A4 c4)).put (some 21) v21).put (some 22) t).put (some 5) (.pointer (some ⟨pb, 0, none⟩))).put (some 6) t) W') : c.wp Try.prog Q a w :=
  Code.wp_mono (fun e a' W' hq => by
    cases e with
    | normal =>
      obtain ⟨pb, A4, c4, rfl, hp⟩ := hq
      exact k pb A4 c4 W' hp
    | _ => exact hq.elim) h
set_option maxHeartbeats 40000000 in
theorem pushes7_int (b : Nat) (A : Option Addr) (n c : Nat) (ls : List (List UInt8)) (A2 : Option Addr) (m c2 : Nat) (l : List UInt8) (w : World) (hl : ls.length = n) (hi : Rws w w.heap.size A ls) (hz : ∀ k, k < n → (bodK ls k).length ≤ maxLen) (hm : l.length = m) (h2 : Bytes w w.heap.size A2 l) (hc2 : A2 = none → c2 = 0) :
    Calls Try.prog 3 #[.agg #[.int .u64 (b : Int), .slice A n c], .slice A2 m c2] w fun e w' => e = .returned (.bool true) ∧ Hid (Below w.heap.size w w') := by
  have P1 : Hid (SRow w.heap.size (b : Int) A n c (w.alloc (.cells #[.int .u64 (b : Int), .slice A n c] 25))) := Lib.hid (qnew w _ _)
  have B1 := Lib.hid (qbox w (.cells #[.int .u64 (b : Int), .slice A n c] 25))
  have I1 := Lib.hid ((hi.below B1.out).more B1.out.size)
  have Y1 := Lib.hid ((h2.below B1.out).more B1.out.size)
  have HL := Lib.hid hl
  have HZ := Lib.hid hz
  have HM := Lib.hid hm
  have HC2 := Lib.hid hc2
  clear hi hl hz hm h2 hc2
  go_enter Try.func3, Try.ntmps3
  obtain ⟨k1, k2⟩ := P1.out.box
  go_wp2_with fail
  clear k1 k2
  generalize w.alloc (.cells #[.int .u64 (b : Int), .slice A n c] 25) = W2 at *
  refine (long7_any b A n c ls W2 HL.out I1.out (fun k hk => by have := HZ.out k hk; unfold maxLen at this; omega)).mono ?_
  rintro e W3 ⟨rfl, b3⟩
  have P3 := Lib.hid (P1.out.below b3.out)
  have B3 := Lib.hid (qtr B1.out b3.out)
  have I3 := Lib.hid ((I1.out.below b3.out).more b3.out.size)
  have Y3 := Lib.hid ((Y1.out.below b3.out).more b3.out.size)
  clear P1 B1 I1 Y1 b3
  have skip : ∀ (X : Prop), X → X := fun _ h => h
  by_cases hlg : longS ls
  · rw [decide_eq_true hlg]
    clear hlg
    go_wp2_with fail
    refine (awake7_any _).mono ?_
    rintro e W4 ⟨rfl, b4⟩
    have B4 := Lib.hid (qtr B3.out b4.out)
    go_wp2
    go_ret
    exact ⟨rfl, B4⟩
  · rw [decide_eq_false hlg]
    have hsm := small hlg
    rw [HL.out] at hsm
    have HS := Lib.hid hsm
    clear hlg hsm
    by_cases hbig : m ≤ 65536
    · have g1 : ¬ (65536 : Int) < (m : Int) := by omega
      have HMb := Lib.hid hbig
      clear hbig
      obtain ⟨k1, k2⟩ := P3.out.box
      go_wp2_with fail
      have cs := fun W (hb : Below W3.heap.size W3 W) => conv_str (w := W) (n := m) c2 (Y3.out.below hb) HM.out
      have HCs := Lib.hid cs
      have cs0 : Sem.run Try.prog (convert 26 9 (.slice A2 m c2)) W3.drew = .ok (.string ⟨l.toArray⟩) W3.drew := cs W3.drew ⟨rfl, rfl, rfl, Nat.le_refl _, fun _ _ => rfl⟩
      have bz := qbox W3 (.cells #[.int .u64 0, .slice none 0 0] 25)
      have csz : Sem.run Try.prog (convert 26 9 (.slice A2 m c2)) (W3.alloc (.cells #[.int .u64 0, .slice none 0 0] 25)).drew = .ok (.string ⟨l.toArray⟩) (W3.alloc (.cells #[.int .u64 0, .slice none 0 0] 25)).drew := cs _ ⟨bz.os, bz.tape, bz.output, bz.size, bz.block⟩
      have kz1 := qold k1 bz
      have kz2 := qold k2 bz
      have HOwn := Lib.hid (fun W (hb : Below W3.heap.size W3 W) => own_any b A n c ls W HL.out ((I3.out.below hb).more hb.size) HS.out.1 HS.out.2)
      have HBz := Lib.hid bz
      have HRz : Hid (SRow W3.heap.size 0 none 0 0 (W3.alloc (.cells #[.int .u64 0, .slice none 0 0] 25)).drew) := Lib.hid (show SRow W3.heap.size 0 none 0 0 (W3.alloc (.cells #[.int .u64 0, .slice none 0 0] 25)) from qnew W3 _ _)
      have HB0 : Hid (Below W3.heap.size W3 W3.drew) := Lib.hid ⟨rfl, rfl, rfl, Nat.le_refl _, fun _ _ => rfl⟩
      have HBd : Hid (Below W3.heap.size W3 (W3.alloc (.cells #[.int .u64 0, .slice none 0 0] 25)).drew) := Lib.hid ⟨bz.os, bz.tape, bz.output, bz.size, bz.block⟩
      clear cs bz
      refine push_mid (.agg #[.int .u64 b, .slice A n c]) (.slice A2 m c2) (.string ⟨l.toArray⟩) (fun A4 c4 => .agg #[.int .u64 b, .slice A4 n c4]) (PushS w W3 b n ls) ?_ ?_
      rotate_left
      · intro pb A4 c4 W4 hS
        have HQ5 := Lib.hid (show w.heap.size ≤ W3.heap.size from B3.out.size)
        have P4 := Lib.hid (P3.out.keep (S := fun j => ¬ j < W3.heap.size) (⟨hS.below.os, hS.below.tape, hS.below.output, hS.below.size, fun k _ hn => hS.below.block k (Decidable.not_not.1 hn)⟩) (fun h => h (lt_of_heap P3.out)))
        have S4 := Lib.hid hS.row
        have O4 := Lib.hid hS.own
        have B4 := Lib.hid (B3.out.trans (hS.below.mono B3.out.size))
        have I4 := Lib.hid ((I3.out.below hS.below).more hS.below.size)
        have Y4 := Lib.hid ((Y3.out.below hS.below).more hS.below.size)
        clear hS cs0 csz kz1 kz2 HOwn HBz HRz HB0 HBd HCs k1 k2 P3 B3 I3 Y3
        obtain ⟨k1, k2⟩ := P4.out.box
        simp only [Act.put, List.setIfInBounds_toArray, List.set_cons_succ, List.set_cons_zero]
        go_wp2_with fail
        clear k1 k2
        refine (push_any b A n c ls A2 m c2 l W4 HL.out I4.out HM.out Y4.out HC2.out (by have := HMb.out; omega)).mono ?_
        rintro e W6 ⟨A6, c6, rfl, o6, b6⟩
        have HR := Lib.hid (fun (A3 : Option Addr) (c3 : Nat) (W : World) (hi : Rws W W.heap.size A4 ls) (h2 : Bytes W W.heap.size A3 l) (h3 : A3 = none → c3 = 0) => rpush_any b A4 n c4 ls A3 m c3 l W HL.out hi HM.out h2 h3 (by have := HMb.out; omega))
        unfold PushE at HR
        have HSm := Lib.hid (show (pushL b ls l).length ≤ 2001 ∧ ∀ k, k < (pushL b ls l).length → (bodK (pushL b ls l) k).length ≤ 1000000 from by
          unfold pushL
          split
          · refine ⟨by simp; have := HL.out; have := HS.out.1; omega, fun k hk => ?_⟩
            rcases Nat.lt_or_ge k ls.length with h | h
            · rw [bodK_left h]
              exact HS.out.2 k (by have := HL.out; omega)
            · obtain rfl : k = ls.length := by simp at hk; omega
              rw [bodK_last]
              have := HM.out
              have := HMb.out
              omega
          · exact ⟨by simp, fun k hk => absurd hk (by simp)⟩)
        generalize pushB b ls l = b8n at *
        generalize pushL b ls l = ls8 at *
        generalize pushErr b ls l = er at *
        generalize hm8 : ls8.length = m8 at *
        have HM8 := Lib.hid hm8
        clear hm8
        have PP4 := Lib.hid P4.out
        have SS4 := Lib.hid S4.out
        have BB4 := Lib.hid B4.out
        have HI4 := Lib.hid I4.out
        have HY4 := Lib.hid Y4.out
        have HO4 := Lib.hid O4.out.rws
        have S6 := Lib.hid (S4.out.below b6.out)
        have O6 := Lib.hid (O4.out.on b6.out)
        have D7 := Lib.hid (show SRow W6.heap.size b8n A6 m8 c6 (W6.alloc (.cells #[.int .u64 (b8n : Int), .slice A6 m8 c6] 25)) from qnew W6 _ _)
        have b7 := qbox W6 (.cells #[.int .u64 (b8n : Int), .slice A6 m8 c6] 25)
        have C7 := Lib.hid (qtr b6.out b7)
        have S7 := Lib.hid (S6.out.below b7)
        have O7 := Lib.hid (O6.out.on b7)
        have Q7 := Lib.hid (o6.out.on b7)
        clear P4 S4 B4 I4 Y4 O4 b6 o6 S6 O6 b7
        obtain ⟨k1, k2⟩ := S7.out.box
        have ht : l.length = (⟨l.toArray⟩ : ByteArray).size := rfl
        have hsl : strL (⟨l.toArray⟩ : ByteArray) = l := rfl
        obtain ⟨Wc, cc, hcv, hyc, hoc⟩ := conv_bytes (⟨l.toArray⟩ : ByteArray) (W6.alloc (.cells #[.int .u64 (b8n : Int), .slice A6 m8 c6] 25))
        rw [hsl] at hyc
        rw [← ht, HM.out] at hcv
        have bc := Lib.hid (show Below (W6.alloc (.cells #[.int .u64 (b8n : Int), .slice A6 m8 c6] 25)).heap.size (W6.alloc (.cells #[.int .u64 (b8n : Int), .slice A6 m8 c6] 25)) Wc from ⟨hoc.out.os, hoc.out.tape, hoc.out.output, hoc.out.size, fun k hk => hoc.out.block k hk (fun h => h)⟩)
        have S8 := Lib.hid (S7.out.below bc.out)
        have O8 := Lib.hid (O7.out.on bc.out)
        have Q8 := Lib.hid (Q7.out.on bc.out)
        have D8 := Lib.hid (D7.out.below bc.out)
        have C8 := Lib.hid (qtr C7.out bc.out)
        have es : (W6.alloc (.cells #[.int .u64 (b8n : Int), .slice A6 m8 c6] 25)).heap.size = W6.heap.size + 1 := by simp
        rw [es] at hcv hyc
        clear hoc ht hsl S7 O7 Q7 D7 C7 bc
        go_wp2_with fail
        clear k1 k2 hcv
        refine (HR.out _ cc Wc O8.out.rws hyc.out (fun h => by cases h)).mono ?_
        rintro e W9 ⟨A9, c9, rfl, o9, b9⟩
        have HZ8 := Lib.hid (show W4.heap.size ≤ Wc.heap.size from C8.out.size)
        have Q9 := Lib.hid (Q8.out.on b9.out)
        have D9 := Lib.hid (D8.out.below b9.out)
        have C9 := Lib.hid (qtr C8.out b9.out)
        have V10 := Lib.hid (show SRow W9.heap.size b8n A9 m8 c9 (W9.alloc (.cells #[.int .u64 (b8n : Int), .slice A9 m8 c9] 25)) from qnew W9 _ _)
        have b10 := qbox W9 (.cells #[.int .u64 (b8n : Int), .slice A9 m8 c9] 25)
        have Q10 := Lib.hid (Q9.out.on b10)
        have D10 := Lib.hid (D9.out.below b10)
        have C10 := Lib.hid (qtr C9.out b10)
        have J10 := Lib.hid ((o9.out.rws.below b10).more b10.size)
        clear S8 O8 Q8 D8 C8 HR hyc b9 o9 Q9 D9 C9 b10 es
        obtain ⟨k1, k2⟩ := D10.out.box
        obtain ⟨j1, j2⟩ := V10.out.box
        have ee : ((er : Int) != (er : Int)) = false := by simp
        go_wp2_with fail
        clear k1 k2 j1 j2 ee
        generalize W9.alloc (.cells #[.int .u64 (b8n : Int), .slice A9 m8 c9] 25) = W10 at *
        refine (same7_any b8n b8n A6 A9 m8 c6 m8 c9 ls8 ls8 W10 (by have := HSm.out.1; omega) HM8.out HM8.out Q10.out.rws J10.out).mono ?_
        rintro e W11 ⟨rfl, b11⟩
        rw [decide_eq_true (show b8n = b8n ∧ ls8 = ls8 from ⟨rfl, rfl⟩)]
        have Q11 := Lib.hid (Q10.out.on b11.out)
        have D11 := Lib.hid (D10.out.below b11.out)
        have C11 := Lib.hid (qtr C10.out b11.out)
        clear V10 Q10 D10 C10 J10 b11
        obtain ⟨k1, k2⟩ := D11.out.box
        go_wp2_with fail
        clear k1 k2
        refine (spoil7_any b8n A6 m8 c6 W4.heap.size ls8 W11 Q11.out C11.out.size (by have := HSm.out.1; omega) (fun k hk => HSm.out.2 k hk)).mono ?_
        rintro e W12 ⟨⟨v, rfl⟩, b12⟩
        have C12 := Lib.hid (show Below W4.heap.size W4 W12 from C11.out.trans b12.out)
        have P12 := Lib.hid (PP4.out.below C12.out)
        have S12 := Lib.hid (SS4.out.below C12.out)
        have B12 := Lib.hid (qtr BB4.out C12.out)
        have I12 := Lib.hid ((HI4.out.below C12.out).more C12.out.size)
        have J12 := Lib.hid ((HO4.out.below C12.out).more C12.out.size)
        have Y12 := Lib.hid (HY4.out.below C12.out)
        have B12q := Lib.hid C12.out.size
        clear Q11 D11 C11 b12 C12 PP4 SS4 BB4 HI4 HY4 HO4
        obtain ⟨k1, k2⟩ := P12.out.box
        obtain ⟨j1, j2⟩ := S12.out.box
        go_wp2_with fail
        clear k1 k2 j1 j2
        refine (same7_any b b A A4 n c n c4 ls ls W12 (by have := HS.out.1; omega) HL.out HL.out I12.out J12.out).mono ?_
        rintro e W13 ⟨rfl, b13⟩
        rw [decide_eq_true (show b = b ∧ ls = ls from ⟨rfl, rfl⟩)]
        have B13 := Lib.hid (qtr B12.out b13.out)
        have cs := conv_str (w := W13) (n := m) c2 ((Y12.out.more B12q.out).below b13.out) HM.out
        have ct : ((⟨l.toArray⟩ : ByteArray).toList == (⟨l.toArray⟩ : ByteArray).toList) = true := by simp
        clear b13 Y12
        go_wp2_with fail
        clear cs ct
        refine (awake7_any _).mono ?_
        rintro e W14 ⟨rfl, b14⟩
        have B14 := Lib.hid (qtr B13.out b14.out)
        clear b14
        go_wp2
        go_ret
        exact ⟨rfl, B14⟩
      go_region_law (first
        | (refine step_free rfl ?_; unfold Oper.wp; simp only [execOp]; go_simp; go_at_call 12; refine (HOwn.out W3.drew HB0.out).mono ?_; rintro e V1 ⟨A4, c4, rfl, o4, b4⟩; have h4 := Lib.hid (undrew (w := W3) b4.out); have HO := Lib.hid (show ORws V1 W3.heap.size A4 n c4 ls from o4.out); have bq := qbox V1 (.cells #[.int .u64 0, .slice none 0 0] 25); have c1 := HCs.out V1 h4.out; have c3 := HCs.out _ (qtr h4.out bq); have z0 := (sbox_new V1 0 none 0 0 25).1; have z1 := (sbox_new V1 0 none 0 0 25).2; have HF := Lib.hid (pushS_made (w := w) (b := b) HO.out h4.out); have c5 := HCs.out _ HF.out.below; clear o4 b4 bq)
        | (refine step_free rfl ?_; unfold Oper.wp; simp only [execOp]; go_simp; go_at_call 12; refine (HOwn.out (W3.alloc (.cells #[.int .u64 0, .slice none 0 0] 25)).drew HBd.out).mono ?_; rintro e V1 ⟨A4, c4, rfl, o4, b4⟩; have h4 := Lib.hid (HBd.out.trans (b4.out.mono HBd.out.size)); have HO := Lib.hid (o4.out.lower (show W3.heap.size ≤ _ from HBd.out.size)); have c1 := HCs.out V1 h4.out; have hr4 := HRz.out.below b4.out; have z0 := hr4.box.1; have z1 := hr4.box.2; have f0 := frozen_plain hr4 0; have f1 := frozen_plain hr4 1; have HF := Lib.hid (pushS_old (w := w) (b := b) HO.out h4.out hr4 (Nat.le_refl _)); have c5 := HCs.out _ HF.out.below; clear o4 b4 hr4))
      all_goals
        exact ⟨_, A4, c4, rfl, HF.out⟩
    · have g1 : (65536 : Int) < (m : Int) := by omega
      clear hbig
      go_wp2_with fail
      refine (awake7_any _).mono ?_
      rintro e W4 ⟨rfl, b4⟩
      have B4 := Lib.hid (qtr B3.out b4.out)
      go_wp2
      go_ret
      exact ⟨rfl, B4⟩
theorem pushes7_walk (b : Nat) (A : Option Addr) (ls : List (List UInt8)) (c : Nat) (A2 : Option Addr) (l : List UInt8) (c2 : Nat) (W : World) (hi : Rws W W.heap.size A ls) (hz : ∀ k, k < ls.length → (bodK ls k).length ≤ maxLen) (hc2 : A2 = none → c2 = 0) (h2 : Bytes W W.heap.size A2 l) :
    Calls Try.prog 3 #[.agg #[.int .u64 (b : Int), .slice A ls.length c], .slice A2 l.length c2] W fun e w' => e = .returned (.bool true) ∧ Hid (Below W.heap.size W w') :=
  pushes7_int b A ls.length c ls A2 l.length c2 l W rfl hi hz rfl h2 hc2
end Go.Proofs.Ytmkkhknbokfciaa
