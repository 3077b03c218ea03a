/-
  The statement ProcBack's walk: whatever list and bytes, it answers true, and leaves all that was there as it was. No condition but that the list is a list of lives, the bytes are bytes.
-/
import Derived.Test.YtadpbcbgmopfaaaPgets
import Derived.Test.YtadpbcbgmopfaaaPlst
import Derived.Test.YtadpbcbgmopfaaaPlist
import Derived.Test.YtadpbcbgmopfaaaPawake
namespace Go.Proofs.Ytadpbcbgmopfaaa
set_option maxRecDepth 20000
open Go.RowKit

theorem getSetL_put (S : List Life) (hr : Rising S) (hm : ∀ q ∈ S, mayL q) (hu : Unsigned S) (h256 : S.length < 256) (t : List UInt8) : getSetL ⟨wideL S.length 1 ++ putsL S ++ t, false⟩ (S.length : Int) = (S, ⟨t, false⟩) := by
  have h1 : rWide ⟨wideL S.length 1 ++ putsL S ++ t, false⟩ 1 = (S.length, ⟨putsL S ++ t, false⟩) := by
    rw [List.append_assoc]
    exact rWide_one _ h256 _
  have h2 : gets S.length ⟨putsL S ++ t, false⟩ = (S, ⟨t, false⟩) := by
    rw [gets_put S hm hu t S.length (Nat.le_refl _)]
    simp [putsL]
  unfold getSetL
  rw [h1]
  simp only
  rw [if_neg (by omega), h2]
  simp only
  rw [if_pos (setUpTo_rising hr hm)]
theorem may_upTo_succ {S : List Life} {k : Nat} {m : Bool} (h : m = true ↔ S.length < 256 ∧ ∀ j, j < k → mayL (atL S j)) : (m && decide (mayL (atL S k))) = true ↔ S.length < 256 ∧ ∀ j, j < k + 1 → mayL (atL S j) := by
  rw [Bool.and_eq_true, decide_eq_true_iff, h]
  constructor
  · rintro ⟨⟨h0, h1⟩, h2⟩
    refine ⟨h0, fun j hj => ?_⟩
    by_cases e : j = k
    · subst e; exact h2
    · exact h1 j (by omega)
  · rintro ⟨h0, h1⟩
    exact ⟨⟨h0, fun j hj => h1 j (by omega)⟩, h1 k (by omega)⟩
theorem may_of_upTo {S : List Life} (h : ∀ j, j < S.length → mayL (atL S j)) : ∀ q ∈ S, mayL q := fun q hq => by
  obtain ⟨i, hi, rfl⟩ := List.mem_iff_getElem.1 hq
  have := h i hi
  rwa [atL_lt hi] at this
set_option maxHeartbeats 4000000 in
theorem back_walk (A : Option Addr) (A1 : Option Addr) (l : List Life) (t : List UInt8) (c c1 : Nat) (w : World) (h : Lives w w.heap.size A l) (h1 : Bytes w w.heap.size A1 t) (hA : A = none → c = 0) (hu : ∀ q ∈ l, 0 ≤ q.2 ∧ q.2 < 18446744073709551616) (hm : l.length ≤ 9223372036854775807) (hA1 : A1 = none → c1 = 0) :
    Calls Try.prog 14 #[.slice A l.length c, .slice A1 t.length c1] w fun e w' => e = .returned (.bool true) ∧ Hid (Below w.heap.size w w') := by
  have ha0 := Lib.hid (show Lst w 9223372036854775807 A l.length c l from ⟨h, rfl, hm, hA⟩)
  have ht0 := Lib.hid h1
  have HU := Lib.hid hu
  have HA1 := Lib.hid hA1
  clear h h1 hA hu hA1
  have HLa := Lib.hid (show heavyB [l] = false → l.length ≤ 300 from fun h => light_at h 0 (by simp))
  have HH := Lib.hid (heavy_any (some ⟨w.heap.size, 0, none⟩) [l] 1 1 _ (lists_one ha0.out) rfl (by omega))
  have BW := Lib.hid ((Below.refl w.heap.size w).alloc (Nat.le_refl _) (.cells #[.slice A l.length c] 74))
  generalize hn1 : l.length = n at *
  generalize hn2 : t.length = tn at *
  have HN := Lib.hid hn1
  have HT := Lib.hid hn2
  clear hm hn1 hn2
  go_enter Try.func14, Try.ntmps14
  go_wp2_with fail
  refine HH.out.mono ?_
  rintro e V0 ⟨rfl, rfl⟩
  clear HH
  cases hv : heavyB [l] with
  | true =>
    go_wp2_with fail
    refine (awake3_any _).mono ?_
    rintro e V1 ⟨rfl, hb1⟩
    go_wp2
    go_ret
    exact ⟨rfl, Lib.hid (btr BW.out hb1.out)⟩
  | false =>
    have hn300 := HLa.out hv
    have ha1 := Lib.hid ((⟨(ha0.out.on BW.out).lives, HN.out, hn300, ha0.out.cap⟩ : Lst _ 300 A n c l))
    clear HLa hv ha0
    by_cases hlong : 1000 < tn
    · have hl2 : (1000 : Int) < (tn : Int) := by omega
      go_wp2_with fail
      refine (awake3_any _).mono ?_
      rintro e V1 ⟨rfl, hb1⟩
      go_wp2
      go_ret
      exact ⟨rfl, Lib.hid (btr BW.out hb1.out)⟩
    · have hl2 : ¬ (1000 : Int) < (tn : Int) := by omega
      go_wp2_with fail
      refine (sorted_lst ha1.out (by omega)).mono ?_
      rintro e V1 ⟨As, cs, m, rfl, hs, hb1⟩
      have BB1 := Lib.hid (btr BW.out hb1.out)
      clear ha1 BW hb1
      have HRis := Lib.hid (rising_setL l)
      have HUn := Lib.hid (show Unsigned (setL l) from fun q hq => HU.out q ((mem_setL l q).1 hq))
      clear HU
      generalize setL l = S at *
      have hm300 := hs.out.le
      have HM := Lib.hid hs.out.len
      go_wp2_with fail
      refine (new_at (Below.refl V1.heap.size V1) (Nat.le_refl _)).mono ?_
      rintro e V2 ⟨p, rfl, w2, _, _⟩
      have hx : m % 256 < 256 := Nat.mod_lt _ (by decide)
      have e1 : (m : Int) % 256 = ((m % 256 : Nat) : Int) := by omega
      generalize hmx : m % 256 = x at *
      have HX := Lib.hid hmx
      clear hmx
      go_wp2_with fail
      rw [e1]
      refine (wu8_any p none [] x V2 hx w2.out.wr (by simp)).mono ?_
      rintro e V3 hE
      obtain ⟨rfl, g3, w3, _, _⟩ := WsE.of w2.out hE
      clear hE w2
      go_wp2_with fail
      refine (pput_at w3.out As S m cs hs.out.lives hs.out.len HUn.out (by omega) (by simp [wideL_length])).mono ?_
      rintro e V4 ⟨rfl, g4, w4⟩
      clear w3
      have HL := Lib.hid (show ([] ++ wideL x 1 ++ putsL S).length ≤ 35184372088832 by
        have h3 := putsL_le S HUn.out
        rw [HM.out] at h3
        simp only [List.nil_append, List.length_append, wideL_length]
        omega)
      have B5 := Lib.hid ((Below.refl V4.heap.size V4).alloc (Nat.le_refl _) (.cells #[] 5))
      have C1 := Lib.hid (World.ownsRow_made (base := 0) (e := 5) (size := 1) V4 #[] 0 (Nat.zero_le _) (by unfold maxLen; omega) rfl)
      have w5 := Lib.hid (w4.out.later B5.out)
      have HS4 := Lib.hid w4.out.size
      generalize hL : [] ++ wideL x 1 ++ putsL S = L at *
      have HLL := Lib.hid hL
      clear hL w4
      go_wp2_with fail
      refine (bytes_at w5.out HL.out).mono ?_
      rintro e V6 ⟨A6, c6, rfl, o6, b6⟩
      generalize hln : L.length = ln at *
      have HLN := Lib.hid hln
      have HLe := HL.out
      clear hln
      have C2 := Lib.hid (show Own8 V6 0 (some ⟨V4.heap.size, 0, none⟩) 0 0 [] from Own8.keep C1.out (S := fun _ => False) (Only.ofBelow b6.out) (fun _ _ h => h))
      have BB6 := Lib.hid (btr B5.out b6.out)
      go_wp2_with (at_builtin; refine wpList_append8 rfl _ _ rfl (some ⟨V4.heap.size, 0, none⟩) 0 0 [] rfl C2.out A6 ln c6 _ L rfl HLN.out o6.out.none_cap o6.out.bytes (by omega) ?_)
      intro A7 c7 V7 e71 e72 e73
      have D6 := Lib.hid (show Below V1.heap.size V1 V6 from w5.out.below.trans (b6.out.mono w5.out.size))
      have hsz4 := HS4.out
      have D7 := Lib.hid (e72.out.below D6.out (fun k hk => by cases hk; exact hsz4) D6.out.size)
      have G7 := Lib.hid (e73.out.ge (B := V1.heap.size) D6.out.size (fun k hk => by cases hk; exact hsz4))
      have t7 := Lib.hid (ht0.out.below (btr BB1.out D7.out))
      clear C1 C2 w5 BB6 o6 B5 e72 e73 b6 D6
      go_wp2_with (at_builtin; refine wpList_append8 rfl _ _ rfl A7 ln c7 L rfl e71.out A1 tn c1 _ t rfl HT.out HA1.out t7.out (by omega) ?_)
      intro A8 c8 V8 e81 e82 e83
      have D8 := Lib.hid (e82.out.below D7.out G7.out D7.out.size)
      have HLT := Lib.hid (show (L ++ t).length = ln + tn by rw [List.length_append, HLN.out, HT.out])
      clear e71 e82 e83 D7 G7 t7 ht0
      clear HS4 hsz4 HA1
      go_wp2_with fail
      refine (newr_at D8.out D8.out.size A8 (L ++ t) (ln + tn) c8 HLT.out e81.out.none_cap e81.out.bytes (by omega)).mono ?_
      rintro e V9 ⟨q, d, rfl, r9, b9, _⟩
      have hs9 := Lib.hid (hs.out.on r9.out.below)
      have HGE := Lib.hid (show m < 256 → (∀ j, j < m → mayL (atL S j)) → getSetL ⟨L ++ t, false⟩ (m : Int) = (S, ⟨t, false⟩) from fun h256 hj => by
        have h2 : m % 256 = m := Nat.mod_eq_of_lt h256
        have h3 := getSetL_put S HRis.out (may_of_upTo (by rw [HM.out]; exact hj)) HUn.out (by rw [HM.out]; exact h256) t
        rw [HM.out] at h3
        rw [← HLL.out, ← HX.out, h2]
        exact h3)
      have hrl : (⟨L ++ t, false⟩ : RS).l.length ≤ 70368744177664 := by simp only [HLT.out]; omega
      have HGS := Lib.hid (getset_any q d ⟨L ++ t, false⟩ (m : Int) V9 r9.out.rd hrl)
      clear hrl b9 D8 e81 HLT HLL HLN
      generalize getSetL ⟨L ++ t, false⟩ (m : Int) = gs at *
      clear HX e1 hx
      go_wp2_with fail
      refine HGS.out.mono ?_
      rintro e Vg ⟨Ag, cg, rfl, lg, hAg, rg, og⟩
      have Dg := Lib.hid (og.out.below r9.out.below (by rintro k rfl; exact r9.out.hq) r9.out.size)
      have hsg := Lib.hid (hs.out.on Dg.out)
      obtain ⟨Lg, sg⟩ := gs
      simp only at lg rg
      clear HGS hs hs9 r9 og
      generalize hgl : Lg.length = gl at *
      have HGL := Lib.hid hgl
      clear hgl
      go_wp2
      go_loopw [9, 10] (fun mv i wr => ∃ k : Nat, ∃ mb : Bool, k ≤ m ∧ mv = .bool mb ∧ i = .int .i64 k ∧ Hid (mb = true ↔ S.length < 256 ∧ ∀ j, j < k → mayL (atL S j)) ∧ Hid (Below Vg.heap.size Vg wr)) (fun _ i _ => m - (intOf i).toNat)
      case atStart => exact ⟨0, decide ((m : Int) < 256), Nat.zero_le _, rfl, rfl, Lib.hid (by rw [decide_eq_true_iff, HM.out]; constructor; exact fun h => ⟨by omega, fun j hj => absurd hj (Nat.not_lt_zero _)⟩; exact fun h => by omega), Lib.hid (Below.refl _ _)⟩
      case round =>
        obtain ⟨k, mb, hk, rfl, rfl, hmb, hbw⟩ := hrel
        by_cases hlt : k < m
        · obtain ⟨b, off, rfl, hbb, h1, h2⟩ := (hsg.out.lives.below hbw.out).at_ (k := k) (by rw [HM.out]; exact hlt)
          have g0 : (0 : Int) ≤ (k : Int) := by omega
          have g1 : (k : Int) < (m : Int) := by omega
          have HS2 := Lib.hid (may_upTo_succ hmb.out)
          have HMay := Lib.hid (fun W => may_any (atL S k) (HUn.out _ (atL_mem (l := S) (k := k) (by rw [HM.out]; exact hlt))).1 W)
          generalize atL S k = x at *
          obtain ⟨x1, x2⟩ := x
          simp only at h1 h2
          generalize decide (mayL (x1, x2)) = r at *
          cases mb with
          | true =>
            go_wp2_with fail
            refine (HMay.out wr).mono ?_
            rintro e W3 ⟨rfl, hb3⟩
            go_wp2
            go_roundw
            case rel => exact ⟨k + 1, r, by omega, rfl, by go_num, Lib.hid (by simpa using HS2.out), Lib.hid (btr hbw.out hb3.out)⟩
            case measure => simp [intOf]; omega
          | false =>
            go_wp2
            go_roundw
            case rel => exact ⟨k + 1, false, by omega, rfl, by go_num, Lib.hid (by simpa using HS2.out), hbw⟩
            case measure => simp [intOf]; omega
        · obtain rfl : k = m := by omega
          have g1 : ¬ (k : Int) < (k : Int) := by omega
          cases mb with
          | false =>
            go_wp2_with fail
            refine (awake3_any _).mono ?_
            rintro e V10 ⟨rfl, hb10⟩
            go_wp2
            go_ret
            exact ⟨rfl, Lib.hid (btr BB1.out (btr Dg.out (btr hbw.out hb10.out)))⟩
          | true =>
            have hh := hmb.out.1 rfl
            have hge := HGE.out (by rw [← HM.out]; exact hh.1) hh.2
            obtain ⟨rfl, rfl⟩ : Lg = S ∧ sg = ⟨t, false⟩ := by simpa using hge
            obtain rfl : k = gl := by rw [← HGL.out, HM.out]
            have HEq := Lib.hid (requal_any Ag Lg k cg As Lg k cs wr (lg.out.on hbw.out) (hsg.out.on hbw.out).lives HM.out HM.out (by omega) (by omega))
            rw [decide_eq_true rfl] at HEq
            have rw_ := Lib.hid (rg.out.keep (S := fun _ => False) (Only.ofBelow hbw.out) (fun h => h) (fun _ _ h => h))
            clear hh hge
            go_wp2_with fail
            refine HEq.out.mono ?_
            rintro e V10 ⟨rfl, hb10⟩
            have r10 := Lib.hid (rw_.out.keep (S := fun _ => False) (Only.ofBelow hb10.out) (fun h => h) (fun _ _ h => h))
            go_wp2_with fail
            refine (err_ok q d t V10 r10.out).mono ?_
            rintro e V11 ⟨rfl, rfl⟩
            go_wp2_with fail
            refine (left_any q d t false tn V10 r10.out HT.out).mono ?_
            rintro e V11 ⟨rfl, rfl⟩
            go_wp2_with fail
            refine (awake3_any _).mono ?_
            rintro e V12 ⟨rfl, hb12⟩
            go_wp2
            go_ret
            exact ⟨rfl, Lib.hid (btr BB1.out (btr Dg.out (btr hbw.out (btr hb10.out hb12.out))))⟩
end Go.Proofs.Ytadpbcbgmopfaaa
