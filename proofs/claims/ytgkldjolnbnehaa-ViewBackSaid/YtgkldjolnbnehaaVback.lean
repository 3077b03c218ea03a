/-
  The statement ViewBack's walk: whatever view, bytes and cut, it answers true, and leaves all that was there as it was. No condition but that the view is a view, the bytes are bytes, and the numbers are unsigned.
-/
import Derived.Test.YtgkldjolnbnehaaVget
import Derived.Test.YtgkldjolnbnehaaVawake
namespace Go.Proofs.Ytgkldjolnbnehaa
set_option maxRecDepth 20000
open Go.RowKit

theorem own8_on {w w' : World} {base n cap : Nat} {A : Option Addr} {l : List UInt8} (h : Own8 w base A n cap l) (hb : Below w.heap.size w w') : Own8 w' base A n cap l := h.keep (S := fun _ => False) (Only.ofBelow hb) (fun _ _ h => h)
theorem own8_lt {w : World} {base n cap : Nat} {A : Option Addr} {l : List UInt8} (h : Own8 w base A n cap l) : ∀ k, blockOf A = some k → k < w.heap.size := fun _ e => (h.lt e).2
theorem made8 (w : World) : Own8 (w.alloc (.cells #[] 5)) 0 (some ⟨w.heap.size, 0, none⟩) 0 0 [] := World.ownsRow_made (base := 0) (e := 5) (size := 1) w #[] 0 (Nat.zero_le _) (by unfold maxLen; omega) rfl
theorem blk_ne {k g : Nat} (h : k < g) (e : blockOf (some ⟨g, 0, none⟩) = some k) : False := by
  simp [blockOf] at e
  omega
theorem view_same (v : Vw) : decide (v = v) = true := decide_eq_true rfl
set_option maxHeartbeats 16000000 in
theorem vback_walk (i : Nm) (A : Option Addr) (ms : List Life) (c : Nat) (A' : Option Addr) (ss : List Nat) (c' : Nat) (A1 : Option Addr) (t : List UInt8) (c1 : Nat) (cut : Int) (w : World) (hi : UNm i) (h : Vm w 9223372036854775807 A ms.length c A' ss.length c' ms ss) (hA1 : A1 = none → c1 = 0) (hb1 : Bytes w w.heap.size A1 t) (hcut : -9223372036854775808 ≤ cut ∧ cut ≤ 9223372036854775807) :
    Calls Try.prog 6 #[vwV i A ms.length c A' ss.length c', .slice A1 t.length c1, .int .i64 cut] w fun e w' => e = .returned (.bool true) ∧ Hid (Below w.heap.size w w') := by
  have ht0 := Lib.hid hb1
  have HA1 := Lib.hid hA1
  have HI := Lib.hid hi
  have HCut := Lib.hid hcut
  have HUn := Lib.hid h.uns
  have H64 := Lib.hid h.u64
  generalize hn : ms.length = n at *
  generalize hm : ss.length = m at *
  generalize htn : t.length = tn at *
  have HN := Lib.hid hn
  have HM := Lib.hid hm
  have HT := Lib.hid htn
  have hle := h.le
  have hsle := h.sle
  have HV0 := Lib.hid h
  clear h hn hm htn hb1 hA1 hi hcut
  have B1 := Lib.hid (below_box w (.cells (vwC i A n c A' m c') 30))
  obtain ⟨r, x, y⟩ := i
  have HB := Lib.hid (vbox_new w r x y A n c A' m c' 30)
  have HV := Lib.hid (HV0.out.on B1.out)
  go_enter Try.func6, Try.ntmps6
  obtain ⟨k0, k1, k2, k3, k4⟩ := HB.out
  go_wp2_with fail
  generalize w.alloc (.cells (vwC (r, (x, y)) A n c A' m c') 30) = W1 at *
  generalize hB : w.heap.size = b at HB k0 k1 k2 k3 k4 ⊢
  have HBB := Lib.hid hB
  clear hB HV0 k0 k1 k2 k3 k4
  refine (heavy4_any (r, (x, y)) A n c A' m c' W1 hle hsle).mono ?_
  rintro e W2 ⟨rfl, hb2⟩
  have B2 := Lib.hid (btr B1.out hb2.out)
  have KV2 := Lib.hid (HB.out.below hb2.out)
  have V2 := Lib.hid (HV.out.on hb2.out)
  clear HB HV B1 hb2
  by_cases hh : 300 < n ∨ 300 < m
  · rw [decide_eq_true hh]
    go_wp2_with fail
    refine (awake4_any W2).mono ?_
    rintro e W3 ⟨rfl, hb3⟩
    go_wp2
    go_ret
    exact ⟨rfl, Lib.hid (btr B2.out hb3.out)⟩
  · rw [decide_eq_false hh]
    have V2 : Hid (Vm W2 300 A n c A' m c' ms ss) := Lib.hid ⟨V2.out.lives, V2.out.len, by omega, V2.out.cap, V2.out.uns, V2.out.nums, V2.out.slen, by omega, V2.out.scap, V2.out.u64⟩
    clear hh hle hsle
    by_cases hlong : 1000 < tn
    · have g1 : (1000 : Int) < (tn : Int) := by omega
      go_wp2_with fail
      refine (awake4_any W2).mono ?_
      rintro e W3 ⟨rfl, hb3⟩
      go_wp2
      go_ret
      exact ⟨rfl, Lib.hid (btr B2.out hb3.out)⟩
    · have g1 : ¬ (1000 : Int) < (tn : Int) := by omega
      have HMy := Lib.hid (vmay_any (r, (x, y)) HI.out.2 A n c A' m c' ms ss W2 V2.out (by omega))
      obtain ⟨k0, k1, k2, k3, k4⟩ := KV2.out
      by_cases hmay : mayV ⟨(r, (x, y)), ms, ss⟩
      case neg =>
        rw [decide_eq_false hmay] at HMy
        clear hmay
        go_wp2_with fail
        refine HMy.out.mono ?_
        rintro e W3 ⟨rfl, hb3⟩
        go_wp2_with fail
        refine (awake4_any W3).mono ?_
        rintro e W4 ⟨rfl, hb4⟩
        go_wp2
        go_ret
        exact ⟨rfl, Lib.hid (btr B2.out (btr hb3.out hb4.out))⟩
      case pos =>
        rw [decide_eq_true hmay] at HMy
        have HGet := Lib.hid (getL_put hmay HI.out HUn.out H64.out t)
        have HGc := Lib.hid (getL_cut hmay HI.out HUn.out H64.out)
        have HLp := Lib.hid (viewL_pos ⟨(r, (x, y)), ms, ss⟩)
        have HLl := Lib.hid (show (viewL ⟨(r, (x, y)), ms, ss⟩).length ≤ 6322 by
          have h1 := viewL_le (v := ⟨(r, (x, y)), ms, ss⟩) HI.out HUn.out H64.out
          have h2 := V2.out.le
          have h3 := V2.out.sle
          simp only [HN.out, HM.out] at h1
          omega)
        have HPu := Lib.hid (fun V p (hw : Wr V p none []) (hv : Vm V 300 A n c A' m c' ms ss) hf hf' => vput_any p none [] (r, (x, y)) HI.out A n c A' m c' ms ss V hw hv (by omega) hf hf' (by simp))
        have HVV := Lib.hid (show (⟨(r, (x, y)), ms, ss⟩ : Vw) = ⟨(r, (x, y)), ms, ss⟩ from rfl)
        generalize hL : viewL ⟨(r, (x, y)), ms, ss⟩ = L at *
        clear hmay hL
        go_wp2_with fail
        refine HMy.out.mono ?_
        rintro e W3 ⟨rfl, hb3⟩
        have B3 := Lib.hid (btr B2.out hb3.out)
        have KV3 := Lib.hid (KV2.out.below hb3.out)
        have V3 := Lib.hid (V2.out.on hb3.out)
        have Q3 := Lib.hid (show (0 < ms.length → ∀ bk, blockOf A = some bk → bk < W3.heap.size) ∧ (0 < ss.length → ∀ bk, blockOf A' = some bk → bk < W3.heap.size) from ⟨fun hp => V3.out.lives.blk hp, fun hp => V3.out.nums.blk hp⟩)
        clear B2 KV2 V2 hb3 k0 k1 k2 k3 k4 HMy
        go_wp2_with fail
        refine (new_at (Below.refl W3.heap.size W3) (Nat.le_refl _)).mono ?_
        rintro e W4 ⟨p, rfl, w4, b4, hp4⟩
        have KV4 := Lib.hid (KV3.out.below b4.out)
        have V4 := Lib.hid (V3.out.on b4.out)
        clear b4
        obtain ⟨k0, k1, k2, k3, k4⟩ := KV4.out
        go_wp2_with fail
        refine (HPu.out W4 p w4.out.wr V4.out (fun hp bk e => ⟨by have := Q3.out.1 hp bk e; have := hp4.out; omega, fun e => by cases e⟩) (fun hp bk e => ⟨by have := Q3.out.2 hp bk e; have := hp4.out; omega, fun e => by cases e⟩)).mono ?_
        rintro e W5 ⟨rfl, h5⟩
        obtain ⟨g5, w5, -, o5⟩ := w4.out.wrote h5
        rw [List.nil_append] at w5
        have w5 := Lib.hid w5
        have B5 := Lib.hid (show Below W3.heap.size W3 W5 from w5.out.below)
        clear h5 o5 w4 KV4 V4 k0 k1 k2 k3 k4 HPu hp4 Q3
        have b6 := Lib.hid (below_box W5 (.cells #[] 5))
        have C6 := Lib.hid (made8 W5)
        have w6 := Lib.hid (w5.out.later b6.out)
        go_wp2_with fail
        refine (bytes_at w6.out (by have := HLl.out; omega)).mono ?_
        rintro e W7 ⟨A7, c7, rfl, o7, b7⟩
        generalize hln : L.length = ln at *
        have HLN := Lib.hid hln
        have hlp := HLp.out
        have hll := HLl.out
        clear hln
        have C7 := Lib.hid (own8_on C6.out b7.out)
        have D7 := Lib.hid (btr B5.out (btr b6.out b7.out))
        have hg7 := Lib.hid (show W3.heap.size ≤ W5.heap.size from B5.out.size)
        clear w5 w6 b6 b7 C6
        go_wp2_with (at_builtin; refine wpList_append8 rfl _ _ rfl (some ⟨W5.heap.size, 0, none⟩) 0 0 [] rfl C7.out A7 ln c7 _ L rfl HLN.out o7.out.none_cap o7.out.bytes (by omega) ?_)
        intro A8 c8 W8 e81 e82 e83
        have OB := Lib.hid (show Own8 W8 0 A8 ln c8 L from by simpa using e81.out)
        have D8 := Lib.hid (e82.out.below D7.out (fun k hk => by cases hk; exact hg7.out) D7.out.size)
        clear e81 e82 e83 C7 o7 D7 hg7 B5
        have e00 : ln = 0 + ln := by omega
        try rw [← e00]
        clear e00
        have b9 := Lib.hid (below_box W8 (.cells #[] 5))
        have C9 := Lib.hid (made8 W8)
        have OB9 := Lib.hid (own8_on OB.out b9.out)
        go_wp2_with (at_builtin; refine wpList_append8 rfl _ _ rfl (some ⟨W8.heap.size, 0, none⟩) 0 0 [] rfl C9.out A8 ln c8 _ L rfl HLN.out OB9.out.none_cap OB9.out.bytes (by omega) ?_)
        intro A10 c10 W10 e101 e102 e103
        have C10 := Lib.hid (show Own8 W10 0 A10 ln c10 L from by simpa using e101.out)
        have D10 := Lib.hid (e102.out.below (btr D8.out b9.out) (fun k hk => by cases hk; exact D8.out.size) (btr D8.out b9.out).size)
        have OB10 := Lib.hid (OB9.out.keep e102.out (fun k e e2 => blk_ne (own8_lt OB.out k e) e2))
        have G10 := Lib.hid (e103.out.ge (B := W8.heap.size) b9.out.size (fun k hk => by cases hk; exact Nat.le_refl _))
        have t10 := Lib.hid (ht0.out.below (btr B3.out D10.out))
        have S10 := Lib.hid (Nat.le_trans (below_box W8 (.cells #[] 5)).size e102.out.size)
        have e00 : 0 + ln = ln := by omega
        try rw [e00]
        clear e00 e101 e102 e103 C9 OB9 b9
        go_wp2_with (at_builtin; refine wpList_append8 rfl _ _ rfl A10 ln c10 L rfl C10.out A1 tn c1 _ t rfl HT.out HA1.out t10.out (by omega) ?_)
        intro A11 c11 W11 e111 e112 e113
        have D11 := Lib.hid (e112.out.below D10.out (fun k hk => Nat.le_trans D8.out.size (G10.out k hk)) D10.out.size)
        have OB11 := Lib.hid (OB10.out.keep e112.out (fun k e e2 => by have := G10.out k e2; have := own8_lt OB.out k e; omega))
        have S11 := Lib.hid (Nat.le_trans S10.out e112.out.size)
        have HLT := Lib.hid (show (L ++ t).length = ln + tn by rw [List.length_append, HLN.out, HT.out])
        have E11 := Lib.hid e111.out
        clear e111 e112 e113 C10 OB10 G10 t10 D10 S10
        go_wp2_with fail
        refine (newr_at D11.out D11.out.size A11 (L ++ t) (ln + tn) c11 HLT.out E11.out.none_cap E11.out.bytes (by omega)).mono ?_
        rintro e W12 ⟨q, d, rfl, r12, b12, hq12⟩
        have OB12 := Lib.hid (own8_on OB11.out b12.out)
        have HQ := Lib.hid (show W8.heap.size ≤ q from Nat.le_trans S11.out hq12.out.1)
        have S12 := Lib.hid (Nat.le_trans S11.out b12.out.size)
        clear OB11 S11 b12 hq12 E11 D11
        have HGt := Lib.hid (vget_any q d ⟨L ++ t, false⟩ W12 r12.out.rd (by simp only [HLT.out]; omega))
        rw [HGet.out] at HGt
        simp only [HN.out, HM.out] at HGt
        go_wp2_with fail
        refine HGt.out.mono ?_
        rintro e W13 ⟨E, e', D, d', rfl, v13, rd13, o13⟩
        have D13 := Lib.hid (o13.out.below r12.out.below (by rintro k rfl; exact r12.out.hq) r12.out.size)
        have OB13 := Lib.hid (OB12.out.keep o13.out (fun k e e2 => by have := own8_lt OB.out k e; have := HQ.out; omega))
        have S13 := Lib.hid (Nat.le_trans S12.out o13.out.size)
        clear HGt HGet OB12 o13 r12 S12 HQ
        have NB := Lib.hid (vbox_new W13 r x y E n e' D m d' 30)
        have bb := Lib.hid (below_box W13 (.cells (vwC (r, (x, y)) E n e' D m d') 30))
        have D14 := Lib.hid (btr D13.out bb.out)
        have OB14 := Lib.hid (own8_on OB13.out bb.out)
        have V14 := Lib.hid (v13.out.on bb.out)
        have R14 := Lib.hid (rd13.out.keep (S := fun _ => False) (Only.ofBelow bb.out) (fun h => h) (fun _ _ h => h))
        have S14 := Lib.hid (Nat.le_trans S13.out bb.out.size)
        have KV14 := Lib.hid (KV3.out.below D14.out)
        have X14 := Lib.hid (V3.out.on D14.out)
        clear D13 OB13 v13 rd13 S13 bb
        obtain ⟨k0, k1, k2, k3, k4⟩ := KV14.out
        obtain ⟨l0, l1, l2, l3, l4⟩ := NB.out
        have hz0 : ((ln : Int) == 0) = false := by simp; omega
        go_wp2_with fail
        generalize W13.heap.size = G at NB l0 l1 l2 l3 l4 ⊢
        generalize W13.alloc (.cells (vwC (r, (x, y)) E n e' D m d') 30) = W14 at *
        have HSm := Lib.hid (rsame4_any (r, (x, y)) (r, (x, y)) E n e' D m d' ms ss A n c A' m c' ms ss W14 V14.out X14.out (by omega) (by omega))
        rw [view_same] at HSm
        clear k0 k1 k2 k3 k4 l0 l1 l2 l3 l4 NB KV14 KV3
        refine HSm.out.mono ?_
        rintro e W15 ⟨rfl, hb15⟩
        have D15 := Lib.hid (btr D14.out hb15.out)
        have OB15 := Lib.hid (own8_on OB14.out hb15.out)
        have R15 := Lib.hid (R14.out.keep (S := fun _ => False) (Only.ofBelow hb15.out) (fun h => h) (fun _ _ h => h))
        have S15 := Lib.hid (Nat.le_trans S14.out hb15.out.size)
        clear D14 OB14 R14 S14 V14 X14 HSm hb15
        go_wp2_with fail
        refine (err_ok q d t W15 R15.out).mono ?_
        rintro e W16 ⟨rfl, rfl⟩
        go_wp2_with fail
        refine (left_any q d t false tn W15 R15.out HT.out).mono ?_
        rintro e W16 ⟨rfl, rfl⟩
        have hz1 : ((tn : Int) != (tn : Int)) = false := by simp
        clear R15 hz0
        obtain ⟨k, hkl, hk1, hk2, hk3⟩ : ∃ k : Nat, k < ln ∧ (max cut 0).tmod (ln : Int) = (k : Int) ∧ IntKind.i64.wrap ((max cut 0).tmod (ln : Int)) = (k : Int) ∧ (0 : Int) ≤ (max cut 0).tmod (ln : Int) := by
          have h0 : 0 ≤ max cut 0 := Int.le_max_right _ _
          have h1 : (max cut 0).tmod (ln : Int) = (max cut 0) % (ln : Int) := Int.tmod_eq_emod_of_nonneg h0
          have h2 := Int.emod_nonneg (max cut 0) (show (ln : Int) ≠ 0 by omega)
          have h3 := Int.emod_lt_of_pos (max cut 0) (show (0 : Int) < (ln : Int) by omega)
          rw [h1]
          generalize (max cut 0) % (ln : Int) = z at *
          refine ⟨z.toNat, by omega, by omega, ?_, h2⟩
          simp [IntKind.wrap, IntKind.bits, IntKind.signed]
          omega
        have b16 := Lib.hid (below_box W15 (.cells #[] 5))
        have C16 := Lib.hid (made8 W15)
        have OB16 := Lib.hid (own8_on OB15.out b16.out)
        have HGc2 := Lib.hid (HGc.out k hkl)
        have HTk := Lib.hid (show (L.take k).length = k by rw [List.length_take, HLN.out]; omega)
        have hcap := OB15.out.cap_le
        have hk4 : (k : Int) ≤ (c8 : Int) := by omega
        have hk5 : (0 : Int) ≤ (k : Int) := by omega
        have hln0 : ¬ (ln : Int) = 0 := by omega
        clear HGc
        go_wp2_with (at_builtin; refine wpList_append8 rfl _ _ rfl (some ⟨W15.heap.size, 0, none⟩) 0 0 [] rfl C16.out A8 k c8 _ (L.take k) rfl HTk.out OB16.out.none_cap (OB16.out.bytes.front k) (by omega) ?_)
        intro A17 c17 W17 e171 e172 e173
        have E17 := Lib.hid (show Own8 W17 0 A17 k c17 (L.take k) from by simpa using e171.out)
        have D17 := Lib.hid (e172.out.below (btr D15.out b16.out) (fun k hk => by cases hk; exact D15.out.size) (btr D15.out b16.out).size)
        have e00 : 0 + k = k := by omega
        try rw [e00]
        clear e00 e171 e172 e173 C16 OB16 OB15 D15 S15 b16
        go_wp2_with fail
        refine (newr_at D17.out D17.out.size A17 (L.take k) k c17 HTk.out E17.out.none_cap E17.out.bytes (by omega)).mono ?_
        rintro e W18 ⟨q2, d2, rfl, r18, b18, -⟩
        have HGt := Lib.hid (vget_any q2 d2 ⟨L.take k, false⟩ W18 r18.out.rd (by simp only [HTk.out]; omega))
        have hg1 := HGc2.out.1
        have hg2 := HGc2.out.2
        rw [hg1, hg2] at HGt
        generalize (getL ⟨L.take k, false⟩).2.l = rest at *
        clear hg1 hg2 HGc2 E17 D17 b18
        go_wp2_with fail
        refine HGt.out.mono ?_
        rintro e W19 ⟨E2, e2, D2, d3, rfl, v19, rd19, o19⟩
        have D19 := Lib.hid (o19.out.below r18.out.below (by rintro k rfl; exact r18.out.hq) r18.out.size)
        have NB := Lib.hid (vbox_new W19 0 0 0 E2 0 e2 D2 0 d3 30)
        have bb := Lib.hid (below_box W19 (.cells (vwC (0, (0, 0)) E2 0 e2 D2 0 d3) 30))
        have D20 := Lib.hid (btr D19.out bb.out)
        have R20 := Lib.hid (rd19.out.keep (S := fun _ => False) (Only.ofBelow bb.out) (fun h => h) (fun _ _ h => h))
        have en : noV.id = (0, (0, 0)) := rfl
        have em : noV.ms.length = 0 := rfl
        have es : noV.ss.length = 0 := rfl
        rw [en, em, es]
        clear en em es HGt r18 v19 rd19 o19 D19
        obtain ⟨l0, l1, l2, l3, l4⟩ := NB.out
        go_wp2_with fail
        refine (err_bad q2 d2 rest _ R20.out).mono ?_
        rintro e W21 ⟨rfl, rfl⟩
        go_wp2_with fail
        refine (awake4_any _).mono ?_
        rintro e W22 ⟨rfl, hb22⟩
        go_wp2
        go_ret
        exact ⟨rfl, Lib.hid (btr B3.out (btr D20.out hb22.out))⟩
end Go.Proofs.Ytgkldjolnbnehaa
