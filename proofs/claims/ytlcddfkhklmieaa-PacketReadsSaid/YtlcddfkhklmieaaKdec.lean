/-
  What bytes say as a packet, by package packet's Decode: the walk. For at most 1,048,576 bytes.
-/
import Derived.Test.YtlcddfkhklmieaaKdeca
namespace Go.Proofs.Ytlcddfkhklmieaa
set_option maxRecDepth 20000
open Go.RowKit

set_option maxHeartbeats 2000000 in
theorem kdec_any (A : Option Addr) (l : List UInt8) (n cap : Nat) (w : World) (hn : l.length = n) (hb : Bytes w w.heap.size A l) (hA : A = none → cap = 0) (hl : n ≤ 1048576) :
    Calls Try.prog 18 #[.slice A n cap] w (DecK w l) := by
  have mixed : Try.prog.follows .mixedOrders = true := by kernel_rfl
  have HN := Lib.hid hn
  have HA := Lib.hid hA
  have Z := Lib.hid (row10_new w (.int .i64 0) (.int .i64 0) (.int .u64 0) (.int .i64 0) (.slice none 0 0) (.slice none 0 0) (.int .i64 0) (.int .u64 0) (.int .u64 0) (.slice none 0 0) 31)
  have B1 := Lib.hid (wbelow_box w (.cells #[.int .i64 0, .int .i64 0, .int .u64 0, .int .i64 0, .slice none 0 0, .slice none 0 0, .int .i64 0, .int .u64 0, .int .u64 0, .slice none 0 0] 31))
  have HB1 := Lib.hid (hb.below B1.out)
  obtain ⟨⟨kn, s1⟩, hkd⟩ : ∃ y, kindS l = y := ⟨_, rfl⟩
  obtain ⟨⟨P0, s2⟩, hrc⟩ : ∃ y, rawC kn s1 = y := ⟨_, rfl⟩
  have hk256 : kn < 256 := by have := rWide_lt ⟨l, false⟩ 1; rw [show rWide ⟨l, false⟩ 1 = (kn, s1) from hkd] at this; simpa using this
  have hs1 : s1.l.length ≤ 1048576 := by have := rWide_le ⟨l, false⟩ 1; rw [show rWide ⟨l, false⟩ 1 = (kn, s1) from hkd] at this; simp only at this; omega
  have HGOOD := Lib.hid (show goodC l ↔ 1 ≤ kn ∧ kn ≤ 3 ∧ (rEnd s2).bad = false ∧ mayK P0 from by unfold goodC; rw [hkd]; simp only [hrc])
  have HRD := Lib.hid (show goodC l → readK l = some P0 from fun h => by rw [readK_good h, hkd]; simp only [hrc])
  have HFI := Lib.hid (show _ from hrc ▸ rawC_fine kn s1)
  have HGK := Lib.hid (fun q d (h1 : 1 ≤ kn) (h3 : kn ≤ 3) => get_kind q d s1 kn h1 h3 (by omega))
  have HKD := Lib.hid (show rWide ⟨l, false⟩ 1 = (kn, s1) from hkd)
  have HRC := Lib.hid hrc
  clear hn hb hA hkd hrc
  go_enter Try.func18, Try.ntmps18
  go_wp2_with fail
  generalize w.alloc (.cells #[.int .i64 0, .int .i64 0, .int .u64 0, .int .i64 0, .slice none 0 0, .slice none 0 0, .int .i64 0, .int .u64 0, .int .u64 0, .slice none 0 0] 31) = W1 at *
  refine (newr_any A l n cap w.heap.size W1 HN.out HA.out HB1.out B1.out.size (by omega)).mono ?_
  rintro e W2 ⟨q, d, rfl, h1, h2, h3⟩
  have Z2 := Lib.hid (Z.out.below h3.out)
  have B2 := Lib.hid (ktr B1.out h3.out)
  have hq := h2.out.1
  have hzl := Z.out.lt
  have HWQ := Lib.hid (show w.heap.size < q by omega)
  have hqlt := h1.out.lt
  clear Z B1 h2 h3 HB1 hzl hq
  go_wp2_with fail
  refine (ru8_any q d ⟨l, false⟩ W2 h1.out).mono ?_
  rintro e W3 ⟨rfl, r3, o3⟩
  rw [HKD.out] at r3 ⊢
  simp only at r3 ⊢
  have hwq := HWQ.out
  have Z3 := Lib.hid (Z2.out.only o3.out (by omega))
  have B3 := Lib.hid (o3.out.below B2.out (fun j hj => by omega) B2.out.size)
  have hq3 := r3.out.lt
  have e1 := wrap_b hk256
  have e2 := wrap_b64 hk256
  have PB := Lib.hid (row10_new W3 (.int .i64 (kn : Int)) (.int .i64 0) (.int .u64 0) (.int .i64 0) (.slice none 0 0) (.slice none 0 0) (.int .i64 0) (.int .u64 0) (.int .u64 0) (.slice none 0 0) 58)
  have hB4 := wbelow_box W3 (.cells #[.int .i64 (kn : Int), .int .i64 0, .int .u64 0, .int .i64 0, .slice none 0 0, .slice none 0 0, .int .i64 0, .int .u64 0, .int .u64 0, .slice none 0 0] 58)
  have Z4 := Lib.hid (Z3.out.below hB4)
  have B4 := Lib.hid (ktr B3.out hB4)
  have r4 := Lib.hid (r3.out.on2 hB4)
  have HPL := Lib.hid PB.out.lt
  have HD3 := Lib.hid r3.out.dlt
  clear h1 o3 Z2 B2 Z3 B3 r3 hB4
  obtain ⟨x0, x1, x2, x3, x4, x5, x6, x7, x8, x9⟩ := PB.out.cells
  by_cases hk1 : kn < 1
  · have hk1b : decide ((kn : Int) < 1) = true := decide_eq_true (by omega)
    have HR := Lib.hid (readK_bad (fun hg => by have := HGOOD.out.1 hg; omega))
    clear HGOOD HRD hk1
    clear HGK HKD HRC HFI hk256
    generalize ((kn : Nat) : Int) = ki at *
    obtain ⟨y0, y1, y2, y3, y4, y5, y6, y7, y8, y9⟩ := Z4.out.cells
    obtain ⟨g0, g1, g2, g3, g4, g5, g6, g7, g8, g9⟩ := Z4.out.thaw
    have R1 := Lib.hid (Z4.out.all (.int .i64 0) (.int .i64 0) (.int .u64 0) (.int .i64 0) (.slice none 0 0) (.slice none 0 0) (.int .i64 0) (.int .u64 0) (.int .u64 0) (.slice none 0 0))
    have R2 := Lib.hid ((only_all (W3.alloc (.cells #[.int .i64 ki, .int .i64 0, .int .u64 0, .int .i64 0, .slice none 0 0, .slice none 0 0, .int .i64 0, .int .u64 0, .int .u64 0, .slice none 0 0] 58)) w.heap.size (.int .i64 0) (.int .i64 0) (.int .u64 0) (.int .i64 0) (.slice none 0 0) (.slice none 0 0) (.int .i64 0) (.int .u64 0) (.int .u64 0) (.slice none 0 0)).below B4.out (fun j hj => by omega) B4.out.size)
    go_wp2
    refine bodyPost_ret (results_row_tmp rfl _ _ w.heap.size 31 #[.int .i64 0, .int .i64 0, .int .u64 0, .int .i64 0, .slice none 0 0, .slice none 0 0, .int .i64 0, .int .u64 0, .int .u64 0, .slice none 0 0] (0, 0) _ rfl R1.out Try.underlying31 rfl (by kernel_rfl)) rfl ?_
    exact decK_none HR.out R2
  · have hk1b : decide ((kn : Int) < 1) = false := decide_eq_false (by omega)
    by_cases hk3 : 3 < kn
    · have hk3b : decide ((3 : Int) < (kn : Int)) = true := decide_eq_true (by omega)
      have HR := Lib.hid (readK_bad (fun hg => by have := HGOOD.out.1 hg; omega))
      clear HGOOD HRD hk1 hk3
      clear HGK HKD HRC HFI hk256
      generalize ((kn : Nat) : Int) = ki at *
      obtain ⟨y0, y1, y2, y3, y4, y5, y6, y7, y8, y9⟩ := Z4.out.cells
      obtain ⟨g0, g1, g2, g3, g4, g5, g6, g7, g8, g9⟩ := Z4.out.thaw
      have R1 := Lib.hid (Z4.out.all (.int .i64 0) (.int .i64 0) (.int .u64 0) (.int .i64 0) (.slice none 0 0) (.slice none 0 0) (.int .i64 0) (.int .u64 0) (.int .u64 0) (.slice none 0 0))
      have R2 := Lib.hid ((only_all (W3.alloc (.cells #[.int .i64 ki, .int .i64 0, .int .u64 0, .int .i64 0, .slice none 0 0, .slice none 0 0, .int .i64 0, .int .u64 0, .int .u64 0, .slice none 0 0] 58)) w.heap.size (.int .i64 0) (.int .i64 0) (.int .u64 0) (.int .i64 0) (.slice none 0 0) (.slice none 0 0) (.int .i64 0) (.int .u64 0) (.int .u64 0) (.slice none 0 0)).below B4.out (fun j hj => by omega) B4.out.size)
      go_wp2
      refine bodyPost_ret (results_row_tmp rfl _ _ w.heap.size 31 #[.int .i64 0, .int .i64 0, .int .u64 0, .int .i64 0, .slice none 0 0, .slice none 0 0, .int .i64 0, .int .u64 0, .int .u64 0, .slice none 0 0] (0, 0) _ rfl R1.out Try.underlying31 rfl (by kernel_rfl)) rfl ?_
      exact decK_none HR.out R2
    · have hk3b : decide ((3 : Int) < (kn : Int)) = false := decide_eq_false (by omega)
      have H13 := Lib.hid (show 1 ≤ kn ∧ kn ≤ 3 by omega)
      obtain ⟨fn, hfn, hix, hget⟩ := HGK.out q d (by omega) (by omega)
      have HFN := Lib.hid hfn
      have HIX := Lib.hid hix
      have hget2 : ∀ W, Rd RdT W q d s1.l s1.bad → Calls Try.prog fn #[.agg #[.int .i64 (kn : Int), .int .i64 0, .int .u64 0, .int .i64 0, .slice none 0 0, .slice none 0 0, .int .i64 0, .int .u64 0, .int .u64 0, .slice none 0 0], .pointer (some ⟨q, 0, none⟩)] W fun e w' => ∃ H ch A cb P cp, e = .returned (.agg (pkA P0 H ch A cb P cp)) ∧ Hid (PkM w' W.heap.size P0 H ch A cb P cp) ∧ Hid (Rd RdT w' q d s2.l s2.bad) ∧ Hid (Only (fun k => k = q) W w') := by
        intro W hW
        have := hget W hW
        unfold GotK at this
        rw [HRC.out] at this
        exact this
      have HGET := Lib.hid hget2
      clear hfn hix hget hget2 HGK hk1 hk3 HKD HRC hk256
      generalize ((kn : Nat) : Int) = ki at *
      go_wp2_with fail
      generalize W3.alloc (.cells #[.int .i64 ki, .int .i64 0, .int .u64 0, .int .i64 0, .slice none 0 0, .slice none 0 0, .int .i64 0, .int .u64 0, .int .u64 0, .slice none 0 0] 58) = W4 at *
      clear x0 x1 x2 x3 x4 x5 x6 x7 x8 x9
      have HPQ := Lib.hid (show W3.heap.size ≠ q by omega)
      have HQD := Lib.hid (show ∀ k, d = some k → k ≠ W3.heap.size from fun k e => by have := HD3.out k e; omega)
      have HBP := Lib.hid (show w.heap.size < W3.heap.size by omega)
      have hqp : q < W3.heap.size := hq3
      generalize hpb : W3.heap.size = pb at *
      clear hpb
      have HQ0 : Hid (q < W4.drew.heap.size) := Lib.hid (Nat.lt_trans hqp HPL.out)
      have HP0 : Hid (pb < W4.drew.heap.size) := HPL
      have PB5 : Hid (Row10 pb (.int .i64 ki) (.int .i64 0) (.int .u64 0) (.int .i64 0) (.slice none 0 0) (.slice none 0 0) (.int .i64 0) (.int .u64 0) (.int .u64 0) (.slice none 0 0) 58 W4.drew) := PB
      have r5 : Hid (Rd RdT W4.drew q d s1.l s1.bad) := r4
      have Z5 : Hid (Row10 w.heap.size (.int .i64 0) (.int .i64 0) (.int .u64 0) (.int .i64 0) (.slice none 0 0) (.slice none 0 0) (.int .i64 0) (.int .u64 0) (.int .u64 0) (.slice none 0 0) 31 W4.drew) := Z4
      have B5 := Lib.hid (show Below w.heap.size w W4.drew from ⟨B4.out.os, B4.out.tape, B4.out.output, B4.out.size, B4.out.block⟩)
      clear PB r4 Z4 B4
      refine region_steps2 (n := 38) (fun w w' => Only (fun j => j = q ∨ j = pb) w w') (DecI W4.drew q d pb ki s1 s2 P0) (DecG W4.drew q pb fn ki P0) (by kernel_rfl) (by kernel_rfl) rfl (fun w => Only.refl _ w) (fun _ _ _ h k => h.trans k fun _ _ e => e) ?inv0 (fun _ _ _ _ hb h => DecG.mono hb h) ?_ ?_
      case inv0 =>
        refine ⟨⟨fun e => by simp at e, fun e => by simp at e, fun e => by simp at e, fun e => by simp at e⟩, ?_, ?_⟩
        · rw [if_neg (by simp)]; exact r5.out
        · rw [if_neg (by simp)]; exact PB5.out
      · refine And.intro ?_ (And.intro ?_ (And.intro ?_ (And.intro ?_ (And.intro ?_ (And.intro ?_ (And.intro ?_ (And.intro ?_ (True.intro))))))))
        · intro listed a' w' hw hl hd K hK
          refine step_free rfl ?_
          unfold Oper.wp
          simp only [execOp]
          go_simp
          refine (readers_any w').mono ?_
          rintro en w2 ⟨rfl, hb2⟩
          exact hK _ _ (Only.ofBelow hb2.out) (hw.inv.step 0 (by decide) (by decide) (by omega) hb2.out (fun e => by cases e)) (fun s hs => by cases hs; rfl)
        · intro listed a' w' hw hl hd K hK
          have hv5 := hw.kept 5 (by kernel_rfl)
          refine step_free rfl ?_
          unfold Oper.wp
          simp only [execOp]
          go_simp
          exact hK _ _ (Only.refl _ _) (hw.inv.step 1 (by decide) (by decide) (by omega) (Below.refl _ _) (fun e => by cases e)) (fun s hs => by cases hs; rfl)
        · intro listed a' w' hw hl hd K hK
          have hv22 : a'.tmps.getD 22 undef = .pointer (some ⟨pb, 0, none⟩) := (hw.at_ 1 22 rfl (hd ⟨1, .data⟩ (by simp) rfl))
          have hR := hw.inv.row0 (hw.inv.clo.two hl)
          obtain ⟨u0, u1, u2, u3, u4, u5, u6, u7, u8, u9⟩ := hR.cells
          refine step_free rfl ?_
          unfold Oper.wp
          simp only [execOp]
          go_simp
          exact hK _ _ (Only.refl _ _) (hw.inv.step 2 (by decide) (by decide) (by omega) (Below.refl _ _) (fun e => by cases e)) (fun s hs => by cases hs; rfl)
        · intro listed a' w' hw hl hd K hK
          have hv21 : a'.tmps.getD 21 undef = .agg rtabC := (hw.at_ 0 21 rfl (hd ⟨0, .data⟩ (by simp) rfl))
          have hv23 : a'.tmps.getD 23 undef = .int .i64 ki := (hw.at_ 2 23 rfl (hd ⟨2, .data⟩ (by simp) rfl))
          refine step_free rfl ?_
          have hx := HIX.out w'
          unfold Oper.wp
          simp only [execOp]
          go_simp
          exact hK _ _ (Only.refl _ _) (hw.inv.step 3 (by decide) (by decide) (by omega) (Below.refl _ _) (fun _ => hd ⟨2, .data⟩ (by simp) rfl)) (fun s hs => by cases hs; rfl)
        · intro listed a' w' hw hl hd K hK
          have hv5 := hw.kept 5 (by kernel_rfl)
          have hR := hw.inv.row0 (hw.inv.clo.four hl)
          obtain ⟨u0, u1, u2, u3, u4, u5, u6, u7, u8, u9⟩ := hR.cells
          refine step_free rfl ?_
          unfold Oper.wp
          simp only [execOp]
          go_simp
          exact hK _ _ (Only.refl _ _) (hw.inv.step 4 (by decide) (by decide) (by omega) (Below.refl _ _) (fun e => by cases e)) (fun s hs => by cases hs; rfl)
        · intro listed a' w' hw hl hd K hK
          refine step_free rfl ?_
          apply wp_move
          exact hK _ _ (Only.refl _ _) (hw.inv.step 5 (by decide) (by decide) (by omega) (Below.refl _ _) (fun e => by cases e)) (fun s hs => by cases hs; exact hw.kept 4 (by kernel_rfl))
        · intro listed a' w' hw hl hd K hK
          have hv24 : a'.tmps.getD 24 undef = fnV fn := (hw.at_ 3 24 rfl (hd ⟨3, .data⟩ (by simp) rfl))
          have hv25 : a'.tmps.getD 25 undef = .agg #[.int .i64 ki, .int .i64 0, .int .u64 0, .int .i64 0, .slice none 0 0, .slice none 0 0, .int .i64 0, .int .u64 0, .int .u64 0, .slice none 0 0] := (hw.at_ 4 25 rfl (hd ⟨4, .data⟩ (by simp) rfl))
          have hv26 : a'.tmps.getD 26 undef = .pointer (some ⟨q, 0, none⟩) := (hw.at_ 5 26 rfl (hd ⟨5, .data⟩ (by simp) rfl))
          refine step_free rfl ?_
          have hR := hw.inv.row0 (hw.inv.clo.six hl)
          have hr0 := hw.inv.rd0 hl
          have h4 := hd ⟨4, .data⟩ (by simp) rfl
          have h3 := hd ⟨3, .data⟩ (by simp) rfl
          have hz := hw.held.size
          rcases HFN.out with hf | hf | hf
          · subst hf
            unfold Oper.wp
            simp only [execOp]
            go_simp
            refine (HGET.out w' hr0).mono ?_
            rintro en w2 ⟨H, ch, A, cb, P, cp, rfl, hm, hr, ho⟩
            exact hK _ _ (ho.out.weak (fun _ _ e => .inl e)) (hw.inv.got (by simp [hw.lsize]) h4 h3 (hR.only ho.out HPQ.out) hr.out (hw.inv.clo.six hl)) (fun s hs => by cases hs; exact ⟨H, ch, A, cb, P, cp, rfl, hm.out.lower hz, HQ0.out, HP0.out⟩)
          · subst hf
            unfold Oper.wp
            simp only [execOp]
            go_simp
            refine (HGET.out w' hr0).mono ?_
            rintro en w2 ⟨H, ch, A, cb, P, cp, rfl, hm, hr, ho⟩
            exact hK _ _ (ho.out.weak (fun _ _ e => .inl e)) (hw.inv.got (by simp [hw.lsize]) h4 h3 (hR.only ho.out HPQ.out) hr.out (hw.inv.clo.six hl)) (fun s hs => by cases hs; exact ⟨H, ch, A, cb, P, cp, rfl, hm.out.lower hz, HQ0.out, HP0.out⟩)
          · subst hf
            unfold Oper.wp
            simp only [execOp]
            go_simp
            refine (HGET.out w' hr0).mono ?_
            rintro en w2 ⟨H, ch, A, cb, P, cp, rfl, hm, hr, ho⟩
            exact hK _ _ (ho.out.weak (fun _ _ e => .inl e)) (hw.inv.got (by simp [hw.lsize]) h4 h3 (hR.only ho.out HPQ.out) hr.out (hw.inv.clo.six hl)) (fun s hs => by cases hs; exact ⟨H, ch, A, cb, P, cp, rfl, hm.out.lower hz, HQ0.out, HP0.out⟩)
        · intro listed a' w' hw hl hd K hK
          have hv5 := hw.kept 5 (by kernel_rfl)
          have hv27 : DecV W4.drew q pb P0 w' (a'.tmps.getD 27 undef) := (hw.at_ 6 27 rfl (hd ⟨6, .data⟩ (by simp) rfl))
          refine step_free rfl ?_
          have h6 := hd ⟨6, .data⟩ (by simp) rfl
          have hR := hw.inv.row0 hl
          obtain ⟨H, ch, A, cb, P, cp, e27, hm, -, -⟩ := hv27
          simp only [pkA] at e27
          have g27 := e27
          simp only [Array.getD_eq_getD_getElem?] at g27
          obtain ⟨u0, u1, u2, u3, u4, u5, u6, u7, u8, u9⟩ := hR.cells
          obtain ⟨f0, f1, f2, f3, f4, f5, f6, f7, f8, f9⟩ := hR.thaw
          unfold Oper.wp
          simp only [execOp]
          go_simp
          have hR2 := hR.all (.int .i64 P0.kind) (.int .i64 P0.src.1) (.int .u64 P0.src.2) (.int .i64 P0.hops) (.slice H P0.heads.length ch) (.slice A P0.body.length cb) (.int .i64 P0.srv.1) (.int .u64 P0.srv.2) (.int .u64 (P0.aseq : Int)) (.slice P P0.peers.length cp)
          have hO := only_all w' pb (.int .i64 P0.kind) (.int .i64 P0.src.1) (.int .u64 P0.src.2) (.int .i64 P0.hops) (.slice H P0.heads.length ch) (.slice A P0.body.length cb) (.int .i64 P0.srv.1) (.int .u64 P0.srv.2) (.int .u64 (P0.aseq : Int)) (.slice P P0.peers.length cp)
          refine hK undef _ (hO.weak (fun _ _ e => .inr e)) (hw.inv.done (by simp [hw.lsize]) h6 hO HPQ.out HQD.out ⟨H, ch, A, cb, P, cp, hR2, hm.keep hO (by have := HP0.out; omega)⟩) (fun s hs => by cases hs)
      · intro listed a' w' hw hall
        have hF := hw.inv
        have hall6 := hall 6 (Nat.lt_of_lt_of_eq (show 6 < 8 by omega) rfl)
        have hall7 := hall 7 (Nat.lt_of_lt_of_eq (show 7 < 8 by omega) rfl)
        have hrd := hF.rd
        rw [if_pos hall6] at hrd
        have hrow := hF.row
        rw [if_pos hall7] at hrow
        obtain ⟨H, ch, Ab, cb, P, cp, hR6, hm6⟩ := hrow
        have R6 := Lib.hid hR6
        have M6 := Lib.hid hm6
        have r6 := Lib.hid hrd
        have hheld := hw.held
        have Z6 := Lib.hid (Z5.out.only hheld (by omega))
        have B6 := Lib.hid (hheld.below B5.out (fun j hj => by omega) B5.out.size)
        clear hF hall6 hall7 hrd hR6 hm6 hheld HFN HIX HGET PB5 r5 Z5 B5
        have hp := hw.puts [21, 22, 23, 24, 25, 26, 27] (by kernel_rfl)
        clear hw hall
        rw [hp]
        simp only [List.foldl_cons, List.foldl_nil]
        generalize a'.tmps.getD 21 undef = u21
        generalize a'.tmps.getD 22 undef = u22
        generalize a'.tmps.getD 23 undef = u23
        generalize a'.tmps.getD 24 undef = u24
        generalize a'.tmps.getD 25 undef = u25
        generalize a'.tmps.getD 26 undef = u26
        generalize a'.tmps.getD 27 undef = u27
        clear hp 
        simp only [Act.put, List.setIfInBounds_toArray, List.set_cons_succ, List.set_cons_zero]
        go_wp2_with fail
        refine (end_any q d s2 w' r6.out).mono ?_
        rintro en W7 ⟨rfl, r7, o7⟩
        have R7 := Lib.hid (R6.out.only o7.out HPQ.out)
        have M7 := Lib.hid (M6.out.keep o7.out HQ0.out)
        have Z7 := Lib.hid (Z6.out.only o7.out (by omega))
        have B7 := Lib.hid (o7.out.below B6.out (fun j hj => by omega) B6.out.size)
        have HSB := Lib.hid (show w.heap.size ≤ W4.drew.heap.size from Nat.le_trans (Nat.le_of_lt hwq) (Nat.le_of_lt HQ0.out))
        clear R6 M6 r6 r7 o7 Z6 B6
        have HMF := Lib.hid (show ∀ W, Below W7.heap.size W7 W → Calls Try.prog 11 #[.agg (pkA P0 H ch Ab cb P cp)] W fun e w' => e = .returned (.bool (decide (mayK P0))) ∧ Hid (Below W.heap.size W w') from fun W hW => by
          have hf := HFI.out
          obtain ⟨k, ⟨s, t⟩, h, heads, body, ⟨x, y⟩, z, peers⟩ := P0
          have hm := M7.out.on hW
          exact kmay_any k s t h x y z heads body peers H Ab P _ ch _ cb _ cp W.heap.size W hf.1 hf.2.1 hm.1.heads hm.2.2.lives (Nat.le_refl _) rfl rfl rfl hf.2.2.1 hf.2.2.2.1 hf.2.2.2.2)
        simp only [pkA] at HMF
        have hpk : ∀ r : DecK w l (.returned (.tuple #[.agg (pkA P0 H ch Ab cb P cp), .int .i64 0])) = DecK w l (.returned (.tuple #[.agg (pkA P0 H ch Ab cb P cp), .int .i64 0])), True := fun _ => trivial
        clear hpk
        have HFIN := Lib.hid (show ∀ W, readK l = some P0 → Hid (PkM W w.heap.size P0 H ch Ab cb P cp) → Hid (Below w.heap.size w W) → DecK w l (.returned (.tuple #[.agg (pkA P0 H ch Ab cb P cp), .int .i64 0])) W from fun W hr h1 h2 => ⟨H, ch, Ab, cb, P, cp, by rw [hr]; rfl, by rw [hr]; exact h1, h2⟩)
        simp only [pkA] at HFIN
        generalize P0.kind = k at *
        generalize P0.src.1 = s at *
        generalize P0.src.2 = t at *
        generalize P0.hops = h at *
        generalize P0.heads.length = nh at *
        generalize P0.body.length = nb at *
        generalize P0.srv.1 = x at *
        generalize P0.srv.2 = y at *
        generalize P0.aseq = z at *
        generalize P0.peers.length = np at *
        cases hbad : (rEnd s2).bad with
        | true =>
          have HR := Lib.hid (readK_bad (fun hg => by have := (HGOOD.out.1 hg).2.2.1; rw [hbad] at this; cases this))
          clear hbad HGOOD HRD HMF HFIN
          simp only [errOf, if_true]
          obtain ⟨y0, y1, y2, y3, y4, y5, y6, y7, y8, y9⟩ := Z7.out.cells
          obtain ⟨g0, g1, g2, g3, g4, g5, g6, g7, g8, g9⟩ := Z7.out.thaw
          have R1 := Lib.hid (Z7.out.all (.int .i64 0) (.int .i64 0) (.int .u64 0) (.int .i64 0) (.slice none 0 0) (.slice none 0 0) (.int .i64 0) (.int .u64 0) (.int .u64 0) (.slice none 0 0))
          have R2 := Lib.hid ((only_all W7 w.heap.size (.int .i64 0) (.int .i64 0) (.int .u64 0) (.int .i64 0) (.slice none 0 0) (.slice none 0 0) (.int .i64 0) (.int .u64 0) (.int .u64 0) (.slice none 0 0)).below B7.out (fun j hj => by omega) B7.out.size)
          go_wp2
          refine bodyPost_ret (results_row_tmp rfl _ _ w.heap.size 31 #[.int .i64 0, .int .i64 0, .int .u64 0, .int .i64 0, .slice none 0 0, .slice none 0 0, .int .i64 0, .int .u64 0, .int .u64 0, .slice none 0 0] (0, 0) _ rfl R1.out Try.underlying31 rfl (by kernel_rfl)) rfl ?_
          exact decK_none HR.out R2
        | false =>
          have HBAD := Lib.hid hbad
          clear hbad
          simp only [errOf, Bool.false_eq_true, if_false]
          obtain ⟨x0, x1, x2, x3, x4, x5, x6, x7, x8, x9⟩ := R7.out.cells
          go_wp2_with fail
          refine (HMF.out W7 (Below.refl _ _)).mono ?_
          rintro en W8 ⟨rfl, hb8⟩
          have R8 := Lib.hid (R7.out.below hb8.out)
          have M8 := Lib.hid (M7.out.on hb8.out)
          have Z8 := Lib.hid (Z7.out.below hb8.out)
          have B8 := Lib.hid (ktr B7.out hb8.out)
          clear R7 M7 Z7 B7 hb8 HMF x0 x1 x2 x3 x4 x5 x6 x7 x8 x9
          by_cases hm : mayK P0
          · rw [decide_eq_true hm]
            have HR := Lib.hid (HRD.out (HGOOD.out.2 ⟨H13.out.1, H13.out.2, HBAD.out, hm⟩))
            clear hm HGOOD HRD
            obtain ⟨x0, x1, x2, x3, x4, x5, x6, x7, x8, x9⟩ := R8.out.cells
            obtain ⟨y0, y1, y2, y3, y4, y5, y6, y7, y8, y9⟩ := Z8.out.cells
            obtain ⟨g0, g1, g2, g3, g4, g5, g6, g7, g8, g9⟩ := Z8.out.thaw
            have R1 := Lib.hid (Z8.out.all (.int .i64 k) (.int .i64 s) (.int .u64 t) (.int .i64 h) (.slice H nh ch) (.slice Ab nb cb) (.int .i64 x) (.int .u64 y) (.int .u64 (z : Int)) (.slice P np cp))
            have R2 := Lib.hid ((only_all W8 w.heap.size (.int .i64 k) (.int .i64 s) (.int .u64 t) (.int .i64 h) (.slice H nh ch) (.slice Ab nb cb) (.int .i64 x) (.int .u64 y) (.int .u64 (z : Int)) (.slice P np cp)).below B8.out (fun j hj => by omega) B8.out.size)
            have R3 := Lib.hid ((M8.out.keep (only_all W8 w.heap.size (.int .i64 k) (.int .i64 s) (.int .u64 t) (.int .i64 h) (.slice H nh ch) (.slice Ab nb cb) (.int .i64 x) (.int .u64 y) (.int .u64 (z : Int)) (.slice P np cp)) (Nat.lt_trans HWQ.out HQ0.out)).lower HSB.out)
            clear R8 M8 Z8 B8
            go_wp2
            refine bodyPost_ret (results_row_tmp rfl _ _ w.heap.size 31 #[.int .i64 k, .int .i64 s, .int .u64 t, .int .i64 h, .slice H nh ch, .slice Ab nb cb, .int .i64 x, .int .u64 y, .int .u64 (z : Int), .slice P np cp] (0, 0) _ rfl R1.out Try.underlying31 rfl (by kernel_rfl)) rfl ?_
            exact HFIN.out _ HR.out R3 R2
          · rw [decide_eq_false hm]
            have HR := Lib.hid (readK_bad (fun hg => hm (HGOOD.out.1 hg).2.2.2))
            clear hm HGOOD HRD HFIN
            obtain ⟨y0, y1, y2, y3, y4, y5, y6, y7, y8, y9⟩ := Z8.out.cells
            obtain ⟨g0, g1, g2, g3, g4, g5, g6, g7, g8, g9⟩ := Z8.out.thaw
            have R1 := Lib.hid (Z8.out.all (.int .i64 0) (.int .i64 0) (.int .u64 0) (.int .i64 0) (.slice none 0 0) (.slice none 0 0) (.int .i64 0) (.int .u64 0) (.int .u64 0) (.slice none 0 0))
            have R2 := Lib.hid ((only_all W8 w.heap.size (.int .i64 0) (.int .i64 0) (.int .u64 0) (.int .i64 0) (.slice none 0 0) (.slice none 0 0) (.int .i64 0) (.int .u64 0) (.int .u64 0) (.slice none 0 0)).below B8.out (fun j hj => by omega) B8.out.size)
            go_wp2
            refine bodyPost_ret (results_row_tmp rfl _ _ w.heap.size 31 #[.int .i64 0, .int .i64 0, .int .u64 0, .int .i64 0, .slice none 0 0, .slice none 0 0, .int .i64 0, .int .u64 0, .int .u64 0, .slice none 0 0] (0, 0) _ rfl R1.out Try.underlying31 rfl (by kernel_rfl)) rfl ?_
            exact decK_none HR.out R2
end Go.Proofs.Ytlcddfkhklmieaa
