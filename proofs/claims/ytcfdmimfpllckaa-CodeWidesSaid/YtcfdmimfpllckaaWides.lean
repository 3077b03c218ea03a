/-
  The statement CodeWides' walk: whatever numbers and sizes, it answers true, and leaves all that was there as it was. No condition.
-/
import Derived.Test.YtcfdmimfpllckaaPut
import Derived.Test.YtcfdmimfpllckaaClear
import Derived.StillTailTactics
import Derived.Test.YtcfdmimfpllckaaStep
import Derived.Deep.RegionHeld3
namespace Go.Proofs.Ytcfdmimfpllckaa
open Go.RowKit

def WiG (p1 m cap : Nat) (A : Option Addr) (l0 : List UInt8) (i : Nat) (w : World) (v : Value) : Prop :=
  match i with
  | 0 => v = .pointer (some ⟨p1, 0, none⟩)
  | 1 => BytesV l0 w v
  | 2 => v = Value.string ⟨l0.toArray⟩
  | 3 => v = .slice A m cap
  | 4 => v = Value.string ⟨l0.toArray⟩
  | 5 => v = .bool true
  | 6 => v = .bool true
  | 7 => v = .bool true
  | 8 => v = .bool true
  | _ => v = .bool true
theorem WiG.mono {p1 m cap : Nat} {A : Option Addr} {l0 : List UInt8} {i : Nat} {v : Value} {w w' : World} (hb : Below w.heap.size w w') (h : WiG p1 m cap A l0 i w v) : WiG p1 m cap A l0 i w' v := by
  unfold WiG at *
  split at h <;> first | exact h | exact BytesV.mono hb h

/-- The wide numbers of the first k. -/
def widesL (l : List Nat) (js : List Int) : Nat → List UInt8
  | 0 => []
  | k + 1 => widesL l js k ++ wideL (l.getD k 0) (2 ^ (js.getD k 0 % 4).toNat)
theorem pow_size (j : Int) : 2 ^ (j % 4).toNat ≤ 8 := by
  have h : (j % 4).toNat ≤ 3 := by omega
  exact Nat.pow_le_pow_right (by omega) h
theorem widesL_le (l : List Nat) (js : List Int) (k : Nat) : (widesL l js k).length ≤ 8 * k := by
  induction k with
  | zero => simp [widesL]
  | succ k ih =>
    rw [widesL, List.length_append, wideL_length]
    have := pow_size (js.getD k 0)
    omega
theorem shl_one (s : Nat) (h : s < 4) : wrap64 ((2 : Int) ^ s) = ((2 ^ s : Nat) : Int) ∧ IntKind.i64.wrap ((2 : Int) ^ s) = ((2 ^ s : Nat) : Int) ∧ IntKind.i64.wrap (1 * (2 : Int) ^ s) = ((2 ^ s : Nat) : Int) := by
  have : s = 0 ∨ s = 1 ∨ s = 2 ∨ s = 3 := by omega
  rcases this with rfl | rfl | rfl | rfl <;> decide +kernel
def WzE (w : World) (x z : Nat) (e : Ending) (w' : World) : Prop := ∃ A cap, e = .returned (.slice A z cap) ∧ Hid (Own8 w' w.heap.size A z cap (wideL x z)) ∧ Hid (Below w.heap.size w w')
theorem refWide_z (x z : Nat) (w : World) (hx : x < 18446744073709551616) (hz : z ≤ 8) :
    Calls Try.prog 15 #[.int .u64 (x : Int), .int .i64 (z : Int)] w (WzE w x z) := by
  refine (refWide_any x z w hx hz).mono ?_
  rintro e w' ⟨A, cap, rfl, ho, hb⟩
  rw [wideL_length] at ho
  exact ⟨A, cap, by rw [wideL_length], ho, hb⟩
def WidesRel (w : World) (p1 : Nat) (l : List Nat) (js : List Int) (n : Nat) (o i : Value) (wr : World) : Prop :=
  ∃ k g A m cap, k ≤ n ∧ i = .int .i64 (k : Nat) ∧ o = .slice A m cap ∧ Hid ((widesL l js k).length = m) ∧ Hid (WS w.heap.size w wr p1 g (widesL l js k)) ∧
    Hid (BS w.heap.size w wr A m cap (widesL l js k)) ∧ Hid (Ap (blockOf A) g)
set_option maxRecDepth 100000 in
set_option maxHeartbeats 3200000 in
theorem wides_walk (A0 A1 : Option Addr) (l : List Nat) (js : List Int) (c0 c1 : Nat) (w : World) (h1 : Nums w w.heap.size A0 l) (h2 : IntsIn w A1 js) (hl : AllU64 l) :
    Calls Try.prog 3 #[.slice A0 l.length c0, .slice A1 js.length c1] w fun e w' => e = .returned (.bool true) ∧ Hid (Below w.heap.size w w') := by
  have H1 := Lib.hid h1
  have H2 := Lib.hid h2
  have HL := Lib.hid hl
  clear h1 h2 hl
  generalize hn1 : l.length = n1 at *
  generalize hn2 : js.length = n2 at *
  have HN1 := Lib.hid hn1
  have HN2 := Lib.hid hn2
  clear hn1 hn2
  go_enter Try.func3, Try.ntmps3
  by_cases hb1 : 1000 < n1
  · have hb1' : (1000 : Int) < (n1 : Int) := by omega
    go_wp2_with fail
    refine (awake_any w).mono ?_
    rintro e W1 ⟨rfl, hb⟩
    go_wp2
    go_ret
    exact ⟨rfl, hb⟩
  · have hb1' : ¬ (1000 : Int) < (n1 : Int) := by omega
    by_cases hb2 : n2 = n1
    · subst hb2
      go_wp2_with fail
      refine (new_at (Below.refl w.heap.size w) (Nat.le_refl _)).mono ?_
      rintro e W1 ⟨p1, rfl, o1, b1, z1⟩
      clear b1 z1
      go_wp2_with fail
      clear hb1'
      go_loopw [6, 7] (fun o i wr => WidesRel w p1 l js n2 o i wr) (fun _ i _ => n2 - (intOf i).toNat)
      case atStart => exact ⟨0, none, none, 0, 0, by omega, rfl, rfl, Lib.hid rfl, o1, Lib.hid ⟨Own8.nil_, o1.out.below, fun _ h => by cases h⟩, Lib.hid Ap.none_left⟩
      case round =>
        obtain ⟨k, g, A, m, cap, hk, rfl, rfl, hm, hO, hA, hap⟩ := hrel
        by_cases hlt : k < n2
        · obtain ⟨b, off, rfl, hbB, hc⟩ := H1.out (by rw [HN1.out]; omega)
          obtain ⟨b', off', rfl, hbB', hc'⟩ := H2.out (by rw [HN2.out]; omega)
          have hcell := (hO.out.below.cell (p := ⟨b, off + k, none⟩) hbB).trans (hc k (by rw [HN1.out]; exact hlt))
          have hcell' := (hO.out.below.cell (p := ⟨b', off' + k, none⟩) hbB').trans (hc' k (by rw [HN2.out]; exact hlt))
          have HS := Lib.hid (show widesL l js (k + 1) = widesL l js k ++ wideL (l.getD k 0) (2 ^ (js.getD k 0 % 4).toNat) from rfl)
          have hxm := Lib.hid (getD_mem_lt HL.out (by rw [HN1.out]; exact hlt))
          have hLk : Hid ((widesL l js k).length ≤ 8000) := Lib.hid (by have := widesL_le l js k; omega)
          have hp8 := pow_size (js.getD k 0)
          have e1 : bits .and .i64 (js.getD k 0) 3 = (((js.getD k 0 % 4).toNat : Nat) : Int) := by rw [i64_and3]; omega
          have hs4 : (js.getD k 0 % 4).toNat < 4 := by omega
          clear hc hc'
          generalize l.getD k 0 = x at *
          generalize js.getD k 0 = j at *
          generalize (j % 4).toNat = s at *
          obtain ⟨e2, e3, e4⟩ := shl_one s hs4
          have HP8 := Lib.hid hp8
          have HPUT := Lib.hid (fun (W : World) g l' (h : WS w.heap.size w W p1 g l') hr => putw_at h x s hs4 hr)
          clear hp8
          generalize 2 ^ s = z at *
          have k0 : (0 : Int) ≤ (k : Int) := by omega
          have k1 : (k : Int) < (n2 : Int) := by omega
          have hs0 : (0 : Int) ≤ (s : Int) := by omega
          have hx0 : (0 : Int) ≤ (x : Int) := by omega
          go_wp2_with fail
          go_still_tail 10, (by kernel_rfl)
          change wpList _ _ _ _ _ wr.drew
          have hOd : Hid (WS w.heap.size w wr.drew p1 g (widesL l js k)) := Lib.hid (hO.out.later (Below.drew (Below.refl _ _)))
          have hAd : Hid (BS w.heap.size w wr.drew A m cap (widesL l js k)) := Lib.hid (hA.out.later hO.out.size (Below.drew (Below.refl _ _)))
          have hcellb : wr.drew.cell? ⟨b, off + k, none⟩ = some (.int .u64 (x : Int)) := hcell
          have hcellb' : wr.drew.cell? ⟨b', off' + k, none⟩ = some (.int .i64 j) := hcell'
          clear hcell hcell' hO hA
          generalize wr.drew = wd at *
          go_wp2_with fail
          refine (HPUT.out _ _ _ hOd.out (by have := hLk.out; omega)).mono ?_
          rintro e V1 ⟨rfl, g1, p1a, p1n, p1o⟩
          have A1b := Lib.hid (hAd.out.over hOd.out hap.out p1o.out)
          have ap1 : Hid (Ap (blockOf A) g1) := Lib.hid (hap.out.symm.new p1n.out hAd.out.lt).symm
          have hcell1 := (p1a.out.below.cell (p := ⟨b, off + k, none⟩) hbB).trans ((hOd.out.below.cell (p := ⟨b, off + k, none⟩) hbB).symm.trans hcellb)
          have hcell1' := (p1a.out.below.cell (p := ⟨b', off' + k, none⟩) hbB').trans ((hOd.out.below.cell (p := ⟨b', off' + k, none⟩) hbB').symm.trans hcellb')
          clear hcellb hcellb' hOd hAd hap p1n p1o HPUT
          go_wp2_with fail
          have p1d := p1a
          have A1d := A1b
          have hwl := Lib.hid (wideL_length x z)
          have hlm := Lib.hid (show m + z ≤ 140737488355328 by have h1 := hm.out; have h2 := hLk.out; have h3 := HP8.out; omega)
          clear p1a A1b
          go_region_held3 (fun w' => w'.cell? ⟨b, off + k, none⟩ = some (.int .u64 (x : Int)) ∧ w'.cell? ⟨b', off' + k, none⟩ = some (.int .i64 j)) (first | go_keep | exact q2.out | exact q3.out) (first | (refine step_append8 rfl rfl (.tmp 38) (.tmp 49) rfl A m cap (widesL l js k) (by rfl) A2b.out.own A2 z c2 _ (wideL x z) (by rfl) hwl.out hnc.out hba.out hlm.out ?_; intro A3 cap3 V3 h3 h4 h5; have q3 := Lib.hid (And.intro ((h4.out.cell (p := ⟨b, off + k, none⟩) qlt.out.1 (qne.out.1)).trans q2.out.1) ((h4.out.cell (p := ⟨b', off' + k, none⟩) qlt.out.2 (qne.out.2)).trans q2.out.2))) | (go_at_call 15; refine (refWide_z x z _ hxm.out HP8.out).mono ?_; rintro e V2 ⟨A2, c2, rfl, ho2, hb2⟩; have p2a := Lib.hid (p1d.out.later (below_drew_left hb2.out)); have A2b := Lib.hid (A1d.out.later p1d.out.size (below_drew_left hb2.out)); have hba := Lib.hid ho2.out.bytes; have hnc := Lib.hid ho2.out.none_cap; have qlt := Lib.hid (And.intro (Nat.lt_of_lt_of_le hbB p2a.out.size) (Nat.lt_of_lt_of_le hbB' p2a.out.size)); have qne : Hid (¬ blockOf A = some b ∧ ¬ blockOf A = some b') := Lib.hid ⟨fun e => by have := A2b.out.hA _ e; omega, fun e => by have := A2b.out.hA _ e; omega⟩; have q2 := Lib.hid (And.intro ((p2a.out.below.cell (p := ⟨b, off + k, none⟩) hbB).trans (p1d.out.below.cell (p := ⟨b, off + k, none⟩) hbB).symm |>.trans hcell1) ((p2a.out.below.cell (p := ⟨b', off' + k, none⟩) hbB').trans (p1d.out.below.cell (p := ⟨b', off' + k, none⟩) hbB').symm |>.trans hcell1'))))
          clear hcell1 hcell1' p1d A1d e1 e2 e3 e4 q2 q3 qlt qne
          have A3b := Lib.hid (A2b.out.grown p2a.out.size h3.out h4.out h5.out)
          have p3a := Lib.hid (p2a.out.over A2b.out ap1.out h4.out)
          have ap3 : Hid (Ap (blockOf A3) g1) := Lib.hid (ap1.out.new h5.out p2a.out.glt)
          have hm3 := Lib.hid (show (widesL l js (k + 1)).length = m + z by rw [HS.out, List.length_append, hm.out, hwl.out])
          rw [← HS.out] at A3b p3a
          clear h3 h4 h5 p2a A2b ap1 hba hnc HS hm hwl
          have hl3 : Hid ((widesL l js (k + 1)).length ≤ 35184372088832) := Lib.hid (by rw [hm3.out]; have := hlm.out; have h3 := HP8.out; have h2 := widesL_le l js (k + 1); rw [hm3.out] at h2; omega)
          go_wp2_with fail
          refine (bytes_at p3a.out hl3.out).mono ?_
          rintro e V4 ⟨A4, c4, rfl, ho4, hb4⟩
          rw [hm3.out]
          have p4a := Lib.hid (p3a.out.later hb4.out)
          have A4b := Lib.hid (A3b.out.later p3a.out.size hb4.out)
          have hfr : Hid (∀ q, blockOf A4 = some q → V3.heap.size ≤ q) := Lib.hid (fun q hq => (ho4.out.lt hq).1)
          have hap4 : Hid (Ap (blockOf A4) g1 ∧ Ap (blockOf A3) (blockOf A4)) := Lib.hid ⟨(Ap.late p3a.out.glt hfr.out).symm, Ap.late A3b.out.lt hfr.out⟩
          have ho4' : Hid (Own8 V4 V3.heap.size A4 (m + z) c4 (widesL l js (k + 1))) := Lib.hid (by have := ho4.out; rwa [hm3.out] at this)
          have hB3 := Lib.hid (p3a.out.size)
          clear p3a A3b hb4 ho4
          have C1 := conv_str c4 ho4'.out.bytes hm3.out
          have C2 := conv_str cap3 A4b.out.own.bytes hm3.out
          go_wp2_with fail
          refine (len_at p4a.out (m + z) hm3.out).mono ?_
          rintro e V5 ⟨rfl, rfl⟩
          obtain ⟨V5, hcl, hcd⟩ := clear_bts A4 (m + z) c4 _ V4 hm3.out ho4'.out.bts
          go_wp2_with fail
          clear C1 C2
          have p5a := Lib.hid (p4a.out.other hcd.out.only (fun q hq => Nat.le_trans hB3.out (hfr.out q hq)) (fun e => by
            obtain ⟨-, cur, hc, _⟩ := ho4'.out.block e
            obtain ⟨A', cap', h1, _⟩ := p4a.out.wr
            rw [h1] at hc
            simp at hc) (fun q hq e => hap4.out.1 q e hq))
          have A5b : Hid (BS w.heap.size w V5 A3 (m + z) cap3 (widesL l js (k + 1))) := Lib.hid ⟨A4b.out.own.keep hcd.out.only (fun q hq e => hap4.out.2 q hq e), p5a.out.below, A4b.out.hA⟩
          clear p4a A4b hap4 hcl hcd ho4'
          go_wp2
          go_roundw
          case rel => exact ⟨k + 1, g1, A3, m + z, cap3, by omega, by go_num, rfl, hm3, p5a, A5b, ap3⟩
          case measure => simp [intOf]; omega
        · obtain rfl : k = n2 := by omega
          have hO1 := hO
          have LN := hm
          have LR : Hid ((widesL l js k).length ≤ 35184372088832) := Lib.hid (by have := widesL_le l js k; omega)
          have hk1 : ¬ (k : Int) < (k : Int) := by omega
          clear hO hm hap H1 H2 HL
          generalize widesL l js k = l0 at *
          go_wp2_with fail
          refine region_steps (n := 75) (WiG p1 m cap A l0) (by kernel_rfl) (by kernel_rfl) rfl (fun _ _ _ _ hb h => WiG.mono hb h) ?_ ?_
          · refine And.intro ?_ (And.intro ?_ (And.intro ?_ (And.intro ?_ (And.intro ?_ (And.intro ?_ (And.intro ?_ (And.intro ?_ (And.intro ?_ (And.intro ?_ (True.intro))))))))))
            · intro listed a' w' hw hd K hK
              refine step_free rfl ?_
              apply wp_move
              exact hK _ _ (Below.refl _ _) (fun s hs => by cases hs; exact hw.kept 5 (by kernel_rfl))
            · intro listed a' w' hw hd K hK
              have hv66 : a'.tmps.getD 66 undef = .pointer (some ⟨p1, 0, none⟩) := (hw.at_ 0 66 rfl (hd ⟨0, .data⟩ (by simp) rfl))
              refine step_free rfl ?_
              have hO := Lib.hid (hO1.out.later (below_drew_left hw.below))
              unfold Oper.wp
              simp only [execOp]
              go_simp
              refine (bytes_at hO.out LR.out).mono ?_
              rintro e w2 ⟨A2, c2, rfl, ho2, hb2⟩
              exact hK _ _ hb2.out (fun s hs => by cases hs; exact ⟨A2, c2, rfl, ho2.out.bytes⟩)
            · intro listed a' w' hw hd K hK
              have hv67 : BytesV l0 w' (a'.tmps.getD 67 undef) := (hw.at_ 1 67 rfl (hd ⟨1, .data⟩ (by simp) rfl))
              refine step_free rfl ?_
              obtain ⟨A2, c2, hv, hb2⟩ := hv67
              have C := conv_str c2 hb2 rfl
              unfold Oper.wp
              simp only [execOp]
              go_simp
              exact hK _ _ (Below.refl _ _) (fun s hs => by cases hs; rfl)
            · intro listed a' w' hw hd K hK
              refine step_free rfl ?_
              apply wp_move
              exact hK _ _ (Below.refl _ _) (fun s hs => by cases hs; exact hw.kept 6 (by kernel_rfl))
            · intro listed a' w' hw hd K hK
              have hv69 : a'.tmps.getD 69 undef = .slice A m cap := (hw.at_ 3 69 rfl (hd ⟨3, .data⟩ (by simp) rfl))
              have C := conv_str (w := w') cap ((hA.out.later hO1.out.size (below_drew_left hw.below)).own.bytes) LN.out
              refine step_free rfl ?_
              unfold Oper.wp
              simp only [execOp]
              go_simp
              exact hK _ _ (Below.refl _ _) (fun s hs => by cases hs; rfl)
            · intro listed a' w' hw hd K hK
              have hv68 : a'.tmps.getD 68 undef = Value.string ⟨l0.toArray⟩ := (hw.at_ 2 68 rfl (hd ⟨2, .data⟩ (by simp) rfl))
              have hv70 : a'.tmps.getD 70 undef = Value.string ⟨l0.toArray⟩ := (hw.at_ 4 70 rfl (hd ⟨4, .data⟩ (by simp) rfl))
              refine step_free rfl ?_
              unfold Oper.wp
              simp only [execOp]
              go_simp
              exact hK _ _ (Below.refl _ _) (fun s hs => by cases hs; rfl)
            · intro listed a' w' hw hd K hK
              refine step_free rfl ?_
              apply wp_move
              exact hK _ _ (Below.refl _ _) (fun s hs => by cases hs; exact (hw.at_ 5 71 rfl (hd ⟨5, .data⟩ (by simp) rfl)))
            · intro listed a' w' hw hd K hK
              have hgd : a'.tmps.getD 72 undef = .bool true := (hw.at_ 6 72 rfl (hd ⟨6, .guard⟩ (by simp) rfl))
              refine step_guarded (j := 6) (b := true) (s := 72) rfl rfl (by rw [hw.size]; exact Nat.lt_of_lt_of_eq (show 72 < 75 by omega) rfl) hgd ?_
              unfold Oper.wp
              simp only [execOp]
              go_simp
              refine (awake_any w').mono ?_
              rintro e w2 ⟨rfl, hb2⟩
              exact hK _ _ hb2.out (fun s hs => by cases hs; rfl)
            · intro listed a' w' hw hd K hK
              have hv72 : a'.tmps.getD 72 undef = .bool true := (hw.at_ 6 72 rfl (hd ⟨6, .data⟩ (by simp) rfl))
              have hv73 : a'.tmps.getD 73 undef = .bool true := (hw.at_ 7 73 rfl (hd ⟨7, .data⟩ (by simp) rfl))
              refine step_free rfl ?_
              unfold Oper.wp
              simp only [execOp]
              go_simp
              exact hK _ _ (Below.refl _ _) (fun s hs => by cases hs; rfl)
            · intro listed a' w' hw hd K hK
              refine step_free rfl ?_
              apply wp_assign
              exact hK _ _ (Below.refl _ _) (fun s hs => by cases hs; exact (hw.at_ 8 74 rfl (hd ⟨8, .data⟩ (by simp) rfl)))
          · intro listed a' w' hw hall
            have h2 : a'.tmps.getD 4 undef = .bool true := hw.at_ 9 4 rfl (hall 9 (Nat.lt_of_lt_of_eq (show 9 < 10 by omega) rfl))
            have hdf : a'.defers = [] := hw.defers
            have hbF : Hid (Below w.heap.size w w') := Lib.hid (hO1.out.below.trans ((below_drew_left hw.below).mono hO1.out.size))
            clear hw hall
            go_wp2
            have hr := results_tmp (fn := Try.f3) (t := 4) rfl a'.tmps Try.prog w'
            rw [h2] at hr
            exact bodyPost_ret hr hdf ⟨rfl, hbF⟩
    · have hb3 : ((n2 : Int) == (n1 : Int)) = false := by simp; omega
      have hb4 : ¬ (n2 : Int) = (n1 : Int) := by omega
      go_wp2_with fail
      refine (awake_any w).mono ?_
      rintro e W1 ⟨rfl, hb⟩
      go_wp2
      go_ret
      exact ⟨rfl, hb⟩
end Go.Proofs.Ytcfdmimfpllckaa
