/-
  The statement CodeShorts' walk: whatever numbers, it answers true, and leaves all that was there as it was. No condition.
-/
import Derived.Test.YtcfdmimfpllckaaAts
namespace Go.Proofs.Ytcfdmimfpllckaa
open Go.RowKit

def ShG (p1 p2 m cap : Nat) (A : Option Addr) (l0 : List UInt8) (i : Nat) (w : World) (v : Value) : Prop :=
  match i with
  | 0 => v = .pointer (some ⟨p1, 0, none⟩)
  | 1 => BytesV l0 w v
  | 2 => v = Value.string ⟨l0.toArray⟩
  | 3 => v = .slice A m cap
  | 4 => v = Value.string ⟨l0.toArray⟩
  | 5 => v = .bool true
  | 6 => v = .bool true
  | 7 => v = .pointer (some ⟨p2, 0, none⟩)
  | 8 => BytesV l0 w v
  | 9 => v = Value.string ⟨l0.toArray⟩
  | 10 => v = .slice A m cap
  | 11 => v = Value.string ⟨l0.toArray⟩
  | 12 => v = .bool true
  | 13 => v = .bool true
  | 14 => v = .bool true
  | 15 => v = .pointer (some ⟨p2, 0, none⟩)
  | 16 => v = .int .i64 (m : Int)
  | 17 => v = .slice A m cap
  | 18 => v = .int .i64 (m : Int)
  | 19 => v = .bool true
  | 20 => v = .bool true
  | 21 => v = .bool true
  | 22 => v = .bool true
  | 23 => v = .bool true
  | _ => v = .bool true
theorem ShG.mono {p1 p2 m cap : Nat} {A : Option Addr} {l0 : List UInt8} {i : Nat} {v : Value} {w w' : World} (hb : Below w.heap.size w w') (h : ShG p1 p2 m cap A l0 i w v) : ShG p1 p2 m cap A l0 i w' v := by
  unfold ShG at *
  split at h <;> first | exact h | exact BytesV.mono hb h

def ShortsRel (w : World) (p1 p2 : Nat) (g2 : Option Nat) (l : List Nat) (o i : Value) (wr : World) : Prop :=
  ∃ k g A m cap, k ≤ l.length ∧ i = .int .i64 (k : Nat) ∧ o = .slice A m cap ∧ Hid ((shortsL (l.take k)).length = m) ∧ Hid (WS w.heap.size w wr p1 g (shortsL (l.take k))) ∧ Hid (WS w.heap.size w wr p2 g2 (shortsL l)) ∧
    Hid (BS w.heap.size w wr A m cap (shortsL (l.take k))) ∧ Hid (Ap (blockOf A) g ∧ Ap (blockOf A) g2 ∧ Ap g g2)
set_option maxRecDepth 100000 in
set_option maxHeartbeats 3200000 in
theorem shorts_walk (A0 : Option Addr) (l : List Nat) (c0 : Nat) (w : World) (h1 : Nums w w.heap.size A0 l) (hl : AllU64 l) :
    Calls Try.prog 4 #[.slice A0 l.length c0] w fun e w' => e = .returned (.bool true) ∧ Hid (Below w.heap.size w w') := by
  have H1 := Lib.hid h1
  have HL := Lib.hid hl
  clear h1 hl
  generalize hn1 : l.length = n1 at *
  have HN1 := Lib.hid hn1
  clear hn1
  go_enter Try.func4, Try.ntmps4
  by_cases hb1 : 2000 < n1
  · have hb1' : (2000 : Int) < (n1 : Int) := by omega
    go_wp2_with fail
    refine (awake_any w).mono ?_
    rintro e W1 ⟨rfl, hb⟩
    go_wp2
    go_ret
    exact ⟨rfl, hb⟩
  · have hb1' : ¬ (2000 : Int) < (n1 : Int) := by omega
    have LR : Hid ((shortsL l).length ≤ 35184372088832) := Lib.hid (by have := shortsL_le l HL.out; rw [HN1.out] at this; omega)
    go_wp2_with fail
    refine (new_at (Below.refl w.heap.size w) (Nat.le_refl _)).mono ?_
    rintro e W1 ⟨p1, rfl, o1, b1, z1⟩
    have o1a := Lib.hid (o1.out.later ((Below.refl _ _).alloc (Nat.le_refl _) (.cells #[.slice none 0 0] 35)))
    have zz : Hid (WS w.heap.size w (W1.alloc (.cells #[.slice none 0 0] 35)) W1.heap.size none []) := Lib.hid ⟨wr_zero W1, o1a.out.below, o1.out.size, fun _ e => by cases e⟩
    have n12 : Hid (p1 ≠ W1.heap.size) := Lib.hid (by have := o1.out.wr.lt; omega)
    clear o1 b1 z1
    go_wp2_with fail
    generalize W1.heap.size = p2 at *
    refine (put_at zz.out A0 l n1 c0 HN1.out H1.out HL.out (by omega) (by decide)).mono ?_
    rintro e W2 ⟨rfl, g2, o2, e2, f2⟩
    have o1b := Lib.hid (o1a.out.beside zz.out n12.out (fun _ h => by cases h) f2.out)
    clear o1a zz e2 f2
    go_wp2_with fail
    clear hb1'
    go_loopw [5, 6] (fun o i wr => ShortsRel w p1 p2 g2 l o i wr) (fun _ i _ => n1 - (intOf i).toNat)
    case atStart => exact ⟨0, none, none, 0, 0, by omega, rfl, rfl, Lib.hid rfl, o1b, o2, Lib.hid ⟨Own8.nil_, o2.out.below, fun _ h => by cases h⟩, Lib.hid ⟨Ap.none_left, Ap.none_left, Ap.none_left⟩⟩
    case round =>
      obtain ⟨k, g, A, m, cap, hk, rfl, rfl, hm, hO, hZ, hA, hap⟩ := hrel
      rw [HN1.out] at hk
      by_cases hlt : k < n1
      · obtain ⟨b, off, rfl, hbB, hc⟩ := H1.out (by rw [HN1.out]; omega)
        have hcell := (hO.out.below.cell (p := ⟨b, off + k, none⟩) hbB).trans (hc k (by rw [HN1.out]; exact hlt))
        have HS := Lib.hid (shortsL_take l k (by rw [HN1.out]; exact hlt))
        have hxm := Lib.hid (getD_mem_lt HL.out (by rw [HN1.out]; exact hlt))
        have hLk : Hid ((shortsL (l.take k)).length + 10 ≤ 35184372088832) := Lib.hid (by
          have h5 := shortsL_le (l.take k) (fun x hx => HL.out x (List.mem_of_mem_take hx))
          rw [List.length_take, HN1.out] at h5
          omega)
        clear hc
        generalize l.getD k 0 = x at *
        have k0 : (0 : Int) ≤ (k : Int) := by omega
        have k1 : (k : Int) < (n1 : Int) := by omega
        go_wp2_with fail
        refine (uint_at hO.out x hxm.out (by have := hLk.out; omega)).mono ?_
        rintro e V1 ⟨rfl, g1, p1a, p1n, p1o⟩
        have Z1 := Lib.hid (hZ.out.beside hO.out n12.out.symm (fun k e e' => hap.out.2.2 k e' e) p1o.out)
        have A1 := Lib.hid (hA.out.over hO.out hap.out.1 p1o.out)
        have ap1 : Hid (Ap (blockOf A) g1 ∧ Ap (blockOf A) g2 ∧ Ap g1 g2) := Lib.hid ⟨(hap.out.1.symm.new p1n.out hA.out.lt).symm, hap.out.2.1, hap.out.2.2.new p1n.out hZ.out.glt⟩
        have hcell1 := (p1a.out.below.cell (p := ⟨b, off + k, none⟩) hbB).trans ((hO.out.below.cell (p := ⟨b, off + k, none⟩) hbB).symm.trans hcell)
        clear hcell hO hZ hA hap p1n p1o
        go_wp2_with fail
        refine (refShort_any x V1 hxm.out).mono ?_
        rintro e V2 ⟨A2, c2, rfl, ho2, hb2⟩
        have p2a := Lib.hid (p1a.out.later hb2.out)
        have Z2 := Lib.hid (Z1.out.later hb2.out)
        have A2b := Lib.hid (A1.out.later p1a.out.size hb2.out)
        have hlm := Lib.hid (show m + (shortL x).length ≤ 140737488355328 by
          have h1 := hm.out; have h2 := hLk.out; have h3 := shortL_ten hxm.out; omega)
        have hba := Lib.hid ho2.out.bytes
        have hnc := Lib.hid ho2.out.none_cap
        clear p1a Z1 A1 hb2 ho2 hcell1
        go_wp2_with (at_builtin; refine wpList_append8 rfl (.tmp 29) (.tmp 34) rfl A m cap (shortsL (l.take k)) rfl A2b.out.own A2 (shortL x).length c2 _ (shortL x) rfl rfl hnc.out hba.out hlm.out ?_)
        intro A3 cap3 V3 h3 h4 h5
        have A3b := Lib.hid (A2b.out.grown p2a.out.size h3.out h4.out h5.out)
        have p3a := Lib.hid (p2a.out.over A2b.out ap1.out.1 h4.out)
        have Z3 := Lib.hid (Z2.out.over A2b.out ap1.out.2.1 h4.out)
        have ap3 : Hid (Ap (blockOf A3) g1 ∧ Ap (blockOf A3) g2 ∧ Ap g1 g2) := Lib.hid ⟨ap1.out.1.new h5.out p2a.out.glt, ap1.out.2.1.new h5.out Z2.out.glt, ap1.out.2.2⟩
        have hm3 := Lib.hid (show (shortsL (l.take (k + 1))).length = m + (shortL x).length by rw [HS.out, List.length_append, hm.out])
        rw [← HS.out] at A3b p3a
        clear h3 h4 h5 p2a Z2 A2b ap1 hba hnc
        go_wp2
        go_roundw
        case rel => exact ⟨k + 1, g1, A3, m + (shortL x).length, cap3, by rw [HN1.out]; omega, by go_num, rfl, hm3, p3a, Z3, A3b, ap3⟩
        case measure => simp [intOf]; omega
      · obtain rfl : k = n1 := by omega
        have HTK := Lib.hid (show l.take k = l from List.take_of_length_le (by rw [HN1.out]; exact Nat.le_refl _))
        rw [HTK.out] at hm hO hA
        have hO1 := hO
        have LN := hm
        have hk1 : ¬ (k : Int) < (k : Int) := by omega
        clear hO hm hap HTK H1 HL
        generalize shortsL l = l0 at *
        go_wp2_with fail
        refine region_steps (n := 60) (ShG p1 p2 m cap A l0) (by kernel_rfl) (by kernel_rfl) rfl (fun _ _ _ _ hb h => ShG.mono hb h) ?_ ?_
        · refine And.intro ?_ (And.intro ?_ (And.intro ?_ (And.intro ?_ (And.intro ?_ (And.intro ?_ (And.intro ?_ (And.intro ?_ (And.intro ?_ (And.intro ?_ (And.intro ?_ (And.intro ?_ (And.intro ?_ (And.intro ?_ (And.intro ?_ (And.intro ?_ (And.intro ?_ (And.intro ?_ (And.intro ?_ (And.intro ?_ (And.intro ?_ (And.intro ?_ (And.intro ?_ (And.intro ?_ (And.intro ?_ (True.intro)))))))))))))))))))))))))
          · intro listed a' w' hw hd K hK
            refine step_free rfl ?_
            apply wp_move
            exact hK _ _ (Below.refl _ _) (fun s hs => by cases hs; exact hw.kept 3 (by kernel_rfl))
          · intro listed a' w' hw hd K hK
            have hv36 : a'.tmps.getD 36 undef = .pointer (some ⟨p1, 0, none⟩) := (hw.at_ 0 36 rfl (hd ⟨0, .data⟩ (by simp) rfl))
            refine step_free rfl ?_
            have hO := Lib.hid (hO1.out.later (below_drew_left hw.below))
            unfold Oper.wp
            simp only [execOp]
            go_simp
            refine (bytes_at hO.out LR.out).mono ?_
            rintro e w2 ⟨A2, c2, rfl, ho2, hb2⟩
            exact hK _ _ hb2.out (fun s hs => by cases hs; exact ⟨A2, c2, rfl, ho2.out.bytes⟩)
          · intro listed a' w' hw hd K hK
            have hv37 : BytesV l0 w' (a'.tmps.getD 37 undef) := (hw.at_ 1 37 rfl (hd ⟨1, .data⟩ (by simp) rfl))
            refine step_free rfl ?_
            obtain ⟨A2, c2, hv, hb2⟩ := hv37
            have C := conv_str c2 hb2 rfl
            unfold Oper.wp
            simp only [execOp]
            go_simp
            exact hK _ _ (Below.refl _ _) (fun s hs => by cases hs; rfl)
          · intro listed a' w' hw hd K hK
            refine step_free rfl ?_
            apply wp_move
            exact hK _ _ (Below.refl _ _) (fun s hs => by cases hs; exact hw.kept 5 (by kernel_rfl))
          · intro listed a' w' hw hd K hK
            have hv39 : a'.tmps.getD 39 undef = .slice A m cap := (hw.at_ 3 39 rfl (hd ⟨3, .data⟩ (by simp) rfl))
            have C := conv_str (w := w') cap ((hA.out.later hZ.out.size (below_drew_left hw.below)).own.bytes) LN.out
            refine step_free rfl ?_
            unfold Oper.wp
            simp only [execOp]
            go_simp
            exact hK _ _ (Below.refl _ _) (fun s hs => by cases hs; rfl)
          · intro listed a' w' hw hd K hK
            have hv38 : a'.tmps.getD 38 undef = Value.string ⟨l0.toArray⟩ := (hw.at_ 2 38 rfl (hd ⟨2, .data⟩ (by simp) rfl))
            have hv40 : a'.tmps.getD 40 undef = Value.string ⟨l0.toArray⟩ := (hw.at_ 4 40 rfl (hd ⟨4, .data⟩ (by simp) rfl))
            refine step_free rfl ?_
            unfold Oper.wp
            simp only [execOp]
            go_simp
            exact hK _ _ (Below.refl _ _) (fun s hs => by cases hs; rfl)
          · intro listed a' w' hw hd K hK
            refine step_free rfl ?_
            apply wp_move
            exact hK _ _ (Below.refl _ _) (fun s hs => by cases hs; exact (hw.at_ 5 41 rfl (hd ⟨5, .data⟩ (by simp) rfl)))
          · intro listed a' w' hw hd K hK
            have hgd : a'.tmps.getD 42 undef = .bool true := (hw.at_ 6 42 rfl (hd ⟨6, .guard⟩ (by simp) rfl))
            refine step_guarded (j := 6) (b := true) (s := 42) rfl rfl (by rw [hw.size]; exact Nat.lt_of_lt_of_eq (show 42 < 60 by omega) rfl) hgd ?_
            apply wp_move
            exact hK _ _ (Below.refl _ _) (fun s hs => by cases hs; exact hw.kept 4 (by kernel_rfl))
          · intro listed a' w' hw hd K hK
            have hgd : a'.tmps.getD 42 undef = .bool true := (hw.at_ 6 42 rfl (hd ⟨6, .guard⟩ (by simp) rfl))
            have hv43 : a'.tmps.getD 43 undef = .pointer (some ⟨p2, 0, none⟩) := (hw.at_ 7 43 rfl (hd ⟨7, .data⟩ (by simp) rfl))
            refine step_guarded (j := 6) (b := true) (s := 42) rfl rfl (by rw [hw.size]; exact Nat.lt_of_lt_of_eq (show 42 < 60 by omega) rfl) hgd ?_
            have hO := Lib.hid (hZ.out.later (below_drew_left hw.below))
            unfold Oper.wp
            simp only [execOp]
            go_simp
            refine (bytes_at hO.out LR.out).mono ?_
            rintro e w2 ⟨A2, c2, rfl, ho2, hb2⟩
            exact hK _ _ hb2.out (fun s hs => by cases hs; exact ⟨A2, c2, rfl, ho2.out.bytes⟩)
          · intro listed a' w' hw hd K hK
            have hgd : a'.tmps.getD 42 undef = .bool true := (hw.at_ 6 42 rfl (hd ⟨6, .guard⟩ (by simp) rfl))
            have hv44 : BytesV l0 w' (a'.tmps.getD 44 undef) := (hw.at_ 8 44 rfl (hd ⟨8, .data⟩ (by simp) rfl))
            refine step_guarded (j := 6) (b := true) (s := 42) rfl rfl (by rw [hw.size]; exact Nat.lt_of_lt_of_eq (show 42 < 60 by omega) rfl) hgd ?_
            obtain ⟨A2, c2, hv, hb2⟩ := hv44
            have C := conv_str c2 hb2 rfl
            unfold Oper.wp
            simp only [execOp]
            go_simp
            exact hK _ _ (Below.refl _ _) (fun s hs => by cases hs; rfl)
          · intro listed a' w' hw hd K hK
            have hgd : a'.tmps.getD 42 undef = .bool true := (hw.at_ 6 42 rfl (hd ⟨6, .guard⟩ (by simp) rfl))
            refine step_guarded (j := 6) (b := true) (s := 42) rfl rfl (by rw [hw.size]; exact Nat.lt_of_lt_of_eq (show 42 < 60 by omega) rfl) hgd ?_
            apply wp_move
            exact hK _ _ (Below.refl _ _) (fun s hs => by cases hs; exact hw.kept 5 (by kernel_rfl))
          · intro listed a' w' hw hd K hK
            have hgd : a'.tmps.getD 42 undef = .bool true := (hw.at_ 6 42 rfl (hd ⟨6, .guard⟩ (by simp) rfl))
            have hv46 : a'.tmps.getD 46 undef = .slice A m cap := (hw.at_ 10 46 rfl (hd ⟨10, .data⟩ (by simp) rfl))
            have C := conv_str (w := w') cap ((hA.out.later hZ.out.size (below_drew_left hw.below)).own.bytes) LN.out
            refine step_guarded (j := 6) (b := true) (s := 42) rfl rfl (by rw [hw.size]; exact Nat.lt_of_lt_of_eq (show 42 < 60 by omega) rfl) hgd ?_
            unfold Oper.wp
            simp only [execOp]
            go_simp
            exact hK _ _ (Below.refl _ _) (fun s hs => by cases hs; rfl)
          · intro listed a' w' hw hd K hK
            have hgd : a'.tmps.getD 42 undef = .bool true := (hw.at_ 6 42 rfl (hd ⟨6, .guard⟩ (by simp) rfl))
            have hv45 : a'.tmps.getD 45 undef = Value.string ⟨l0.toArray⟩ := (hw.at_ 9 45 rfl (hd ⟨9, .data⟩ (by simp) rfl))
            have hv47 : a'.tmps.getD 47 undef = Value.string ⟨l0.toArray⟩ := (hw.at_ 11 47 rfl (hd ⟨11, .data⟩ (by simp) rfl))
            refine step_guarded (j := 6) (b := true) (s := 42) rfl rfl (by rw [hw.size]; exact Nat.lt_of_lt_of_eq (show 42 < 60 by omega) rfl) hgd ?_
            unfold Oper.wp
            simp only [execOp]
            go_simp
            exact hK _ _ (Below.refl _ _) (fun s hs => by cases hs; rfl)
          · intro listed a' w' hw hd K hK
            have hv42 : a'.tmps.getD 42 undef = .bool true := (hw.at_ 6 42 rfl (hd ⟨6, .data⟩ (by simp) rfl))
            have hv48 : a'.tmps.getD 48 undef = .bool true := (hw.at_ 12 48 rfl (hd ⟨12, .data⟩ (by simp) rfl))
            refine step_free rfl ?_
            unfold Oper.wp
            simp only [execOp]
            go_simp
            exact hK _ _ (Below.refl _ _) (fun s hs => by cases hs; rfl)
          · intro listed a' w' hw hd K hK
            refine step_free rfl ?_
            apply wp_move
            exact hK _ _ (Below.refl _ _) (fun s hs => by cases hs; exact (hw.at_ 13 49 rfl (hd ⟨13, .data⟩ (by simp) rfl)))
          · intro listed a' w' hw hd K hK
            have hgd : a'.tmps.getD 50 undef = .bool true := (hw.at_ 14 50 rfl (hd ⟨14, .guard⟩ (by simp) rfl))
            refine step_guarded (j := 14) (b := true) (s := 50) rfl rfl (by rw [hw.size]; exact Nat.lt_of_lt_of_eq (show 50 < 60 by omega) rfl) hgd ?_
            apply wp_move
            exact hK _ _ (Below.refl _ _) (fun s hs => by cases hs; exact hw.kept 4 (by kernel_rfl))
          · intro listed a' w' hw hd K hK
            have hgd : a'.tmps.getD 50 undef = .bool true := (hw.at_ 14 50 rfl (hd ⟨14, .guard⟩ (by simp) rfl))
            have hv51 : a'.tmps.getD 51 undef = .pointer (some ⟨p2, 0, none⟩) := (hw.at_ 15 51 rfl (hd ⟨15, .data⟩ (by simp) rfl))
            refine step_guarded (j := 14) (b := true) (s := 50) rfl rfl (by rw [hw.size]; exact Nat.lt_of_lt_of_eq (show 50 < 60 by omega) rfl) hgd ?_
            have hO := Lib.hid (hZ.out.later (below_drew_left hw.below))
            unfold Oper.wp
            simp only [execOp]
            go_simp
            refine (len_at hO.out m LN.out).mono ?_
            rintro e w2 ⟨rfl, rfl⟩
            exact hK _ _ (Below.refl _ _) (fun s hs => by cases hs; rfl)
          · intro listed a' w' hw hd K hK
            have hgd : a'.tmps.getD 50 undef = .bool true := (hw.at_ 14 50 rfl (hd ⟨14, .guard⟩ (by simp) rfl))
            refine step_guarded (j := 14) (b := true) (s := 50) rfl rfl (by rw [hw.size]; exact Nat.lt_of_lt_of_eq (show 50 < 60 by omega) rfl) hgd ?_
            apply wp_move
            exact hK _ _ (Below.refl _ _) (fun s hs => by cases hs; exact hw.kept 5 (by kernel_rfl))
          · intro listed a' w' hw hd K hK
            have hgd : a'.tmps.getD 50 undef = .bool true := (hw.at_ 14 50 rfl (hd ⟨14, .guard⟩ (by simp) rfl))
            have hv53 : a'.tmps.getD 53 undef = .slice A m cap := (hw.at_ 17 53 rfl (hd ⟨17, .data⟩ (by simp) rfl))
            refine step_guarded (j := 14) (b := true) (s := 50) rfl rfl (by rw [hw.size]; exact Nat.lt_of_lt_of_eq (show 50 < 60 by omega) rfl) hgd ?_
            unfold Oper.wp
            simp only [execOp]
            go_simp
            exact hK _ _ (Below.refl _ _) (fun s hs => by cases hs; rfl)
          · intro listed a' w' hw hd K hK
            have hgd : a'.tmps.getD 50 undef = .bool true := (hw.at_ 14 50 rfl (hd ⟨14, .guard⟩ (by simp) rfl))
            have hv52 : a'.tmps.getD 52 undef = .int .i64 (m : Int) := (hw.at_ 16 52 rfl (hd ⟨16, .data⟩ (by simp) rfl))
            have hv54 : a'.tmps.getD 54 undef = .int .i64 (m : Int) := (hw.at_ 18 54 rfl (hd ⟨18, .data⟩ (by simp) rfl))
            refine step_guarded (j := 14) (b := true) (s := 50) rfl rfl (by rw [hw.size]; exact Nat.lt_of_lt_of_eq (show 50 < 60 by omega) rfl) hgd ?_
            unfold Oper.wp
            simp only [execOp]
            go_simp
            exact hK _ _ (Below.refl _ _) (fun s hs => by cases hs; rfl)
          · intro listed a' w' hw hd K hK
            have hv50 : a'.tmps.getD 50 undef = .bool true := (hw.at_ 14 50 rfl (hd ⟨14, .data⟩ (by simp) rfl))
            have hv55 : a'.tmps.getD 55 undef = .bool true := (hw.at_ 19 55 rfl (hd ⟨19, .data⟩ (by simp) rfl))
            refine step_free rfl ?_
            unfold Oper.wp
            simp only [execOp]
            go_simp
            exact hK _ _ (Below.refl _ _) (fun s hs => by cases hs; rfl)
          · intro listed a' w' hw hd K hK
            refine step_free rfl ?_
            apply wp_move
            exact hK _ _ (Below.refl _ _) (fun s hs => by cases hs; exact (hw.at_ 20 56 rfl (hd ⟨20, .data⟩ (by simp) rfl)))
          · intro listed a' w' hw hd K hK
            have hgd : a'.tmps.getD 57 undef = .bool true := (hw.at_ 21 57 rfl (hd ⟨21, .guard⟩ (by simp) rfl))
            refine step_guarded (j := 21) (b := true) (s := 57) rfl rfl (by rw [hw.size]; exact Nat.lt_of_lt_of_eq (show 57 < 60 by omega) rfl) hgd ?_
            unfold Oper.wp
            simp only [execOp]
            go_simp
            refine (awake_any w').mono ?_
            rintro e w2 ⟨rfl, hb2⟩
            exact hK _ _ hb2.out (fun s hs => by cases hs; rfl)
          · intro listed a' w' hw hd K hK
            have hv57 : a'.tmps.getD 57 undef = .bool true := (hw.at_ 21 57 rfl (hd ⟨21, .data⟩ (by simp) rfl))
            have hv58 : a'.tmps.getD 58 undef = .bool true := (hw.at_ 22 58 rfl (hd ⟨22, .data⟩ (by simp) rfl))
            refine step_free rfl ?_
            unfold Oper.wp
            simp only [execOp]
            go_simp
            exact hK _ _ (Below.refl _ _) (fun s hs => by cases hs; rfl)
          · intro listed a' w' hw hd K hK
            refine step_free rfl ?_
            apply wp_assign
            exact hK _ _ (Below.refl _ _) (fun s hs => by cases hs; exact (hw.at_ 23 59 rfl (hd ⟨23, .data⟩ (by simp) rfl)))
        · intro listed a' w' hw hall
          have h2 : a'.tmps.getD 2 undef = .bool true := hw.at_ 24 2 rfl (hall 24 (Nat.lt_of_lt_of_eq (show 24 < 25 by omega) rfl))
          have hdf : a'.defers = [] := hw.defers
          have hbF : Hid (Below w.heap.size w w') := Lib.hid (hO1.out.below.trans ((below_drew_left hw.below).mono hO1.out.size))
          clear hw hall
          go_wp2
          have hr := results_tmp (fn := Try.f4) (t := 2) rfl a'.tmps Try.prog w'
          rw [h2] at hr
          exact bodyPost_ret hr hdf ⟨rfl, hbF⟩
end Go.Proofs.Ytcfdmimfpllckaa
