/-
  What bytes say as a frame, by frame's Decode. Conditions: the sum's table stands as it was laid; at most 1,048,576 bytes.
-/
import Derived.Test.YtelbhlkojpnmgaaDoorFread1
import Derived.Test.YtelbhlkojpnmgaaDoorFmayc
import Derived.Test.YtelbhlkojpnmgaaDoorSopen
namespace Go.Proofs.YtelbhlkojpnmgaaDoor
set_option maxRecDepth 20000
open Go.RowKit

/-- What Decode answers. -/
def DecE (w : World) (l : List UInt8) (e : Ending) (w' : World) : Prop :=
  ∃ A cap, e = .returned (.tuple #[frV ((readF l).getD noF) A ((readF l).getD noF).body.length cap, .int .i64 (if (readF l).isSome then 0 else 3)]) ∧ Hid (Wbl w' w.heap.size A cap ((readF l).getD noF).body) ∧ Hid (Below w.heap.size w w')
theorem decE_none {w w' : World} {l : List UInt8} (h : readF l = none) (hb : Hid (Below w.heap.size w w')) : DecE w l (.returned (.tuple #[.agg #[.int .i64 0, .int .i64 0, .int .i64 0, .int .u64 0, .int .u64 0, .int .u64 0, .int .u64 0, .int .u64 0, .int .u64 0, .slice none 0 0], .int .i64 3])) w' := by
  refine ⟨none, 0, by rw [h]; rfl, Lib.hid ?_, hb⟩
  rw [h]
  exact Wbl.nil_
theorem open_n (A : Option Addr) (l : List UInt8) (n cap : Nat) (w : World) (hn : l.length = n) (ht : Tab w) (hb : Bytes w w.heap.size A l) (hc : n ≤ cap) (hl : n ≤ 1048576) :
    Calls Tryd.prog 34 #[.slice A n cap] w fun e w' => Hid (Below w.heap.size w w') ∧ ((Crc.sealed l = false ∧ e = .returned (.tuple #[.slice none 0 0, .bool false])) ∨
      (Crc.sealed l = true ∧ ∃ g, e = .returned (.tuple #[.slice (some ⟨g, 0, none⟩) (n - 4) (n - 4), .bool true]) ∧ w.heap.size ≤ g ∧ Hid (Blk8 w' g (openF l)))) := by
  subst hn
  have H : Calls Tryd.prog 34 #[.slice A l.length cap] w (OpenEnds w l) := by
    rcases Nat.lt_or_ge l.length 4 with h | h
    · exact open_short A l cap w h
    · exact open_long A l cap w ht hb h hc (by omega)
  refine H.mono ?_
  rintro e w' ⟨h1, h2⟩
  refine ⟨Lib.hid h1, ?_⟩
  rcases h2 with h | ⟨h, g, e, hg, hk⟩
  · exact .inl h
  · exact .inr ⟨h, g, e, hg, Lib.hid hk⟩
set_option maxHeartbeats 8000000 in
theorem dec_any (A : Option Addr) (l : List UInt8) (n cap : Nat) (w : World) (ht : Tab w) (hn : l.length = n) (hb : Bytes w w.heap.size A l) (hc : n ≤ cap) (hl : n ≤ 1048576) :
    Calls Tryd.prog 17 #[.slice A n cap] w (DecE w l) := by
  have HN := Lib.hid hn
  have HT := Lib.hid ht
  have HTP := ht.pos
  have Z := Lib.hid (zrow_new w)
  have B1 := Lib.hid (fbelow_box w (.cells #[.int .i64 0, .int .i64 0, .int .i64 0, .int .u64 0, .int .u64 0, .int .u64 0, .int .u64 0, .int .u64 0, .int .u64 0, .slice none 0 0] 25))
  have HB := Lib.hid hb
  clear hn hb ht
  go_enter Tryd.func17, Tryd.ntmps17
  go_wp2_with fail
  generalize w.alloc (.cells #[.int .i64 0, .int .i64 0, .int .i64 0, .int .u64 0, .int .u64 0, .int .u64 0, .int .u64 0, .int .u64 0, .int .u64 0, .slice none 0 0] 25) = W1 at *
  have HB1 := Lib.hid (HB.out.below B1.out)
  refine (open_n A l n cap W1 HN.out (HT.out.below HTP B1.out) (HB1.out.more B1.out.size) hc hl).mono ?_
  rintro e W2 ⟨hB2, h⟩
  have Z2 := Lib.hid (Z.out.below hB2.out)
  have B2 := Lib.hid (fbtr B1.out hB2.out)
  have hz2 : w.heap.size < W1.heap.size := lt_of_heap Z.out
  have hz12 := hB2.out.size
  clear Z B1 hB2 HB1 HB
  rcases h with ⟨hs, rfl⟩ | ⟨hs, g, rfl, hg, hbk⟩
  · have HR := Lib.hid (readF_unsealed hs)
    clear hs
    obtain ⟨y0, y1, y2, y3, y4, y5, y6, y7, y8, y9⟩ := Z2.out.box
    have g0 := Z2.out.thaw 0
    have g1 := Z2.out.thaw 1
    have g2 := Z2.out.thaw 2
    have g3 := Z2.out.thaw 3
    have g4 := Z2.out.thaw 4
    have g5 := Z2.out.thaw 5
    have g6 := Z2.out.thaw 6
    have g7 := Z2.out.thaw 7
    have g8 := Z2.out.thaw 8
    have g9 := Z2.out.thaw 9
    have R1 := Lib.hid (Z2.out.set 0 0 0 0 0 0 0 0 0 none 0 0)
    have R2 := Lib.hid ((only_ten W2 w.heap.size (.int .i64 0) (.int .i64 0) (.int .i64 0) (.int .u64 0) (.int .u64 0) (.int .u64 0) (.int .u64 0) (.int .u64 0) (.int .u64 0) (.slice none 0 0)).below B2.out (fun j hj => by omega) B2.out.size)
    go_wp2
    refine bodyPost_ret (results_row_tmp rfl _ _ w.heap.size 25 #[.int .i64 0, .int .i64 0, .int .i64 0, .int .u64 0, .int .u64 0, .int .u64 0, .int .u64 0, .int .u64 0, .int .u64 0, .slice none 0 0] (0, 0) _ rfl R1.out Tryd.underlying25 rfl (by kernel_rfl)) rfl ?_
    exact decE_none HR.out R2
  · have hlo : (openF l).length = n - 4 := by unfold openF; rw [List.length_take, HN.out]; omega
    have HSL := Lib.hid hs
    clear hs
    have hby : Bytes W2 W2.heap.size (some ⟨g, 0, none⟩) (openF l) := hbk.out.all.more hbk.out.lt
    have HLO := Lib.hid hlo
    have HBY := Lib.hid hby
    clear hlo hby hbk
    go_wp2_with fail
    refine (newr_any (some ⟨g, 0, none⟩) (openF l) (n - 4) (n - 4) W2.heap.size W2 HLO.out (fun h => by cases h) HBY.out (Nat.le_refl _) (by omega)).mono ?_
    rintro e W3 ⟨qq, dd, rfl, h1, h2, h3⟩
    have Z3 := Lib.hid (Z2.out.below h3.out)
    have B3 := Lib.hid (fbtr B2.out h3.out)
    have hq := h2.out.1
    have hz23 := h3.out.size
    clear Z2 B2 h2 h3 HBY
    go_wp2_with fail
    refine (read_any qq dd (openF l) W3 h1.out (by rw [HLO.out]; omega)).mono ?_
    rintro e W4 ⟨A4, c4, rfl, hw4, hr4, ho4⟩
    have Z4 := Lib.hid (Z3.out.only ho4.out (by omega))
    have B4 := Lib.hid (ho4.out.below B3.out (fun j hj => by omega) B3.out.size)
    have hz34 := ho4.out.size
    have hq3 := h1.out.lt
    clear Z3 B3 ho4 h1
    have HGOOD := Lib.hid (show goodF l ↔ (rEnd (gb (openF l)).2).bad = false ∧ mayF (getF (openF l)) from ⟨fun h => h.2, fun h => ⟨HSL.out, h⟩⟩)
    have HRD := Lib.hid (fun h : goodF l => readF_good h)
    have HGB : (getF (openF l)).body = (gb (openF l)).1 := rfl
    rw [← HGB] at hw4 ⊢
    clear HGB
    generalize getF (openF l) = f at *
    generalize (gb (openF l)).2 = z at *
    obtain ⟨k, s, t, i, c, p, q, a, e, l4⟩ := f
    simp only [frV, frC]
    simp only at hw4
    generalize hn4 : l4.length = n4
    have HN4 := Lib.hid hn4
    clear hn4
    go_wp2_with fail
    have F5 := Lib.hid (frow_new (k := k) (s := s) (t := t) (i := (i : Int)) (c := (c : Int)) (p := (p : Int)) (q := (q : Int)) (a := (a : Int)) (e := (e : Int)) (A := A4) (n := n4) (cap := c4) (ty := 25) W4)
    have o5 : Only (fun _ => False) W4 (W4.alloc (.cells #[.int .i64 k, .int .i64 s, .int .i64 t, .int .u64 (i : Int), .int .u64 (c : Int), .int .u64 (p : Int), .int .u64 (q : Int), .int .u64 (a : Int), .int .u64 (e : Int), .slice A4 n4 c4] 25)) := (Only.refl (fun _ => False) W4).alloc _
    have Z5 := Lib.hid (Z4.out.only o5 (fun h => h))
    have hr5 := Lib.hid (hr4.out.keep o5 (fun h => h) (fun _ _ h => h))
    have hw5 := Lib.hid (hw4.out.keep o5 (fun _ _ h => h))
    have B5 := Lib.hid (o5.below B4.out (fun j hj => hj.elim) B4.out.size)
    have hq4 := hr4.out.lt
    have hwq : Hid (blockOf A4 ≠ some qq) := Lib.hid (fun e => by have := hw4.out.lt e; omega)
    clear Z4 hr4 hw4 B4 o5
    generalize W4.alloc (.cells #[.int .i64 k, .int .i64 s, .int .i64 t, .int .u64 (i : Int), .int .u64 (c : Int), .int .u64 (p : Int), .int .u64 (q : Int), .int .u64 (a : Int), .int .u64 (e : Int), .slice A4 n4 c4] 25) = W5 at *
    generalize W4.heap.size = fb at *
    refine (end_any qq dd z W5 hr5.out).mono ?_
    rintro en W6 ⟨rfl, h5, h6⟩
    have F6 := Lib.hid (F5.out.only h6.out (by omega))
    have Z6 := Lib.hid (Z5.out.only h6.out (by omega))
    have hw6 := Lib.hid (hw5.out.keep h6.out (fun k hk e => hwq.out (by rw [hk, e])))
    have B6 := Lib.hid (h6.out.below B5.out (fun j hj => by omega) B5.out.size)
    clear F5 Z5 hw5 hr5 B5 h5 h6
    cases hbad : (rEnd z).bad with
    | true =>
      have HR := Lib.hid (readF_bad (b := l) (fun h => by have := (HGOOD.out.1 h).1; rw [hbad] at this; cases this))
      clear hbad HGOOD HRD
      simp only [errOf, if_true]
      obtain ⟨y0, y1, y2, y3, y4, y5, y6, y7, y8, y9⟩ := Z6.out.box
      have g0 := Z6.out.thaw 0
      have g1 := Z6.out.thaw 1
      have g2 := Z6.out.thaw 2
      have g3 := Z6.out.thaw 3
      have g4 := Z6.out.thaw 4
      have g5 := Z6.out.thaw 5
      have g6 := Z6.out.thaw 6
      have g7 := Z6.out.thaw 7
      have g8 := Z6.out.thaw 8
      have g9 := Z6.out.thaw 9
      have R1 := Lib.hid (Z6.out.set 0 0 0 0 0 0 0 0 0 none 0 0)
      have R2 := Lib.hid ((only_ten W6 w.heap.size (.int .i64 0) (.int .i64 0) (.int .i64 0) (.int .u64 0) (.int .u64 0) (.int .u64 0) (.int .u64 0) (.int .u64 0) (.int .u64 0) (.slice none 0 0)).below B6.out (fun j hj => by omega) B6.out.size)
      go_wp2
      refine bodyPost_ret (results_row_tmp rfl _ _ w.heap.size 25 #[.int .i64 0, .int .i64 0, .int .i64 0, .int .u64 0, .int .u64 0, .int .u64 0, .int .u64 0, .int .u64 0, .int .u64 0, .slice none 0 0] (0, 0) _ rfl R1.out Tryd.underlying25 rfl (by kernel_rfl)) rfl ?_
      exact decE_none HR.out R2
    | false =>
      have HM := Lib.hid (fun W => fmay_any ⟨k, s, t, i, c, p, q, a, e, l4⟩ A4 n4 c4 HN4.out W)
      have HBAD := Lib.hid hbad
      clear hbad
      simp only [errOf, Bool.false_eq_true, if_false]
      obtain ⟨k0, k1, k2, k3, k4, k5, k6, k7, k8, k9⟩ := F6.out.box
      go_wp2_with fail
      refine (HM.out W6).mono ?_
      rintro en W7 ⟨rfl, hb7⟩
      have F7 := Lib.hid (F6.out.below hb7.out)
      have Z7 := Lib.hid (Z6.out.below hb7.out)
      have o7 : Only (fun _ => False) W6 W7 := ⟨hb7.out.os, hb7.out.tape, hb7.out.output, hb7.out.size, fun j hj _ => hb7.out.block j hj⟩
      have hw7 := Lib.hid (hw6.out.keep o7 (fun _ _ h => h))
      have B7 := Lib.hid (fbtr B6.out hb7.out)
      clear F6 Z6 hw6 B6 hb7 o7 k0 k1 k2 k3 k4 k5 k6 k7 k8 k9 HM
      by_cases hm : mayF ⟨k, s, t, i, c, p, q, a, e, l4⟩
      · rw [decide_eq_true hm]
        have HR := Lib.hid (HRD.out (HGOOD.out.2 ⟨HBAD.out, hm⟩))
        clear hm HGOOD HRD
        obtain ⟨k0, k1, k2, k3, k4, k5, k6, k7, k8, k9⟩ := F7.out.box
        obtain ⟨y0, y1, y2, y3, y4, y5, y6, y7, y8, y9⟩ := Z7.out.box
        have g0 := Z7.out.thaw 0
        have g1 := Z7.out.thaw 1
        have g2 := Z7.out.thaw 2
        have g3 := Z7.out.thaw 3
        have g4 := Z7.out.thaw 4
        have g5 := Z7.out.thaw 5
        have g6 := Z7.out.thaw 6
        have g7 := Z7.out.thaw 7
        have g8 := Z7.out.thaw 8
        have g9 := Z7.out.thaw 9
        have hT := only_ten W7 w.heap.size (.int .i64 k) (.int .i64 s) (.int .i64 t) (.int .u64 (i : Int)) (.int .u64 (c : Int)) (.int .u64 (p : Int)) (.int .u64 (q : Int)) (.int .u64 (a : Int)) (.int .u64 (e : Int)) (.slice A4 n4 c4)
        have R1 := Lib.hid (Z7.out.set k s t (i : Int) (c : Int) (p : Int) (q : Int) (a : Int) (e : Int) A4 n4 c4)
        have R2 := Lib.hid (hT.below B7.out (fun j hj => by omega) B7.out.size)
        have R3 := Lib.hid ((hw7.out.lower (B' := w.heap.size) (by omega)).keep hT (fun j hj e => by have := hw7.out.lt hj; omega))
        clear hT F7 Z7 B7
        go_wp2
        refine bodyPost_ret (results_row_tmp rfl _ _ w.heap.size 25 #[.int .i64 k, .int .i64 s, .int .i64 t, .int .u64 (i : Int), .int .u64 (c : Int), .int .u64 (p : Int), .int .u64 (q : Int), .int .u64 (a : Int), .int .u64 (e : Int), .slice A4 n4 c4] (0, 0) _ rfl R1.out Tryd.underlying25 rfl (by kernel_rfl)) rfl ?_
        refine ⟨A4, c4, ?_, ?_, R2⟩
        · rw [HR.out]
          simp only [Option.getD_some, Option.isSome_some, if_true, HN4.out]
          rfl
        · rw [HR.out]
          exact R3
      · rw [decide_eq_false hm]
        have HR := Lib.hid (readF_bad (b := l) (fun h => hm (HGOOD.out.1 h).2))
        clear hm HGOOD HRD
        obtain ⟨y0, y1, y2, y3, y4, y5, y6, y7, y8, y9⟩ := Z7.out.box
        have g0 := Z7.out.thaw 0
        have g1 := Z7.out.thaw 1
        have g2 := Z7.out.thaw 2
        have g3 := Z7.out.thaw 3
        have g4 := Z7.out.thaw 4
        have g5 := Z7.out.thaw 5
        have g6 := Z7.out.thaw 6
        have g7 := Z7.out.thaw 7
        have g8 := Z7.out.thaw 8
        have g9 := Z7.out.thaw 9
        have R1 := Lib.hid (Z7.out.set 0 0 0 0 0 0 0 0 0 none 0 0)
        have R2 := Lib.hid ((only_ten W7 w.heap.size (.int .i64 0) (.int .i64 0) (.int .i64 0) (.int .u64 0) (.int .u64 0) (.int .u64 0) (.int .u64 0) (.int .u64 0) (.int .u64 0) (.slice none 0 0)).below B7.out (fun j hj => by omega) B7.out.size)
        go_wp2
        refine bodyPost_ret (results_row_tmp rfl _ _ w.heap.size 25 #[.int .i64 0, .int .i64 0, .int .i64 0, .int .u64 0, .int .u64 0, .int .u64 0, .int .u64 0, .int .u64 0, .int .u64 0, .slice none 0 0] (0, 0) _ rfl R1.out Tryd.underlying25 rfl (by kernel_rfl)) rfl ?_
        exact decE_none HR.out R2
end Go.Proofs.YtelbhlkojpnmgaaDoor
