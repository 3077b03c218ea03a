/-
  A frame's bytes, by frame's Encode. Condition: the sum's table stands as it was laid.
-/
import Derived.Test.YtelbhlkojpnmgaaDoorFmayc
import Derived.Test.YtelbhlkojpnmgaaDoorSseal
namespace Go.Proofs.YtelbhlkojpnmgaaDoor
set_option maxRecDepth 20000
open Go.RowKit

/-- What Encode answers. -/
def EncE (w : World) (f : Fr) (e : Ending) (w' : World) : Prop :=
  Hid (Below w.heap.size w w') ∧ ((¬ mayF f ∧ e = .returned (.tuple #[.slice none 0 0, .int .i64 3])) ∨
    (mayF f ∧ ∃ g, e = .returned (.tuple #[.slice (some ⟨g, 0, none⟩) (frameL f).length (frameL f).length, .int .i64 0]) ∧ Hid (w.heap.size ≤ g) ∧ Hid (Blk8 w' g (frameL f))))
theorem nums_six (w : World) (i c p q a e : Nat) : Nums (w.alloc (.cells #[.int .u64 (i : Int), .int .u64 (c : Int), .int .u64 (p : Int), .int .u64 (q : Int), .int .u64 (a : Int), .int .u64 (e : Int)] 22)) (w.alloc (.cells #[.int .u64 (i : Int), .int .u64 (c : Int), .int .u64 (p : Int), .int .u64 (q : Int), .int .u64 (a : Int), .int .u64 (e : Int)] 22)).heap.size (some ⟨w.heap.size, 0, none⟩) [i, c, p, q, a, e] := fun _ => by
  refine ⟨_, 0, rfl, by simp, fun k hk => ?_⟩
  rw [cell_of_row _ _ _ _ _ (0, 0) (heap_alloc_new w _)]
  have : k = 0 ∨ k = 1 ∨ k = 2 ∨ k = 3 ∨ k = 4 ∨ k = 5 := by simp at hk; omega
  rcases this with rfl | rfl | rfl | rfl | rfl | rfl <;> rfl
theorem wide_byte (x : UInt8) : wideL x.toNat 1 = [x] := by
  simp [wideL]
/-- A call that turned the Writer alone, or nothing that was there: the frame's cells stand. -/
theorem FBox.ws {b : Nat} {k s t i c p q a e : Int} {A : Option Addr} {n cap : Nat} {w W : World} {y : Nat} {g : Option Nat} {l : List UInt8} (h : FBox b k s t i c p q a e A n cap w) (o : WS w.heap.size w W y g l) : FBox b k s t i c p q a e A n cap W := h.below o.below
theorem bytes_ws {B : Nat} {A : Option Addr} {xs : List UInt8} {w W : World} {y : Nat} {g : Option Nat} {l : List UInt8} (h : Bytes w B A xs) (hB : B ≤ w.heap.size) (o : WS w.heap.size w W y g l) : Bytes W B A xs := h.below (o.below.mono hB)
theorem enc_last (f : Fr) (l : List UInt8) (n : Nat) (A : Option Addr) (cap : Nat) (w : World) (hm : mayF f) (hl : inF f = l) (hn : l.length = n) (ht : Tab w) (hb : Bytes w w.heap.size A l) :
    Calls Tryd.prog 29 #[.slice A n cap] w fun e w' => ∃ g, e = .returned (.slice (some ⟨g, 0, none⟩) (frameL f).length (frameL f).length) ∧ Hid (w.heap.size ≤ g) ∧ Hid (Blk8 w' g (frameL f)) ∧ Hid (Below w.heap.size w w') := by
  have h483 := inF_le hm
  rw [hl] at h483
  refine (seal_n A l n cap w ht hb hn (by omega)).mono ?_
  rintro e w' ⟨g, rfl, hg, hbk, hbe⟩
  have ef : frameL f = Crc.seal_ l := by unfold frameL; rw [hl]
  have el : (frameL f).length = n + 4 := by rw [ef, Crc.seal_length, hn]
  exact ⟨g, by rw [el], Lib.hid hg, by rw [ef]; exact hbk, hbe⟩
set_option maxHeartbeats 8000000 in
theorem enc_int (k s t : Int) (i c p q a e : Nat) (A : Option Addr) (n cap B : Nat) (l : List UInt8) (w : World) (ht : Tab w) (hn : l.length = n) (hb : Bytes w B A l) (hB : B ≤ w.heap.size) :
    Calls Tryd.prog 14 #[.agg #[.int .i64 k, .int .i64 s, .int .i64 t, .int .u64 (i : Int), .int .u64 (c : Int), .int .u64 (p : Int), .int .u64 (q : Int), .int .u64 (a : Int), .int .u64 (e : Int), .slice A n cap]] w
      (EncE w ⟨k, s, t, i, c, p, q, a, e, l⟩) := by
  have HM := Lib.hid (fun W => fmay_any ⟨k, s, t, i, c, p, q, a, e, l⟩ A n cap hn W)
  have HN := Lib.hid hn
  have HBY := Lib.hid hb
  have HT := Lib.hid ht
  have HTP := ht.pos
  have HB := Lib.hid (fbox_new w k s t i c p q a e A n cap 25)
  have BW := Lib.hid (fbelow_box w (.cells #[.int .i64 k, .int .i64 s, .int .i64 t, .int .u64 (i : Int), .int .u64 (c : Int), .int .u64 (p : Int), .int .u64 (q : Int), .int .u64 (a : Int), .int .u64 (e : Int), .slice A n cap] 25))
  clear hn hb ht
  go_enter Tryd.func14, Tryd.ntmps14
  obtain ⟨k0, k1, k2, k3, k4, k5, k6, k7, k8, k9⟩ := HB.out
  go_wp2_with fail
  generalize w.alloc (.cells #[.int .i64 k, .int .i64 s, .int .i64 t, .int .u64 (i : Int), .int .u64 (c : Int), .int .u64 (p : Int), .int .u64 (q : Int), .int .u64 (a : Int), .int .u64 (e : Int), .slice A n cap] 25) = W1 at *
  refine (HM.out W1).mono ?_
  rintro en W2 ⟨rfl, hb2⟩
  have HB2 := Lib.hid (HB.out.below hb2.out)
  have BW2 := Lib.hid (fbtr BW.out hb2.out)
  clear HB BW hb2 k0 k1 k2 k3 k4 k5 k6 k7 k8 k9 HM
  by_cases hm : mayF ⟨k, s, t, i, c, p, q, a, e, l⟩
  · rw [decide_eq_true hm]
    have HMF := Lib.hid hm
    obtain ⟨hs, hd, -, hcs, -, -, -, -⟩ := id hm
    have hk := mayF_kind hm
    have hin := inF_le hm
    unfold nodeF at hs hd
    simp only at hs hd hk
    have e0 : k % 256 = (((byteI k).toNat : Nat) : Int) := by rw [byteI_back (by omega) (by omega)]; omega
    have e1 : s % 256 = (((byteI s).toNat : Nat) : Int) := by rw [byteI_back (by omega) (by omega)]; omega
    have e2 : t % 256 = (((byteI t).toNat : Nat) : Int) := by rw [byteI_back (by omega) (by omega)]; omega
    have HU := Lib.hid (numsF_u64 hcs)
    have HL3 := Lib.hid (shortsL_five _ (numsF_lt hcs))
    have HIN := Lib.hid (show inF ⟨k, s, t, i, c, p, q, a, e, l⟩ = [byteI k] ++ [byteI s] ++ [byteI t] ++ shortsL [i, c, p, q, a, e] ++ tailF ⟨k, s, t, i, c, p, q, a, e, l⟩ from rfl)
    have HLN := Lib.hid (tailF_le hm)
    clear hs hd hm hcs hin hk
    generalize byteI k = x0 at e0 HIN
    generalize byteI s = x1 at e1 HIN
    generalize byteI t = x2 at e2 HIN
    have HT2 := Lib.hid (HT.out.below HTP BW2.out)
    have hz2 := BW2.out.size
    go_wp2_with fail
    refine (wnew_any W2).mono ?_
    rintro en W3 ⟨rfl, hW, hbw, -⟩
    have o3 := Lib.hid (WS.new hW hbw)
    clear hW hbw
    generalize hy : W2.heap.size = y at o3 ⊢
    have HY := Lib.hid hy
    clear hy
    have bx := HB2.out.below (show Below W2.heap.size W2 W3 by rw [HY.out]; exact o3.out.below)
    obtain ⟨k0, k1, k2, k3, k4, k5, k6, k7, k8, k9⟩ := bx
    go_wp2_with fail
    refine (wu8_any y none [] x0.toNat W3 (UInt8.toNat_lt x0) o3.out.wr (by simp)).mono ?_
    rintro en W4 ⟨rfl, h⟩
    obtain ⟨y4, h, _, _⟩ := o3.out.wrote h
    rw [wide_byte, List.nil_append] at h
    have o4 := Lib.hid h
    clear h o3 k0 k1 k2 k3 k4 k5 k6 k7 k8 k9
    have bx := HB2.out.below (show Below W2.heap.size W2 W4 by rw [HY.out]; exact o4.out.below)
    obtain ⟨k0, k1, k2, k3, k4, k5, k6, k7, k8, k9⟩ := bx
    go_wp2_with fail
    refine (wu8_any y y4 [x0] x1.toNat W4 (UInt8.toNat_lt x1) o4.out.wr (by simp)).mono ?_
    rintro en W5 ⟨rfl, h⟩
    obtain ⟨y5, h, _, _⟩ := o4.out.wrote h
    rw [wide_byte] at h
    have o5 := Lib.hid h
    clear h o4 k0 k1 k2 k3 k4 k5 k6 k7 k8 k9
    have bx := HB2.out.below (show Below W2.heap.size W2 W5 by rw [HY.out]; exact o5.out.below)
    obtain ⟨k0, k1, k2, k3, k4, k5, k6, k7, k8, k9⟩ := bx
    go_wp2_with fail
    refine (wu8_any y y5 ([x0] ++ [x1]) x2.toNat W5 (UInt8.toNat_lt x2) o5.out.wr (by simp)).mono ?_
    rintro en W6 ⟨rfl, h⟩
    obtain ⟨y6, h, _, _⟩ := o5.out.wrote h
    rw [wide_byte] at h
    have o6 := Lib.hid h
    clear h o5 k0 k1 k2 k3 k4 k5 k6 k7 k8 k9
    have bx := HB2.out.below (show Below W2.heap.size W2 W6 by rw [HY.out]; exact o6.out.below)
    obtain ⟨k0, k1, k2, k3, k4, k5, k6, k7, k8, k9⟩ := bx
    go_wp2_with fail
    have o7 := Lib.hid (o6.out.later ((Below.refl _ _).alloc (Nat.le_refl _) (.cells #[.int .u64 (i : Int), .int .u64 (c : Int), .int .u64 (p : Int), .int .u64 (q : Int), .int .u64 (a : Int), .int .u64 (e : Int)] 22)))
    refine (wput_any y y6 _ (some ⟨W6.heap.size, 0, none⟩) [i, c, p, q, a, e] 6 _ o7.out.wr (nums_six W6 i c p q a e) ?_ HU.out (by simp) (by simp)).mono ?_
    · intro _ b e
      obtain rfl : W6.heap.size = b := by simpa [blockOf] using e
      exact ⟨by have := o6.out.wr.lt; omega, fun e => by have := o6.out.wr.glt _ e; omega⟩
    rintro en W8 ⟨rfl, h⟩
    obtain ⟨y8, h, _, _⟩ := o7.out.wrote h
    have o8 := Lib.hid h
    clear h o6 o7 k0 k1 k2 k3 k4 k5 k6 k7 k8 k9
    have bx := HB2.out.below (show Below W2.heap.size W2 W8 by rw [HY.out]; exact o8.out.below)
    obtain ⟨k0, k1, k2, k3, k4, k5, k6, k7, k8, k9⟩ := bx
    have HLL := Lib.hid (show ([x0] ++ [x1] ++ [x2] ++ shortsL [i, c, p, q, a, e]).length ≤ 33 from by
      have := HL3.out
      simp only [List.length_append, List.length_singleton]
      simp only [numsF, List.length_cons, List.length_nil] at this
      omega)
    generalize [x0] ++ [x1] ++ [x2] ++ shortsL [i, c, p, q, a, e] = ll at o8 HIN HLL
    by_cases hk2 : k = 2
    · have hkb : (k == 2) = true := by rw [beq_iff_eq]; exact hk2
      have HTL := Lib.hid (show tailF ⟨k, s, t, i, c, p, q, a, e, l⟩ = shortL l.length ++ l from by unfold tailF; rw [if_pos hk2])
      have cs := conv_str cap (HBY.out.below ((BW2.out.trans (show Below w.heap.size W2 W8 from (show Below W2.heap.size W2 W8 by rw [HY.out]; exact o8.out.below).mono (by omega))).mono hB)) HN.out
      have hsz : (⟨l.toArray⟩ : ByteArray).size = n := by rw [← HN.out]; simp [ByteArray.size]
      have HST := Lib.hid (show strL ⟨l.toArray⟩ = l from by simp [strL])
      generalize (⟨l.toArray⟩ : ByteArray) = sx at cs hsz HST
      have hn450 : n ≤ 450 := by
        have h1 := HLN.out
        rw [HTL.out, List.length_append, HN.out] at h1
        omega
      clear hk2
      go_wp2_with fail
      refine (wtext_any y y8 ll sx W8 o8.out.wr (by omega) (by have := HLL.out; omega)).mono ?_
      rintro en W9 ⟨rfl, h⟩
      rw [hsz, HST.out] at h
      obtain ⟨y9, h, _, _⟩ := o8.out.wrote h
      rw [← HN.out, ← HTL.out, ← HIN.out] at h
      have o9 := Lib.hid h
      clear h o8 k0 k1 k2 k3 k4 k5 k6 k7 k8 k9 cs hsz HST
      go_wp2_with fail
      refine (wbytes_any y y9 _ W9 o9.out.wr (by have := inF_le HMF.out; omega)).mono ?_
      rintro en W10 ⟨A10, c10, rfl, ho, hb10⟩
      have BB := Lib.hid (show Below w.heap.size w W10 from BW2.out.trans (((show Below W2.heap.size W2 W9 by rw [HY.out]; exact o9.out.below).mono hz2).trans (hb10.out.mono (Nat.le_trans hz2 (by rw [HY.out]; exact o9.out.size)))))
      have HT10 := Lib.hid (HT.out.below HTP BB.out)
      clear hb10 o9
      go_wp2_with fail
      refine (enc_last _ _ _ A10 c10 W10 HMF.out rfl rfl HT10.out ho.out.bytes).mono ?_
      rintro en W11 ⟨g, rfl, hg, hbk, hbe⟩
      have BB2 := Lib.hid (fbtr BB.out hbe.out)
      have HG := Lib.hid (Nat.le_trans BB.out.size hg.out)
      clear hg hbe ho
      go_wp2
      go_ret2
      exact ⟨BB2, .inr ⟨HMF.out, g, rfl, HG, hbk⟩⟩
    · have hkb : (k == 2) = false := by rw [beq_eq_false_iff_ne]; exact hk2
      have HTL := Lib.hid (show tailF ⟨k, s, t, i, c, p, q, a, e, l⟩ = [] from by unfold tailF; rw [if_neg hk2])
      go_wp2_with fail
      rw [HTL.out, List.append_nil] at HIN
      refine (wbytes_any y y8 _ W8 o8.out.wr (by have := HLL.out; omega)).mono ?_
      rintro en W10 ⟨A10, c10, rfl, ho, hb10⟩
      have BB := Lib.hid (show Below w.heap.size w W10 from BW2.out.trans (((show Below W2.heap.size W2 W8 by rw [HY.out]; exact o8.out.below).mono hz2).trans (hb10.out.mono (Nat.le_trans hz2 (by rw [HY.out]; exact o8.out.size)))))
      have HT10 := Lib.hid (HT.out.below HTP BB.out)
      clear hb10 o8 k0 k1 k2 k3 k4 k5 k6 k7 k8 k9
      go_wp2_with fail
      refine (enc_last _ _ _ A10 c10 W10 HMF.out HIN.out rfl HT10.out ho.out.bytes).mono ?_
      rintro en W11 ⟨g, rfl, hg, hbk, hbe⟩
      have BB2 := Lib.hid (fbtr BB.out hbe.out)
      have HG := Lib.hid (Nat.le_trans BB.out.size hg.out)
      clear hg hbe ho
      go_wp2
      go_ret2
      exact ⟨BB2, .inr ⟨HMF.out, g, rfl, HG, hbk⟩⟩
  · rw [decide_eq_false hm]
    have HMF := Lib.hid hm
    clear hm
    go_wp2
    go_ret2
    exact ⟨BW2, .inl ⟨HMF.out, rfl⟩⟩
theorem enc_any (f : Fr) (A : Option Addr) (n cap B : Nat) (w : World) (ht : Tab w) (hn : f.body.length = n) (hb : Bytes w B A f.body) (hB : B ≤ w.heap.size) :
    Calls Tryd.prog 14 #[frV f A n cap] w (EncE w f) := enc_int _ _ _ _ _ _ _ _ _ A n cap B f.body w ht hn hb hB
end Go.Proofs.YtelbhlkojpnmgaaDoor
