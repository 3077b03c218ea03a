/-
  A frame's bytes, by the document's Bytes. For frames that may be.
-/
import Derived.Test.YtelbhlkojpnmgaaDoorFown
import Derived.Test.YtelbhlkojpnmgaaDoorSrefseal
import Derived.Test.YtelbhlkojpnmgaaDoorReft
namespace Go.Proofs.YtelbhlkojpnmgaaDoor
set_option maxRecDepth 20000
open Go.RowKit

theorem own8_later {w w' : World} {base n cap : Nat} {A : Option Addr} {l : List UInt8} (h : Own8 w base A n cap l) (hb : Below w.heap.size w w') : Own8 w' base A n cap l :=
  h.keep (S := fun _ => False) ⟨hb.os, hb.tape, hb.output, hb.size, fun j hj _ => hb.block j hj⟩ (fun _ _ h => h)
theorem bytes_start (k s t : Int) (i c p q a e : Nat) (A : Option Addr) (n cap : Nat) (x0 x1 x2 : UInt8) (w : World) :
    FRow w.heap.size k s t i c p q a e A n cap 25 ((w.alloc (.cells #[.int .i64 k, .int .i64 s, .int .i64 t, .int .u64 (i : Int), .int .u64 (c : Int), .int .u64 (p : Int), .int .u64 (q : Int), .int .u64 (a : Int), .int .u64 (e : Int), .slice A n cap] 25)).alloc (.cells #[.int .u8 ((x0.toNat : Nat) : Int), .int .u8 ((x1.toNat : Nat) : Int), .int .u8 ((x2.toNat : Nat) : Int)] 5)) ∧ Own8 ((w.alloc (.cells #[.int .i64 k, .int .i64 s, .int .i64 t, .int .u64 (i : Int), .int .u64 (c : Int), .int .u64 (p : Int), .int .u64 (q : Int), .int .u64 (a : Int), .int .u64 (e : Int), .slice A n cap] 25)).alloc (.cells #[.int .u8 ((x0.toNat : Nat) : Int), .int .u8 ((x1.toNat : Nat) : Int), .int .u8 ((x2.toNat : Nat) : Int)] 5)) (w.heap.size + 1) (some ⟨w.heap.size + 1, 0, none⟩) 3 3 [x0, x1, x2] ∧ Below w.heap.size w ((w.alloc (.cells #[.int .i64 k, .int .i64 s, .int .i64 t, .int .u64 (i : Int), .int .u64 (c : Int), .int .u64 (p : Int), .int .u64 (q : Int), .int .u64 (a : Int), .int .u64 (e : Int), .slice A n cap] 25)).alloc (.cells #[.int .u8 ((x0.toNat : Nat) : Int), .int .u8 ((x1.toNat : Nat) : Int), .int .u8 ((x2.toNat : Nat) : Int)] 5)) := by
  have X := frow_new (k := k) (s := s) (t := t) (i := i) (c := c) (p := p) (q := q) (a := a) (e := e) (A := A) (n := n) (cap := cap) (ty := 25) w
  have B1 := fbelow_box w (.cells #[.int .i64 k, .int .i64 s, .int .i64 t, .int .u64 (i : Int), .int .u64 (c : Int), .int .u64 (p : Int), .int .u64 (q : Int), .int .u64 (a : Int), .int .u64 (e : Int), .slice A n cap] 25)
  have hz : (w.alloc (.cells #[.int .i64 k, .int .i64 s, .int .i64 t, .int .u64 (i : Int), .int .u64 (c : Int), .int .u64 (p : Int), .int .u64 (q : Int), .int .u64 (a : Int), .int .u64 (e : Int), .slice A n cap] 25)).heap.size = w.heap.size + 1 := by simp
  generalize w.alloc (.cells #[.int .i64 k, .int .i64 s, .int .i64 t, .int .u64 (i : Int), .int .u64 (c : Int), .int .u64 (p : Int), .int .u64 (q : Int), .int .u64 (a : Int), .int .u64 (e : Int), .slice A n cap] 25) = W1 at *
  have B2 := fbelow_box W1 (.cells #[.int .u8 ((x0.toNat : Nat) : Int), .int .u8 ((x1.toNat : Nat) : Int), .int .u8 ((x2.toNat : Nat) : Int)] 5)
  have hh := heap_alloc_new W1 (.cells #[.int .u8 ((x0.toNat : Nat) : Int), .int .u8 ((x1.toNat : Nat) : Int), .int .u8 ((x2.toNat : Nat) : Int)] 5)
  rw [hz] at hh
  exact ⟨X.below B2, ⟨by simp, .inr ⟨w.heap.size + 1, 3, _, rfl, Nat.le_refl _, hh, by omega, by unfold maxLen; omega, rfl, rfl⟩⟩, fbtr B1 B2⟩
set_option maxHeartbeats 8000000 in
theorem rfbytes_int (k s t : Int) (i c p q a e : Nat) (A : Option Addr) (n cap B : Nat) (l : List UInt8) (w : World) (hn : l.length = n) (hb : Bytes w B A l) (hB : B ≤ w.heap.size) (hr : n ≤ 448)
    (hk0 : 0 ≤ k) (hk1 : k < 256) (hs0 : 0 ≤ s) (hs1 : s < 256) (ht0 : 0 ≤ t) (ht1 : t < 256) (Hi : cnt i) (Hc : cnt c) (Hp : cnt p) (Hq : cnt q) (Ha : cnt a) (He : cnt e) :
    Calls Tryd.prog 15 #[.agg #[.int .i64 k, .int .i64 s, .int .i64 t, .int .u64 (i : Int), .int .u64 (c : Int), .int .u64 (p : Int), .int .u64 (q : Int), .int .u64 (a : Int), .int .u64 (e : Int), .slice A n cap]] w
      (BytesE w (frameL ⟨k, s, t, i, c, p, q, a, e, l⟩)) := by
  have HN := Lib.hid hn
  have e0 : k % 256 = (((byteI k).toNat : Nat) : Int) := by rw [byteI_back hk0 hk1]; omega
  have e1 : s % 256 = (((byteI s).toNat : Nat) : Int) := by rw [byteI_back hs0 hs1]; omega
  have e2 : t % 256 = (((byteI t).toNat : Nat) : Int) := by rw [byteI_back ht0 ht1]; omega
  have HF := Lib.hid (show [byteI k, byteI s, byteI t] = headF ⟨k, s, t, i, c, p, q, a, e, l⟩ from rfl)
  generalize byteI k = x0 at e0 HF
  generalize byteI s = x1 at e1 HF
  generalize byteI t = x2 at e2 HF
  have S := Lib.hid (bytes_start k s t i c p q a e A n cap x0 x1 x2 w)
  have HBY := Lib.hid hb
  clear hb hn hk0 hk1 hs0 hs1 ht0 ht1
  go_enter Tryd.func15, Tryd.ntmps15
  obtain ⟨k0, k1, k2, k3, k4, k5, k6, k7, k8, k9⟩ := S.out.1.box
  go_wp2_with fail
  obtain ⟨hR, hO, hB0⟩ := S.out
  generalize (w.alloc (.cells #[.int .i64 k, .int .i64 s, .int .i64 t, .int .u64 (i : Int), .int .u64 (c : Int), .int .u64 (p : Int), .int .u64 (q : Int), .int .u64 (a : Int), .int .u64 (e : Int), .slice A n cap] 25)).alloc (.cells #[.int .u8 ((x0.toNat : Nat) : Int), .int .u8 ((x1.toNat : Nat) : Int), .int .u8 ((x2.toNat : Nat) : Int)] 5) = V at *
  have HR0 := Lib.hid hR
  have HO0 := Lib.hid hO
  have HB0 := Lib.hid hB0
  clear hR hO hB0 S
  generalize [x0, x1, x2] = l0 at HF HO0
  refine (refShort_any i _ (by have := Hi; unfold cnt at this; omega)).mono ?_
  rintro en W5 ⟨A5, c5, rfl, ho5, hb5⟩
  obtain ⟨xs, hxs⟩ : ∃ xs, xs = shortL i := ⟨_, rfl⟩
  rw [← hxs] at ho5 ⊢
  have HXS0 := Lib.hid hxs
  have h10 : xs.length ≤ 5 := by rw [hxs]; exact shortL_five Hi
  clear hxs
  generalize hm : xs.length = m at ho5 h10 ⊢
  have HM := Lib.hid hm
  have R5 := Lib.hid (HR0.out.below hb5.out)
  have O5 := Lib.hid (own8_later HO0.out hb5.out)
  have L5 := Lib.hid (fbtr HB0.out hb5.out)
  have C1 := Lib.hid (O5.out.lower (Nat.zero_le _))
  have C2 := Lib.hid ho5.out.none_cap
  have C3 := Lib.hid ho5.out.bytes
  have z5 := lt_of_heap R5.out
  clear HR0 HO0 HB0 ho5 hb5 hm k0 k1 k2 k3 k4 k5 k6 k7 k8 k9
  go_wp2_with (at_builtin; refine wpList_append8 rfl (.tmp 14) (.tmp 17) rfl (some ⟨w.heap.size + 1, 0, none⟩) 3 3 l0 rfl C1.out A5 m c5 _ xs rfl HM.out C2.out C3.out (by omega) ?_)
  intro AA1 cc1 w1 hO1 ho1 hn1
  have hg : ∀ j, blockOf AA1 = some j → w.heap.size + 1 ≤ j := hn1.out.ge (by omega) (fun j hj => (O5.out.lt hj).1)
  have HR1 := Lib.hid (R5.out.only ho1.out (fun h => by have := (O5.out.lt h).1; omega))
  have HO1 := Lib.hid (hO1.out.raise hg)
  have HB1 := Lib.hid (ho1.out.below L5.out (fun j hj => by have := (O5.out.lt hj).1; omega) L5.out.size)
  clear hO1 ho1 hn1 hg R5 O5 L5 C1 C2 C3 z5 HM
  generalize hl0 : l0 ++ xs = ll1 at HO1
  have HL0 := Lib.hid hl0
  have hle1 : 3 + m ≤ 8 := by omega
  generalize 3 + m = nn1 at HO1 hle1 ⊢
  clear hl0 h10
  obtain ⟨k0, k1, k2, k3, k4, k5, k6, k7, k8, k9⟩ := HR1.out.box
  go_wp2_with fail
  refine (refShort_any c _ (by have := Hc; unfold cnt at this; omega)).mono ?_
  rintro en W5 ⟨A5, c5, rfl, ho5, hb5⟩
  obtain ⟨xs, hxs⟩ : ∃ xs, xs = shortL c := ⟨_, rfl⟩
  rw [← hxs] at ho5 ⊢
  have HXS1 := Lib.hid hxs
  have h10 : xs.length ≤ 5 := by rw [hxs]; exact shortL_five Hc
  clear hxs
  generalize hm : xs.length = m at ho5 h10 ⊢
  have HM := Lib.hid hm
  have R5 := Lib.hid (HR1.out.below hb5.out)
  have O5 := Lib.hid (own8_later HO1.out hb5.out)
  have L5 := Lib.hid (fbtr HB1.out hb5.out)
  have C1 := Lib.hid (O5.out.lower (Nat.zero_le _))
  have C2 := Lib.hid ho5.out.none_cap
  have C3 := Lib.hid ho5.out.bytes
  have z5 := lt_of_heap R5.out
  clear HR1 HO1 HB1 ho5 hb5 hm k0 k1 k2 k3 k4 k5 k6 k7 k8 k9
  go_wp2_with (at_builtin; refine wpList_append8 rfl (.tmp 19) (.tmp 22) rfl AA1 nn1 cc1 ll1 rfl C1.out A5 m c5 _ xs rfl HM.out C2.out C3.out (by omega) ?_)
  intro AA2 cc2 w2 hO1 ho1 hn1
  have hg : ∀ j, blockOf AA2 = some j → w.heap.size + 1 ≤ j := hn1.out.ge (by omega) (fun j hj => (O5.out.lt hj).1)
  have HR2 := Lib.hid (R5.out.only ho1.out (fun h => by have := (O5.out.lt h).1; omega))
  have HO2 := Lib.hid (hO1.out.raise hg)
  have HB2 := Lib.hid (ho1.out.below L5.out (fun j hj => by have := (O5.out.lt hj).1; omega) L5.out.size)
  clear hO1 ho1 hn1 hg R5 O5 L5 C1 C2 C3 z5 HM
  generalize hl1 : ll1 ++ xs = ll2 at HO2
  have HL1 := Lib.hid hl1
  have hle2 : nn1 + m ≤ 13 := by omega
  generalize nn1 + m = nn2 at HO2 hle2 ⊢
  clear hl1 h10
  obtain ⟨k0, k1, k2, k3, k4, k5, k6, k7, k8, k9⟩ := HR2.out.box
  go_wp2_with fail
  refine (refShort_any p _ (by have := Hp; unfold cnt at this; omega)).mono ?_
  rintro en W5 ⟨A5, c5, rfl, ho5, hb5⟩
  obtain ⟨xs, hxs⟩ : ∃ xs, xs = shortL p := ⟨_, rfl⟩
  rw [← hxs] at ho5 ⊢
  have HXS2 := Lib.hid hxs
  have h10 : xs.length ≤ 5 := by rw [hxs]; exact shortL_five Hp
  clear hxs
  generalize hm : xs.length = m at ho5 h10 ⊢
  have HM := Lib.hid hm
  have R5 := Lib.hid (HR2.out.below hb5.out)
  have O5 := Lib.hid (own8_later HO2.out hb5.out)
  have L5 := Lib.hid (fbtr HB2.out hb5.out)
  have C1 := Lib.hid (O5.out.lower (Nat.zero_le _))
  have C2 := Lib.hid ho5.out.none_cap
  have C3 := Lib.hid ho5.out.bytes
  have z5 := lt_of_heap R5.out
  clear HR2 HO2 HB2 ho5 hb5 hm k0 k1 k2 k3 k4 k5 k6 k7 k8 k9
  go_wp2_with (at_builtin; refine wpList_append8 rfl (.tmp 24) (.tmp 27) rfl AA2 nn2 cc2 ll2 rfl C1.out A5 m c5 _ xs rfl HM.out C2.out C3.out (by omega) ?_)
  intro AA3 cc3 w3 hO1 ho1 hn1
  have hg : ∀ j, blockOf AA3 = some j → w.heap.size + 1 ≤ j := hn1.out.ge (by omega) (fun j hj => (O5.out.lt hj).1)
  have HR3 := Lib.hid (R5.out.only ho1.out (fun h => by have := (O5.out.lt h).1; omega))
  have HO3 := Lib.hid (hO1.out.raise hg)
  have HB3 := Lib.hid (ho1.out.below L5.out (fun j hj => by have := (O5.out.lt hj).1; omega) L5.out.size)
  clear hO1 ho1 hn1 hg R5 O5 L5 C1 C2 C3 z5 HM
  generalize hl2 : ll2 ++ xs = ll3 at HO3
  have HL2 := Lib.hid hl2
  have hle3 : nn2 + m ≤ 18 := by omega
  generalize nn2 + m = nn3 at HO3 hle3 ⊢
  clear hl2 h10
  obtain ⟨k0, k1, k2, k3, k4, k5, k6, k7, k8, k9⟩ := HR3.out.box
  go_wp2_with fail
  refine (refShort_any q _ (by have := Hq; unfold cnt at this; omega)).mono ?_
  rintro en W5 ⟨A5, c5, rfl, ho5, hb5⟩
  obtain ⟨xs, hxs⟩ : ∃ xs, xs = shortL q := ⟨_, rfl⟩
  rw [← hxs] at ho5 ⊢
  have HXS3 := Lib.hid hxs
  have h10 : xs.length ≤ 5 := by rw [hxs]; exact shortL_five Hq
  clear hxs
  generalize hm : xs.length = m at ho5 h10 ⊢
  have HM := Lib.hid hm
  have R5 := Lib.hid (HR3.out.below hb5.out)
  have O5 := Lib.hid (own8_later HO3.out hb5.out)
  have L5 := Lib.hid (fbtr HB3.out hb5.out)
  have C1 := Lib.hid (O5.out.lower (Nat.zero_le _))
  have C2 := Lib.hid ho5.out.none_cap
  have C3 := Lib.hid ho5.out.bytes
  have z5 := lt_of_heap R5.out
  clear HR3 HO3 HB3 ho5 hb5 hm k0 k1 k2 k3 k4 k5 k6 k7 k8 k9
  go_wp2_with (at_builtin; refine wpList_append8 rfl (.tmp 29) (.tmp 32) rfl AA3 nn3 cc3 ll3 rfl C1.out A5 m c5 _ xs rfl HM.out C2.out C3.out (by omega) ?_)
  intro AA4 cc4 w4 hO1 ho1 hn1
  have hg : ∀ j, blockOf AA4 = some j → w.heap.size + 1 ≤ j := hn1.out.ge (by omega) (fun j hj => (O5.out.lt hj).1)
  have HR4 := Lib.hid (R5.out.only ho1.out (fun h => by have := (O5.out.lt h).1; omega))
  have HO4 := Lib.hid (hO1.out.raise hg)
  have HB4 := Lib.hid (ho1.out.below L5.out (fun j hj => by have := (O5.out.lt hj).1; omega) L5.out.size)
  clear hO1 ho1 hn1 hg R5 O5 L5 C1 C2 C3 z5 HM
  generalize hl3 : ll3 ++ xs = ll4 at HO4
  have HL3 := Lib.hid hl3
  have hle4 : nn3 + m ≤ 23 := by omega
  generalize nn3 + m = nn4 at HO4 hle4 ⊢
  clear hl3 h10
  obtain ⟨k0, k1, k2, k3, k4, k5, k6, k7, k8, k9⟩ := HR4.out.box
  go_wp2_with fail
  refine (refShort_any a _ (by have := Ha; unfold cnt at this; omega)).mono ?_
  rintro en W5 ⟨A5, c5, rfl, ho5, hb5⟩
  obtain ⟨xs, hxs⟩ : ∃ xs, xs = shortL a := ⟨_, rfl⟩
  rw [← hxs] at ho5 ⊢
  have HXS4 := Lib.hid hxs
  have h10 : xs.length ≤ 5 := by rw [hxs]; exact shortL_five Ha
  clear hxs
  generalize hm : xs.length = m at ho5 h10 ⊢
  have HM := Lib.hid hm
  have R5 := Lib.hid (HR4.out.below hb5.out)
  have O5 := Lib.hid (own8_later HO4.out hb5.out)
  have L5 := Lib.hid (fbtr HB4.out hb5.out)
  have C1 := Lib.hid (O5.out.lower (Nat.zero_le _))
  have C2 := Lib.hid ho5.out.none_cap
  have C3 := Lib.hid ho5.out.bytes
  have z5 := lt_of_heap R5.out
  clear HR4 HO4 HB4 ho5 hb5 hm k0 k1 k2 k3 k4 k5 k6 k7 k8 k9
  go_wp2_with (at_builtin; refine wpList_append8 rfl (.tmp 34) (.tmp 37) rfl AA4 nn4 cc4 ll4 rfl C1.out A5 m c5 _ xs rfl HM.out C2.out C3.out (by omega) ?_)
  intro AA5 cc5 w5 hO1 ho1 hn1
  have hg : ∀ j, blockOf AA5 = some j → w.heap.size + 1 ≤ j := hn1.out.ge (by omega) (fun j hj => (O5.out.lt hj).1)
  have HR5 := Lib.hid (R5.out.only ho1.out (fun h => by have := (O5.out.lt h).1; omega))
  have HO5 := Lib.hid (hO1.out.raise hg)
  have HB5 := Lib.hid (ho1.out.below L5.out (fun j hj => by have := (O5.out.lt hj).1; omega) L5.out.size)
  clear hO1 ho1 hn1 hg R5 O5 L5 C1 C2 C3 z5 HM
  generalize hl4 : ll4 ++ xs = ll5 at HO5
  have HL4 := Lib.hid hl4
  have hle5 : nn4 + m ≤ 28 := by omega
  generalize nn4 + m = nn5 at HO5 hle5 ⊢
  clear hl4 h10
  obtain ⟨k0, k1, k2, k3, k4, k5, k6, k7, k8, k9⟩ := HR5.out.box
  go_wp2_with fail
  refine (refShort_any e _ (by have := He; unfold cnt at this; omega)).mono ?_
  rintro en W5 ⟨A5, c5, rfl, ho5, hb5⟩
  obtain ⟨xs, hxs⟩ : ∃ xs, xs = shortL e := ⟨_, rfl⟩
  rw [← hxs] at ho5 ⊢
  have HXS5 := Lib.hid hxs
  have h10 : xs.length ≤ 5 := by rw [hxs]; exact shortL_five He
  clear hxs
  generalize hm : xs.length = m at ho5 h10 ⊢
  have HM := Lib.hid hm
  have R5 := Lib.hid (HR5.out.below hb5.out)
  have O5 := Lib.hid (own8_later HO5.out hb5.out)
  have L5 := Lib.hid (fbtr HB5.out hb5.out)
  have C1 := Lib.hid (O5.out.lower (Nat.zero_le _))
  have C2 := Lib.hid ho5.out.none_cap
  have C3 := Lib.hid ho5.out.bytes
  have z5 := lt_of_heap R5.out
  clear HR5 HO5 HB5 ho5 hb5 hm k0 k1 k2 k3 k4 k5 k6 k7 k8 k9
  go_wp2_with (at_builtin; refine wpList_append8 rfl (.tmp 39) (.tmp 42) rfl AA5 nn5 cc5 ll5 rfl C1.out A5 m c5 _ xs rfl HM.out C2.out C3.out (by omega) ?_)
  intro AA6 cc6 w6 hO1 ho1 hn1
  have hg : ∀ j, blockOf AA6 = some j → w.heap.size + 1 ≤ j := hn1.out.ge (by omega) (fun j hj => (O5.out.lt hj).1)
  have HR6 := Lib.hid (R5.out.only ho1.out (fun h => by have := (O5.out.lt h).1; omega))
  have HO6 := Lib.hid (hO1.out.raise hg)
  have HB6 := Lib.hid (ho1.out.below L5.out (fun j hj => by have := (O5.out.lt hj).1; omega) L5.out.size)
  clear hO1 ho1 hn1 hg R5 O5 L5 C1 C2 C3 z5 HM
  generalize hl5 : ll5 ++ xs = ll6 at HO6
  have HL5 := Lib.hid hl5
  have hle6 : nn5 + m ≤ 33 := by omega
  generalize nn5 + m = nn6 at HO6 hle6 ⊢
  clear hl5 h10
  obtain ⟨k0, k1, k2, k3, k4, k5, k6, k7, k8, k9⟩ := HR6.out.box
  by_cases hk : k = 2
  · have hkb : (k == 2) = true := by rw [beq_iff_eq]; exact hk
    have HK := Lib.hid hk
    clear hk
    have cs := conv_str cap (HBY.out.below (HB6.out.mono hB)) HN.out
    have hsz : (⟨l.toArray⟩ : ByteArray).size = n := by rw [← HN.out]; simp [ByteArray.size]
    have HST := Lib.hid (show strL ⟨l.toArray⟩ = l from by simp [strL])
    generalize (⟨l.toArray⟩ : ByteArray) = sx at cs hsz HST
    go_wp2_with fail
    refine (refText_any sx _ (by omega)).mono ?_
    rintro en W5 ⟨A5, c5, rfl, ho5, hb5⟩
    rw [hsz, HST.out] at ho5 ⊢
    clear cs hsz HST
    obtain ⟨xs, hxs⟩ : ∃ xs, xs = shortL n ++ l := ⟨_, rfl⟩
    rw [← hxs] at ho5 ⊢
    have HXS6 := Lib.hid hxs
    have h10 : xs.length ≤ 450 := by rw [hxs]; exact by have h1 := shortL_le 1 n (by omega); have h2 := HN.out; rw [List.length_append]; omega
    clear hxs
    generalize hm : xs.length = m at ho5 h10 ⊢
    have HM := Lib.hid hm
    have R5 := Lib.hid (HR6.out.below hb5.out)
    have O5 := Lib.hid (own8_later HO6.out hb5.out)
    have L5 := Lib.hid (fbtr HB6.out hb5.out)
    have C1 := Lib.hid (O5.out.lower (Nat.zero_le _))
    have C2 := Lib.hid ho5.out.none_cap
    have C3 := Lib.hid ho5.out.bytes
    have z5 := lt_of_heap R5.out
    clear HR6 HO6 HB6 ho5 hb5 hm k0 k1 k2 k3 k4 k5 k6 k7 k8 k9
    go_wp2_with (at_builtin; refine wpList_append8 rfl (.tmp 47) (.tmp 51) rfl AA6 nn6 cc6 ll6 rfl C1.out A5 m c5 _ xs rfl HM.out C2.out C3.out (by omega) ?_)
    intro AA7 cc7 w7 hO1 ho1 hn1
    have hg : ∀ j, blockOf AA7 = some j → w.heap.size + 1 ≤ j := hn1.out.ge (by omega) (fun j hj => (O5.out.lt hj).1)
    have HR7 := Lib.hid (R5.out.only ho1.out (fun h => by have := (O5.out.lt h).1; omega))
    have HO7 := Lib.hid (hO1.out.raise hg)
    have HB7 := Lib.hid (ho1.out.below L5.out (fun j hj => by have := (O5.out.lt hj).1; omega) L5.out.size)
    clear hO1 ho1 hn1 hg R5 O5 L5 C1 C2 C3 z5 HM
    generalize hl6 : ll6 ++ xs = ll7 at HO7
    have HL6 := Lib.hid hl6
    have hle7 : nn6 + m ≤ 483 := by omega
    generalize nn6 + m = nn7 at HO7 hle7 ⊢
    clear hl6 h10
    obtain ⟨k0, k1, k2, k3, k4, k5, k6, k7, k8, k9⟩ := HR7.out.box
    go_wp2_with fail
    refine (refSeal_any AA7 ll7 nn7 cc7 _ HO7.out.len HO7.out.none_cap HO7.out.bytes (by omega)).mono ?_
    rintro en W9 ⟨A9, c9, rfl, ho9, hb9⟩
    have HB9 := Lib.hid (fbtr HB7.out hb9.out)
    have HO9 := Lib.hid (own8_base ho9.out HB7.out.size)
    have HE9 := Lib.hid (HO7.out.len)
    clear ho9 hb9 k0 k1 k2 k3 k4 k5 k6 k7 k8 k9
    go_wp2
    go_ret
    have ef : frameL ⟨k, s, t, i, c, p, q, a, e, l⟩ = Crc.seal_ ll7 := by
      unfold frameL inF tailF
      rw [← HF.out, ← HL6.out, ← HL5.out, ← HL4.out, ← HL3.out, ← HL2.out, ← HL1.out, ← HL0.out]
      simp [HK.out, HN.out, numsF, shortsL, HXS0.out, HXS1.out, HXS2.out, HXS3.out, HXS4.out, HXS5.out, HXS6.out, List.append_assoc]
    have el : (Crc.seal_ ll7).length = nn7 + 4 := by rw [Crc.seal_length, HE9.out]
    rw [ef]
    exact ⟨A9, c9, by rw [el]; rfl, by rw [el]; exact HO9, HB9⟩
  · have hkb : (k == 2) = false := by rw [beq_eq_false_iff_ne]; exact hk
    go_wp2_with fail
    refine (refSeal_any AA6 ll6 nn6 cc6 _ HO6.out.len HO6.out.none_cap HO6.out.bytes (by omega)).mono ?_
    rintro en W9 ⟨A9, c9, rfl, ho9, hb9⟩
    have HB9 := Lib.hid (fbtr HB6.out hb9.out)
    have HO9 := Lib.hid (own8_base ho9.out HB6.out.size)
    have HE9 := Lib.hid (HO6.out.len)
    clear ho9 hb9 k0 k1 k2 k3 k4 k5 k6 k7 k8 k9
    go_wp2
    go_ret
    have ef : frameL ⟨k, s, t, i, c, p, q, a, e, l⟩ = Crc.seal_ ll6 := by
      unfold frameL inF tailF
      rw [← HF.out, ← HL5.out, ← HL4.out, ← HL3.out, ← HL2.out, ← HL1.out, ← HL0.out]
      simp [hk, numsF, shortsL, HXS0.out, HXS1.out, HXS2.out, HXS3.out, HXS4.out, HXS5.out, List.append_assoc]
    have el : (Crc.seal_ ll6).length = nn6 + 4 := by rw [Crc.seal_length, HE9.out]
    rw [ef]
    exact ⟨A9, c9, by rw [el]; rfl, by rw [el]; exact HO9, HB9⟩
theorem rfbytes_any (f : Fr) (hf : mayF f) (A : Option Addr) (n cap B : Nat) (w : World) (hn : f.body.length = n) (hb : Bytes w B A f.body) (hB : B ≤ w.heap.size) :
    Calls Tryd.prog 15 #[frV f A n cap] w (BytesE w (frameL f)) := by
  obtain ⟨hs, ht, _, hc, _, _, _, hk⟩ := id hf
  have hkk := mayF_kind hf
  unfold nodeF at hs ht
  obtain ⟨c1, c2, c3, c4, c5, c6⟩ := hc
  have hr : n ≤ 448 := by
    rw [← hn]
    rcases hk with h | h
    · rw [h.2.2]; simp
    · exact h.2.2.2.2
  exact rfbytes_int f.kind f.src f.dst f.inc f.conn f.pinc f.pconn f.ack f.seq A n cap B f.body w hn hb hB hr (by omega) (by omega) (by omega) (by omega) (by omega) (by omega) c1 c2 c3 c4 c5 c6
end Go.Proofs.YtelbhlkojpnmgaaDoor
