/-
  What bytes say as a packet, by the document's Read. For at most 1,048,576 bytes.
-/
import Derived.Test.YtlcddfkhklmieaaKbytesa
import Derived.Test.YtlcddfkhklmieaaKrown
import Derived.Test.YtlcddfkhklmieaaInproc
import Derived.Test.YtlcddfkhklmieaaInprocs
import Derived.Test.YtlcddfkhklmieaaIntext
import Derived.Test.YtlcddfkhklmieaaGa
namespace Go.Proofs.Ytlcddfkhklmieaa
set_option maxRecDepth 20000
open Go.RowKit

theorem rUint_bads {s : RS} (h : s.bad = true) : (rUint s).2.bad = true := by
  obtain ⟨l, b⟩ := s
  cases h
  rw [rUint_bad]
theorem rWide_bads {s : RS} (h : s.bad = true) : (rWide s 1).2.bad = true := by rw [rWide_fault s (.inl h)]
theorem rText_bad {s : RS} {m : Nat} (h : s.bad = true) : (rText s (m : Int)).2.bad = true := by rw [rText_uint, if_pos (.inl (rUint_bads h))]
theorem rText_small {s s' : RS} {bd : List UInt8} (h : rText s 320 = (bd, s')) : bd.length ≤ 320 := by
  have e := rText_uint s 320
  rw [show ((320 : Nat) : Int) = 320 from rfl, h] at e
  split at e
  · cases e; simp
  · cases e
    rename_i hc
    simp only [not_or] at hc
    rw [List.length_take]
    omega
theorem getH_eq {s t1 t2 t3 t4 : RS} {a b c e : Nat} (k3 : Bool) (h1 : rWide s 1 = (a, t1)) (h2 : rUint t1 = (b, t2)) (h3 : rUint t2 = (c, t3)) (h4 : rUint t3 = (e, t4)) : getH k3 s = (⟨(a : Int), b, c, if k3 = true then e else 0⟩, if k3 = true then t4 else t3) := by
  unfold getH
  simp only [h1, h2, h3, h4]
theorem getH_bad {s : RS} (k3 : Bool) (h : s.bad = true) : (getH k3 s).2.bad = true := by
  have h1 := rUint_bads (rUint_bads (rWide_bads h))
  unfold getH
  cases k3
  · exact h1
  · exact rUint_bads h1
theorem getHs_bad (k3 : Bool) (s : RS) {j n : Nat} (h : (getHs k3 j s).2.bad = true) (hn : j ≤ n) : (getHs k3 n s).2.bad = true := by
  induction hn with
  | refl => exact h
  | step _ ih => exact getH_bad k3 ih
section
variable {kn hn nn : Nat} {s1 s2 s3 s4 s5 s6 : RS} {n1 n2 : Int} {b3 : Bool} {hs : List Hd} {bd : List UInt8}
theorem rawB_two (h1 : gotL s1 = ((n1, n2), s2)) (h2 : rWide s2 1 = (hn, s3)) (h3 : rWide s3 1 = (nn, s4)) (h4 : decide (kn = 3) = b3) (h5 : getHs b3 nn s4 = (hs, s5)) (hk : kn = 2) (h6 : rText s5 320 = (bd, s6)) : rawB kn s1 = (⟨(kn : Int), (n1, n2), (hn : Int), hs, bd, (0, 0), 0, []⟩, s6) := by
  unfold rawB bodyS headS lenS hopsS
  simp only [h1, h2, h3, h4, h5, if_pos hk, h6]
theorem rawB_else (h1 : gotL s1 = ((n1, n2), s2)) (h2 : rWide s2 1 = (hn, s3)) (h3 : rWide s3 1 = (nn, s4)) (h4 : decide (kn = 3) = b3) (h5 : getHs b3 nn s4 = (hs, s5)) (hk : ¬ kn = 2) : rawB kn s1 = (⟨(kn : Int), (n1, n2), (hn : Int), hs, [], (0, 0), 0, []⟩, s5) := by
  unfold rawB bodyS headS lenS hopsS
  simp only [h1, h2, h3, h4, h5, if_neg hk]
theorem rawB_bad (h1 : gotL s1 = ((n1, n2), s2)) (h2 : rWide s2 1 = (hn, s3)) (h3 : rWide s3 1 = (nn, s4)) (h4 : decide (kn = 3) = b3) (hb : (getHs b3 nn s4).2.bad = true) : (rawB kn s1).2.bad = true := by
  unfold rawB bodyS headS lenS hopsS
  simp only [h1, h2, h3, h4]
  split
  · exact rText_bad (m := 320) hb
  · exact hb
end
theorem readK_bad2 {l : List UInt8} (h : (rawK ⟨l, false⟩).2.bad = true) : readK l = none := by
  unfold readK
  rw [if_neg]
  rw [h]
  exact fun e => by cases e.1
theorem readK_nomay {l : List UInt8} {p : Pk} {s : RS} (h : rawK ⟨l, false⟩ = (p, s)) (hm : ¬ mayK p) : readK l = none := by
  unfold readK
  rw [h]
  exact if_neg (fun e => hm e.2.1)
theorem readK_unlike {l : List UInt8} {p : Pk} {s : RS} (h : rawK ⟨l, false⟩ = (p, s)) (hm : packetL p ≠ l) : readK l = none := by
  unfold readK
  rw [h]
  exact if_neg (fun e => hm e.2.2)
theorem readK_full {l : List UInt8} {p : Pk} {s : RS} (h : rawK ⟨l, false⟩ = (p, s)) (hb : s.bad = false) (hm : mayK p) (he : packetL p = l) : readK l = some p := by
  unfold readK
  rw [h]
  exact if_pos ⟨hb, hm, he⟩
/-- What Read answers. -/
def ReadE (w : World) (l : List UInt8) (e : Ending) (w' : World) : Prop :=
  ∃ H ch A1 cb P cp, e = .returned (.tuple #[.agg (pkA ((readK l).getD noK) H ch A1 cb P cp), .bool (readK l).isSome]) ∧ Hid (OwnH w' w.heap.size H ((readK l).getD noK).heads.length ch ((readK l).getD noK).heads) ∧ Hid (Own8 w' w.heap.size A1 ((readK l).getD noK).body.length cb ((readK l).getD noK).body) ∧ Hid (OwnP w' w.heap.size P ((readK l).getD noK).peers.length cp ((readK l).getD noK).peers) ∧ Hid (Below w.heap.size w w')
theorem readE_none {w w' : World} {l : List UInt8} (h : readK l = none) (hb : Hid (Below w.heap.size w w')) : ReadE w l (.returned (.tuple #[.agg #[.int .i64 0, .int .i64 0, .int .u64 0, .int .i64 0, .slice none 0 0, .slice none 0 0, .int .i64 0, .int .u64 0, .int .u64 0, .slice none 0 0], .bool false])) w' := by
  refine ⟨none, 0, none, 0, none, 0, by rw [h]; rfl, ?_, ?_, ?_, hb⟩
  · rw [h]; exact Lib.hid OwnH.nil_
  · rw [h]; exact Lib.hid Own8.nil_
  · rw [h]; exact Lib.hid OwnP.nil_
theorem readE_some {w w' : World} {l : List UInt8} {k s t h x y : Int} {z : Nat} {hs : List Hd} {bd : List UInt8} {ps : List Life} {H A1 P : Option Addr} {nh ch n1 cb np cp : Nat} (hr : readK l = some ⟨k, (s, t), h, hs, bd, (x, y), z, ps⟩) (h1 : Hid (OwnH w' (w.heap.size + 1) H nh ch hs)) (h2 : Hid (Own8 w' (w.heap.size + 1) A1 n1 cb bd)) (h3 : Hid (OwnP w' (w.heap.size + 1) P np cp ps)) (hb : Hid (Below w.heap.size w w')) :
    ReadE w l (.returned (.tuple #[.agg #[.int .i64 k, .int .i64 s, .int .u64 t, .int .i64 h, .slice H nh ch, .slice A1 n1 cb, .int .i64 x, .int .u64 y, .int .u64 (z : Int), .slice P np cp], .bool true])) w' := by
  have e1 := h1.out.len
  have e2 := h2.out.len
  have e3 := h3.out.len
  subst e1 e2 e3
  refine ⟨H, ch, A1, cb, P, cp, by rw [hr]; rfl, ?_, ?_, ?_, hb⟩
  · rw [hr]; exact Lib.hid (h1.out.lower (by omega))
  · rw [hr]; exact Lib.hid (h2.out.lower (by omega))
  · rw [hr]; exact Lib.hid (h3.out.lower (by omega))
theorem getSetL_small {s s' : RS} {ps : List Life} (h : getSetL s 10 = (ps, s')) : ps.length ≤ 300 ∧ ∀ p ∈ ps, 0 ≤ p.2 := by
  unfold getSetL at h
  have hn := rWide_lt s 1
  have hl := gets_length (rWide s 1).1 (rWide s 1).2
  have hp := gets_pos (rWide s 1).1 (rWide s 1).2
  split at h
  · cases h; exact ⟨by simp, by simp⟩
  · split at h
    · rw [h] at hl hp
      simp only at hl hp
      exact ⟨by omega, hp⟩
    · cases h; exact ⟨by simp, by simp⟩
def KRdP (L : List UInt8) (w : World) (v : Value) : Prop := ∃ A c, v = .slice A L.length c ∧ Own8 w 0 A L.length c L
theorem KRdP.mono {L : List UInt8} {w w' : World} {v : Value} (hb : Below w.heap.size w w') (h : KRdP L w v) : KRdP L w' v := by
  obtain ⟨A, c, e, ho⟩ := h
  exact ⟨A, c, e, own8_on ho hb⟩
section
variable {b : Nat} {a0 a1 a2 a3 a4 a5 a6 a7 a8 a9 : Value} {ty : TypeId} {w : World}
theorem Row10.s67 (h : Row10 b a0 a1 a2 a3 a4 a5 a6 a7 a8 a9 ty w) (v6 v7 : Value) : Row10 b a0 a1 a2 a3 a4 a5 v6 v7 a8 a9 ty ((w.setCell ⟨b, 6, none⟩ v6).setCell ⟨b, 7, none⟩ v7) := by
  unfold Row10 at *
  simp [World.setCell, Array.getElem?_modify, h]
theorem only_s67 (w : World) (b : Nat) (v6 v7 : Value) : Only (fun k => k = b) w ((w.setCell ⟨b, 6, none⟩ v6).setCell ⟨b, 7, none⟩ v7) := ((Only.refl (fun k => k = b) w).setCell (p := ⟨b, 6, none⟩) (.inl rfl) _).setCell (p := ⟨b, 7, none⟩) (.inl rfl) _
theorem Row10.s8 (h : Row10 b a0 a1 a2 a3 a4 a5 a6 a7 a8 a9 ty w) (v8 : Value) : Row10 b a0 a1 a2 a3 a4 a5 a6 a7 v8 a9 ty (w.setCell ⟨b, 8, none⟩ v8) := by
  unfold Row10 at *
  simp [World.setCell, Array.getElem?_modify, h]
theorem only_s8 (w : World) (b : Nat) (v8 : Value) : Only (fun k => k = b) w (w.setCell ⟨b, 8, none⟩ v8) := (Only.refl (fun k => k = b) w).setCell (p := ⟨b, 8, none⟩) (.inl rfl) _
end
def KRdA (q : Nat) (i : Nat) (_ : World) (v : Value) : Prop :=
  match i with
  | 0 => v = .pointer (some ⟨q, 0, none⟩)
  | 1 => v = .pointer (some ⟨q, 0, none⟩)
  | 2 => v = .pointer (some ⟨q, 1, none⟩)
  | 3 => v = .bool true
  | 4 => v = .bool true
  | 5 => v = undef
  | 6 => v = undef
  | 7 => v = undef
  | 8 => v = .bool true
  | 9 => v = .bool true
  | 10 => v = undef
  | 11 => v = undef
  | 12 => v = undef
  | 13 => v = undef
  | 14 => v = undef
  | 15 => v = undef
  | _ => v = .bool true
theorem KRdA.mono {q : Nat} {i : Nat} {v : Value} {w w' : World} (_ : Below w.heap.size w w') (hg : KRdA q i w v) : KRdA q i w' v := by
  unfold KRdA at *
  exact hg
def KRdB (q : Nat) (ki s t h x y z : Int) (H A1 P : Option Addr) (nh ch n1 cb np cp : Nat) (i : Nat) (_ : World) (v : Value) : Prop :=
  match i with
  | 0 => v = .pointer (some ⟨q, 0, none⟩)
  | 1 => v = .pointer (some ⟨q, 0, none⟩)
  | 2 => v = .pointer (some ⟨q, 1, none⟩)
  | 3 => v = .bool false
  | 4 => v = .bool false
  | 5 => v = .agg #[.int .i64 ki, .int .i64 s, .int .u64 t, .int .i64 h, .slice H nh ch, .slice A1 n1 cb, .int .i64 x, .int .u64 y, .int .u64 z, .slice P np cp]
  | 6 => v = .bool false
  | 7 => v = .bool true
  | 8 => v = .bool true
  | 9 => v = .bool true
  | 10 => v = undef
  | 11 => v = undef
  | 12 => v = undef
  | 13 => v = undef
  | 14 => v = undef
  | 15 => v = undef
  | _ => v = .bool true
theorem KRdB.mono {q : Nat} {ki s t h x y z : Int} {H A1 P : Option Addr} {nh ch n1 cb np cp : Nat} {i : Nat} {v : Value} {w w' : World} (_ : Below w.heap.size w w') (hg : KRdB q ki s t h x y z H A1 P nh ch n1 cb np cp i w v) : KRdB q ki s t h x y z H A1 P nh ch n1 cb np cp i w' v := by
  unfold KRdB at *
  exact hg
def KRdC (q : Nat) (ki s t h x y z : Int) (H A1 P : Option Addr) (nh ch n1 cb np cp : Nat) (A : Option Addr) (n cap : Nat) (sp sl : ByteArray) (bq : Bool) (M : List UInt8) (i : Nat) (w : World) (v : Value) : Prop :=
  match i with
  | 0 => v = .pointer (some ⟨q, 0, none⟩)
  | 1 => v = .pointer (some ⟨q, 0, none⟩)
  | 2 => v = .pointer (some ⟨q, 1, none⟩)
  | 3 => v = .bool false
  | 4 => v = .bool false
  | 5 => v = .agg #[.int .i64 ki, .int .i64 s, .int .u64 t, .int .i64 h, .slice H nh ch, .slice A1 n1 cb, .int .i64 x, .int .u64 y, .int .u64 z, .slice P np cp]
  | 6 => v = .bool true
  | 7 => v = .bool false
  | 8 => v = .bool false
  | 9 => v = .bool false
  | 10 => v = .agg #[.int .i64 ki, .int .i64 s, .int .u64 t, .int .i64 h, .slice H nh ch, .slice A1 n1 cb, .int .i64 x, .int .u64 y, .int .u64 z, .slice P np cp]
  | 11 => KRdP M w v
  | 12 => v = Value.string sp
  | 13 => v = Value.slice A n cap
  | 14 => v = Value.string sl
  | 15 => v = .bool bq
  | _ => v = .bool bq
theorem KRdC.mono {q : Nat} {ki s t h x y z : Int} {H A1 P : Option Addr} {nh ch n1 cb np cp : Nat} {A : Option Addr} {n cap : Nat} {sp sl : ByteArray} {bq : Bool} {M : List UInt8} {i : Nat} {v : Value} {w w' : World} (hb : Below w.heap.size w w') (hg : KRdC q ki s t h x y z H A1 P nh ch n1 cb np cp A n cap sp sl bq M i w v) : KRdC q ki s t h x y z H A1 P nh ch n1 cb np cp A n cap sp sl bq M i w' v := by
  unfold KRdC at *
  split at hg <;> first | exact hg | exact KRdP.mono hb hg
set_option maxHeartbeats 8000000 in
theorem rkread_any (A : Option Addr) (l : List UInt8) (n cap : Nat) (w : World) (hn : l.length = n) (hb : Bytes w w.heap.size A l) (hA : A = none → cap = 0) (hl : n ≤ 1048576) :
    Calls Try.prog 19 #[.slice A n cap] w (ReadE w l) := by
  have mixed : Try.prog.follows .mixedOrders = true := by kernel_rfl
  have HN := Lib.hid hn
  have HA := Lib.hid hA
  have CS := Lib.hid (fun W (hw : Below w.heap.size w W) => conv_str cap (hb.below hw) hn)
  obtain ⟨sl, hsl⟩ : ∃ sl : ByteArray, (⟨l.toArray⟩ : ByteArray) = sl := ⟨_, rfl⟩
  have HSL := Lib.hid hsl
  rw [hsl] at CS
  have z0 := row10_new w (.int .i64 0) (.int .i64 0) (.int .u64 0) (.int .i64 0) (.slice none 0 0) (.slice none 0 0) (.int .i64 0) (.int .u64 0) (.int .u64 0) (.slice none 0 0) 31
  have hb0 := kbelow_box w (.cells #[.int .i64 0, .int .i64 0, .int .u64 0, .int .i64 0, .slice none 0 0, .slice none 0 0, .int .i64 0, .int .u64 0, .int .u64 0, .slice none 0 0] 31)
  have hz : (w.alloc (.cells #[.int .i64 0, .int .i64 0, .int .u64 0, .int .i64 0, .slice none 0 0, .slice none 0 0, .int .i64 0, .int .u64 0, .int .u64 0, .slice none 0 0] 31)).heap.size = w.heap.size + 1 := by simp
  have hb1 := kbelow_box (w.alloc (.cells #[.int .i64 0, .int .i64 0, .int .u64 0, .int .i64 0, .slice none 0 0, .slice none 0 0, .int .i64 0, .int .u64 0, .int .u64 0, .slice none 0 0] 31)) (.cells #[] 5)
  have own := World.ownsRow_made (base := 0) (e := 5) (size := 1) (w.alloc (.cells #[.int .i64 0, .int .i64 0, .int .u64 0, .int .i64 0, .slice none 0 0, .slice none 0 0, .int .i64 0, .int .u64 0, .int .u64 0, .slice none 0 0] 31)) #[] 0 (Nat.zero_le _) (by unfold maxLen; omega) rfl
  rw [hz] at own
  have Zr0 := Lib.hid (z0.below hb1)
  have B0 := Lib.hid (ktr hb0 hb1)
  have O0 := Lib.hid own
  have HB0 := Lib.hid (hb.below B0.out)
  have HZ0 := Lib.hid (show w.heap.size + 1 < ((w.alloc (.cells #[.int .i64 0, .int .i64 0, .int .u64 0, .int .i64 0, .slice none 0 0, .slice none 0 0, .int .i64 0, .int .u64 0, .int .u64 0, .slice none 0 0] 31)).alloc (.cells #[] 5)).heap.size by simp)
  clear z0 hb0 hz hb1 own hb hn hA hsl
  obtain ⟨⟨kn, s1⟩, hkd⟩ : ∃ y, rWide ⟨l, false⟩ 1 = y := ⟨_, rfl⟩
  have HKD := Lib.hid hkd
  have HRW := Lib.hid (show rawK ⟨l, false⟩ = if kn = 1 then rawA s1 else rawB kn s1 from by unfold rawK; rw [hkd])
  have HLE := Lib.hid (show s1.l.length ≤ 1048576 from by have := rWide_le ⟨l, false⟩ 1; rw [hkd] at this; have h2 := HN.out; simp only at this; omega)
  clear hkd
  go_enter Try.func19, Try.ntmps19
  go_wp2_with (at_builtin; refine wpList_append8 rfl (.tmp 9) (.tmp 10) rfl (some ⟨w.heap.size + 1, 0, none⟩) 0 0 [] rfl O0.out A n cap _ l rfl HN.out HA.out HB0.out (by omega) ?_)
  intro A0 c0 V1 hO ho hn1
  generalize (w.alloc (.cells #[.int .i64 0, .int .i64 0, .int .u64 0, .int .i64 0, .slice none 0 0, .slice none 0 0, .int .i64 0, .int .u64 0, .int .u64 0, .slice none 0 0] 31)).alloc (.cells #[] 5) = V0 at *
  have O1 := Lib.hid (show Own8 V1 0 A0 n c0 l by have h := hO.out; simpa using h)
  have Zr1 := Lib.hid (Zr0.out.only ho.out (by simp [blockOf]))
  have B1 := Lib.hid (ho.out.below B0.out (fun j hj => by simp [blockOf] at hj; omega) B0.out.size)
  have HRQ0 : w.heap.size < V1.heap.size := Nat.lt_of_lt_of_le (Nat.lt_trans (Nat.lt_succ_self _) HZ0.out) ho.out.size
  clear hO ho hn1 Zr0 B0 O0 HB0 HZ0
  have hbq := kbelow_box V1 (.cells #[.slice A0 n c0, .bool false] InT)
  have i0 : InR (V1.alloc (.cells #[.slice A0 n c0, .bool false] InT)) V1.heap.size (blockOf A0) ⟨l, false⟩ := ⟨l, ⟨A0, c0, by rw [HN.out]; exact heap_alloc_new V1 _, (own8_on O1.out hbq).bts, rfl⟩, fun _ => rfl⟩
  have Zr2 := Lib.hid (Zr1.out.below hbq)
  have B2 := Lib.hid (ktr B1.out hbq)
  have I2 := Lib.hid i0
  have HQL := Lib.hid (show V1.heap.size < (V1.alloc (.cells #[.slice A0 n c0, .bool false] InT)).heap.size by simp)
  clear hbq i0 O1 Zr1 B1
  go_wp2_with fail
  generalize V1.alloc (.cells #[.slice A0 n c0, .bool false] InT) = V2 at *
  generalize V1.heap.size = q at *
  generalize blockOf A0 = d at *
  have HRQ := Lib.hid HRQ0
  clear HRQ0
  refine (iu8_any q d ⟨l, false⟩ V2 I2.out).mono ?_
  rintro e V3 ⟨rfl, hI, ho⟩
  rw [HKD.out] at hI ⊢
  simp only at hI ⊢
  have Zr3 := Lib.hid (Zr2.out.only ho.out (Nat.ne_of_lt HRQ.out))
  have B3 := Lib.hid (ho.out.below B2.out (fun j hj => by rw [hj]; exact Nat.le_of_lt HRQ.out) B2.out.size)
  have HQ3 := Lib.hid (Nat.lt_of_lt_of_le HQL.out ho.out.size)
  have HD3 := Lib.hid hI.out.dlt
  clear Zr2 B2 I2 HQL ho
  generalize hki : ((kn : Nat) : Int) = ki at *
  have HKI := Lib.hid hki
  have hpn := row10_new V3 (.int .i64 ki) (.int .i64 0) (.int .u64 0) (.int .i64 0) (.slice none 0 0) (.slice none 0 0) (.int .i64 0) (.int .u64 0) (.int .u64 0) (.slice none 0 0) 31
  have hbp := kbelow_box V3 (.cells #[.int .i64 ki, .int .i64 0, .int .u64 0, .int .i64 0, .slice none 0 0, .slice none 0 0, .int .i64 0, .int .u64 0, .int .u64 0, .slice none 0 0] 31)
  have R4 := Lib.hid hpn
  have Zr4 := Lib.hid (Zr3.out.below hbp)
  have B4 := Lib.hid (ktr B3.out hbp)
  have I4 := Lib.hid (hI.out.keep (S := fun _ => False) (Only.ofBelow hbp) (fun h => h) (fun _ _ h => h))
  have HPL := Lib.hid hpn.lt
  clear hpn hbp Zr3 B3 hI
  obtain ⟨x0, x1, x2, x3, x4, x5, x6, x7, x8, x9⟩ := R4.out.cells
  by_cases hk1 : kn = 1
  · have hk1b : (ki == 1) = true := by rw [beq_iff_eq]; omega
    have HK1 := Lib.hid hk1
    clear hk1 hki
    go_wp2_with fail
    generalize V3.alloc (.cells #[.int .i64 ki, .int .i64 0, .int .u64 0, .int .i64 0, .slice none 0 0, .slice none 0 0, .int .i64 0, .int .u64 0, .int .u64 0, .slice none 0 0] 31) = V4 at *
    have HQP := Lib.hid (show q < V3.heap.size from HQ3.out)
    have HDP := Lib.hid (show ∀ k, d = some k → k ≠ V3.heap.size from fun k e => Nat.ne_of_lt (HD3.out k e))
    generalize V3.heap.size = pb at *
    have HPQ := Lib.hid (show pb ≠ q from fun e => by have := HQP.out; omega)
    clear x0 x1 x2 x3 x4 x5 x6 x7 x8 x9
    refine (iproc_any q d s1 V4 I4.out).mono ?_
    rintro e V11 ⟨rfl, hI, ho⟩
    have R11 := Lib.hid (R4.out.only ho.out HPQ.out)
    have Zr11 := Lib.hid (Zr4.out.only ho.out (Nat.ne_of_lt HRQ.out))
    have B11 := Lib.hid (ho.out.below B4.out (fun j hj => by rw [hj]; exact Nat.le_of_lt HRQ.out) B4.out.size)
    have I11 := Lib.hid hI.out
    clear R4 Zr4 B4 I4 ho hI
    obtain ⟨⟨⟨n1, n2⟩, s2⟩, hg⟩ : ∃ y, gotL s1 = y := ⟨_, rfl⟩
    rw [hg] at I11 ⊢
    simp only [lifeV] at I11 ⊢
    have HG := Lib.hid hg
    have HLE2 := Lib.hid (show s2.l.length ≤ 1048576 from by have := gotL_le s1; rw [hg] at this; simp only at this; have := HLE.out; omega)
    have HPN := Lib.hid (show 0 ≤ n2 from by have := gotL_pos s1; rw [hg] at this; exact this)
    clear hg
    obtain ⟨u0, u1, u2, u3, u4, u5, u6, u7, u8, u9⟩ := R11.out.cells
    obtain ⟨p0, p1, p2, p3, p4, p5, p6, p7, p8, p9⟩ := R11.out.thaw
    have hs := only_s67 V11 pb (.int .i64 n1) (.int .u64 n2)
    have R12 := Lib.hid (R11.out.s67 (.int .i64 n1) (.int .u64 n2))
    have Zr12 := Lib.hid (Zr11.out.only hs (by have := HRQ.out; have := HQP.out; omega))
    have B12 := Lib.hid (hs.below B11.out (fun j hj => by have := HRQ.out; have := HQP.out; omega) B11.out.size)
    have I12 := Lib.hid (I11.out.keep hs (fun e => HPQ.out e.symm) (fun k e e2 => HDP.out k e e2))
    clear hs R11 Zr11 B11 I11
    go_wp2_with fail
    generalize ((V11.setCell ⟨pb, 6, none⟩ (.int .i64 n1)).setCell ⟨pb, 7, none⟩ (.int .u64 n2)) = V12 at *
    clear u0 u1 u2 u3 u4 u5 u6 u7 u8 u9 p0 p1 p2 p3 p4 p5 p6 p7 p8 p9
    refine (iuint_any q d s2 V12 I12.out).mono ?_
    rintro e V13 ⟨rfl, hI, ho⟩
    have R13 := Lib.hid (R12.out.only ho.out HPQ.out)
    have Zr13 := Lib.hid (Zr12.out.only ho.out (Nat.ne_of_lt HRQ.out))
    have B13 := Lib.hid (ho.out.below B12.out (fun j hj => by rw [hj]; exact Nat.le_of_lt HRQ.out) B12.out.size)
    have I13 := Lib.hid hI.out
    clear R12 Zr12 B12 I12 ho hI
    obtain ⟨⟨z, s3⟩, hu⟩ : ∃ y, rUint s2 = y := ⟨_, rfl⟩
    rw [hu] at I13 ⊢
    simp only at I13 ⊢
    have HU := Lib.hid hu
    clear hu
    obtain ⟨u0, u1, u2, u3, u4, u5, u6, u7, u8, u9⟩ := R13.out.cells
    obtain ⟨p0, p1, p2, p3, p4, p5, p6, p7, p8, p9⟩ := R13.out.thaw
    have hs := only_s8 V13 pb (.int .u64 (z : Int))
    have R14 := Lib.hid (R13.out.s8 (.int .u64 (z : Int)))
    have Zr14 := Lib.hid (Zr13.out.only hs (by have := HRQ.out; have := HQP.out; omega))
    have B14 := Lib.hid (hs.below B13.out (fun j hj => by have := HRQ.out; have := HQP.out; omega) B13.out.size)
    have I14 := Lib.hid (I13.out.keep hs (fun e => HPQ.out e.symm) (fun k e e2 => HDP.out k e e2))
    clear hs R13 Zr13 B13 I13
    go_wp2_with fail
    generalize (V13.setCell ⟨pb, 8, none⟩ (.int .u64 (z : Int))) = V14 at *
    clear u0 u1 u2 u3 u4 u5 u6 u7 u8 u9 p0 p1 p2 p3 p4 p5 p6 p7 p8 p9
    have HVB := Lib.hid (show pb + 1 ≤ V14.heap.size from R14.out.lt)
    refine (show Calls Try.prog 43 #[.pointer (some ⟨q, 0, none⟩), .int .i64 10] V14 (IPs q d s3 10 V14) from iprocs_any q d s3 10 (by omega) V14 I14.out).mono ?_
    rintro e V15 ⟨P, cp, rfl, hp, hI, ho⟩
    have R15 := Lib.hid (R14.out.only ho.out HPQ.out)
    have Zr15 := Lib.hid (Zr14.out.only ho.out (Nat.ne_of_lt HRQ.out))
    have B15 := Lib.hid (ho.out.below B14.out (fun j hj => by rw [hj]; exact Nat.le_of_lt HRQ.out) B14.out.size)
    have I15 := Lib.hid hI.out
    clear R14 Zr14 B14 I14 ho hI
    have LP15 := Lib.hid (hp.out.lower (base' := pb + 1) HVB.out)
    clear hp
    obtain ⟨⟨ps, s4⟩, hgs⟩ : ∃ y, getSetL s3 10 = y := ⟨_, rfl⟩
    change Hid (OwnP _ _ P (getSetL s3 10).1.length cp (getSetL s3 10).1) at LP15
    change Hid (InR _ q d (getSetL s3 10).2) at I15
    change (fun e w => _) _ _
    rw [show getSetL s3 ((10 : Nat) : Int) = getSetL s3 10 from rfl]
    rw [hgs] at LP15 I15 ⊢
    simp only at LP15 I15 ⊢
    have HGS := Lib.hid hgs
    have hps : ps.length ≤ 300 ∧ ∀ p ∈ ps, 0 ≤ p.2 := getSetL_small hgs
    have HPOS := Lib.hid hps.2
    generalize hnp : ps.length = np at *
    clear hgs
    have HTY := Lib.hid (show 0 ≤ (0 : Int) ∧ 0 ≤ n2 ∧ 0 ≤ 1000 ∧ np ≤ 300 from ⟨by omega, HPN.out, by omega, hps.1⟩)
    clear hps
    obtain ⟨u0, u1, u2, u3, u4, u5, u6, u7, u8, u9⟩ := R15.out.cells
    obtain ⟨p0, p1, p2, p3, p4, p5, p6, p7, p8, p9⟩ := R15.out.thaw
    have hs := only_s9 V15 pb (.slice P np cp)
    have R16 := Lib.hid (R15.out.s9 (.slice P np cp))
    have Zr16 := Lib.hid (Zr15.out.only hs (by have := HRQ.out; have := HQP.out; omega))
    have B16 := Lib.hid (hs.below B15.out (fun j hj => by have := HRQ.out; have := HQP.out; omega) B15.out.size)
    have I16 := Lib.hid (I15.out.keep hs (fun e => HPQ.out e.symm) (fun k e e2 => HDP.out k e e2))
    have LP16 := Lib.hid (LP15.out.keep hs (fun j e e2 => by have := ownP_base LP15.out j e; omega))
    clear hs R15 Zr15 B15 I15 LP15
    have LH16 := Lib.hid (OwnH.nil_ (w := (V15.setCell ⟨pb, 9, none⟩ (.slice P np cp))) (base := pb + 1))
    have LE16 := Lib.hid (Own8.nil_ (w := (V15.setCell ⟨pb, 9, none⟩ (.slice P np cp))) (base := pb + 1))
    have HB2 := Lib.hid (fun _ : s4.bad = false => show rawK ⟨l, false⟩ = (⟨ki, (0, 0), 0, [], [], (n1, n2), z, ps⟩, s4) from by rw [HRW.out, if_pos HK1.out, ← HKI.out, HK1.out]; unfold rawA; rw [HG.out]; simp only; rw [HU.out]; simp only; rw [HGS.out]; rfl)
    have HB1 := Lib.hid (fun hb : s4.bad = true => readK_bad2 (show (rawK ⟨l, false⟩).2.bad = true from by rw [HRW.out, if_pos HK1.out]; unfold rawA; rw [HG.out]; simp only; rw [HU.out]; simp only; rw [HGS.out]; exact hb))
    go_wp2_with fail
    generalize (V15.setCell ⟨pb, 9, none⟩ (.slice P np cp)) = V16 at *
    clear u0 u1 u2 u3 u4 u5 u6 u7 u8 u9 p0 p1 p2 p3 p4 p5 p6 p7 p8 p9
    have D0 : Hid (Below V16.heap.size V16 V16.drew) := Lib.hid ⟨rfl, rfl, rfl, Nat.le_refl _, fun _ _ => rfl⟩
    have RD : Hid (Row10 pb (.int .i64 ki) (.int .i64 0) (.int .u64 0) (.int .i64 0) (.slice none 0 0) (.slice none 0 0) (.int .i64 n1) (.int .u64 n2) (.int .u64 (z : Int)) (.slice P np cp) 31 V16.drew) := R16
    have ZD : Hid (Row10 w.heap.size (.int .i64 0) (.int .i64 0) (.int .u64 0) (.int .i64 0) (.slice none 0 0) (.slice none 0 0) (.int .i64 0) (.int .u64 0) (.int .u64 0) (.slice none 0 0) 31 V16.drew) := Zr16
    have ID : Hid (InR V16.drew q d s4) := I16
    have BD : Hid (Below w.heap.size w V16.drew) := Lib.hid (ktr B16.out D0.out)
    have HD : Hid (OwnH V16.drew (w.heap.size + 1) (none) (0) (0) ([])) := Lib.hid (LH16.out.lower (by have := HRQ.out; have := HQP.out; omega))
    have ED : Hid (Own8 V16.drew (w.heap.size + 1) (none) (0) (0) ([])) := Lib.hid (LE16.out.lower (by have := HRQ.out; have := HQP.out; omega))
    have PD : Hid (OwnP V16.drew (w.heap.size + 1) (P) (np) (cp) (ps)) := Lib.hid (LP16.out.lower (by have := HRQ.out; have := HQP.out; omega))
    clear R16 Zr16 I16 B16 LH16 LE16 LP16
    cases hbv : (s4).bad with
    | true =>
      have HBV := Lib.hid hbv
      clear hbv
      have HN0 := Lib.hid (HB1.out HBV.out)
      refine region_steps (n := 98) (KRdA q) (by kernel_rfl) (by kernel_rfl) rfl (fun _ _ _ _ hb h => KRdA.mono hb h) ?_ ?_
      · refine And.intro ?_ (And.intro ?_ (And.intro ?_ (And.intro ?_ (And.intro ?_ (And.intro ?_ (And.intro ?_ (And.intro ?_ (And.intro ?_ (And.intro ?_ (And.intro ?_ (And.intro ?_ (And.intro ?_ (And.intro ?_ (And.intro ?_ (And.intro ?_ (And.intro ?_ (True.intro)))))))))))))))))
        · intro listed a' w' hw hd K hK
          refine step_free rfl ?_
          apply wp_move
          exact hK _ _ (Below.refl _ _) (fun s hs => by cases hs; exact hw.kept 4 (by kernel_rfl))
        · intro listed a' w' hw hd K hK
          have hv79 : a'.tmps.getD 79 undef = .pointer (some ⟨q, 0, none⟩) := (hw.at_ 0 79 rfl (hd ⟨0, .data⟩ (by simp) rfl))
          refine step_free rfl ?_
          unfold Oper.wp
          simp only [execOp]
          go_simp
          exact hK _ _ (Below.refl _ _) (fun s hs => by cases hs; rfl)
        · intro listed a' w' hw hd K hK
          have hv80 : a'.tmps.getD 80 undef = .pointer (some ⟨q, 0, none⟩) := (hw.at_ 1 80 rfl (hd ⟨1, .data⟩ (by simp) rfl))
          refine step_free rfl ?_
          unfold Oper.wp
          simp only [execOp]
          go_simp
          exact hK _ _ (Below.refl _ _) (fun s hs => by cases hs; rfl)
        · intro listed a' w' hw hd K hK
          have hv81 : a'.tmps.getD 81 undef = .pointer (some ⟨q, 1, none⟩) := (hw.at_ 2 81 rfl (hd ⟨2, .data⟩ (by simp) rfl))
          have c1 := (ID.out.keep (S := fun _ => False) (Only.ofBelow hw.below) (fun h => h) (fun _ _ h => h)).bad_cell
          rw [HBV.out] at c1
          refine step_free rfl ?_
          unfold Oper.wp
          simp only [execOp]
          go_simp
          exact hK _ _ (Below.refl _ _) (fun s hs => by cases hs; rfl)
        · intro listed a' w' hw hd K hK
          refine step_free rfl ?_
          apply wp_move
          exact hK _ _ (Below.refl _ _) (fun s hs => by cases hs; exact (hw.at_ 3 82 rfl (hd ⟨3, .data⟩ (by simp) rfl)))
        · intro listed a' w' hw hd K hK
          have hgd : a'.tmps.getD 83 undef = .bool true := (hw.at_ 4 83 rfl (hd ⟨4, .guard⟩ (by simp) rfl))
          refine step_unwanted (j := 4) (b := false) (s := 83) rfl rfl (by rw [hgd]; exact fun h => by cases h) ?_
          exact hK _ _ (Below.refl _ _) (fun s hs => by cases hs; rfl)
        · intro listed a' w' hw hd K hK
          have hgd : a'.tmps.getD 83 undef = .bool true := (hw.at_ 4 83 rfl (hd ⟨4, .guard⟩ (by simp) rfl))
          refine step_unwanted (j := 4) (b := false) (s := 83) rfl rfl (by rw [hgd]; exact fun h => by cases h) ?_
          exact hK _ _ (Below.refl _ _) (fun s hs => by cases hs; rfl)
        · intro listed a' w' hw hd K hK
          have hgd : a'.tmps.getD 83 undef = .bool true := (hw.at_ 4 83 rfl (hd ⟨4, .guard⟩ (by simp) rfl))
          refine step_unwanted (j := 4) (b := false) (s := 83) rfl rfl (by rw [hgd]; exact fun h => by cases h) ?_
          exact hK _ _ (Below.refl _ _) (fun s hs => by cases hs; rfl)
        · intro listed a' w' hw hd K hK
          have hv83 : a'.tmps.getD 83 undef = .bool true := (hw.at_ 4 83 rfl (hd ⟨4, .data⟩ (by simp) rfl))
          have hv86 : a'.tmps.getD 86 undef = undef := (hw.at_ 7 86 rfl (hd ⟨7, .data⟩ (by simp) rfl))
          refine step_free rfl ?_
          unfold Oper.wp
          simp only [execOp]
          go_simp
          exact hK _ _ (Below.refl _ _) (fun s hs => by cases hs; rfl)
        · intro listed a' w' hw hd K hK
          refine step_free rfl ?_
          apply wp_move
          exact hK _ _ (Below.refl _ _) (fun s hs => by cases hs; exact (hw.at_ 8 87 rfl (hd ⟨8, .data⟩ (by simp) rfl)))
        · intro listed a' w' hw hd K hK
          have hgd : a'.tmps.getD 88 undef = .bool true := (hw.at_ 9 88 rfl (hd ⟨9, .guard⟩ (by simp) rfl))
          refine step_unwanted (j := 9) (b := false) (s := 88) rfl rfl (by rw [hgd]; exact fun h => by cases h) ?_
          exact hK _ _ (Below.refl _ _) (fun s hs => by cases hs; rfl)
        · intro listed a' w' hw hd K hK
          have hgd : a'.tmps.getD 88 undef = .bool true := (hw.at_ 9 88 rfl (hd ⟨9, .guard⟩ (by simp) rfl))
          refine step_unwanted (j := 9) (b := false) (s := 88) rfl rfl (by rw [hgd]; exact fun h => by cases h) ?_
          exact hK _ _ (Below.refl _ _) (fun s hs => by cases hs; rfl)
        · intro listed a' w' hw hd K hK
          have hgd : a'.tmps.getD 88 undef = .bool true := (hw.at_ 9 88 rfl (hd ⟨9, .guard⟩ (by simp) rfl))
          refine step_unwanted (j := 9) (b := false) (s := 88) rfl rfl (by rw [hgd]; exact fun h => by cases h) ?_
          exact hK _ _ (Below.refl _ _) (fun s hs => by cases hs; rfl)
        · intro listed a' w' hw hd K hK
          have hgd : a'.tmps.getD 88 undef = .bool true := (hw.at_ 9 88 rfl (hd ⟨9, .guard⟩ (by simp) rfl))
          refine step_unwanted (j := 9) (b := false) (s := 88) rfl rfl (by rw [hgd]; exact fun h => by cases h) ?_
          exact hK _ _ (Below.refl _ _) (fun s hs => by cases hs; rfl)
        · intro listed a' w' hw hd K hK
          have hgd : a'.tmps.getD 88 undef = .bool true := (hw.at_ 9 88 rfl (hd ⟨9, .guard⟩ (by simp) rfl))
          refine step_unwanted (j := 9) (b := false) (s := 88) rfl rfl (by rw [hgd]; exact fun h => by cases h) ?_
          exact hK _ _ (Below.refl _ _) (fun s hs => by cases hs; rfl)
        · intro listed a' w' hw hd K hK
          have hgd : a'.tmps.getD 88 undef = .bool true := (hw.at_ 9 88 rfl (hd ⟨9, .guard⟩ (by simp) rfl))
          refine step_unwanted (j := 9) (b := false) (s := 88) rfl rfl (by rw [hgd]; exact fun h => by cases h) ?_
          exact hK _ _ (Below.refl _ _) (fun s hs => by cases hs; rfl)
        · intro listed a' w' hw hd K hK
          have hv88 : a'.tmps.getD 88 undef = .bool true := (hw.at_ 9 88 rfl (hd ⟨9, .data⟩ (by simp) rfl))
          have hv94 : a'.tmps.getD 94 undef = undef := (hw.at_ 15 94 rfl (hd ⟨15, .data⟩ (by simp) rfl))
          refine step_free rfl ?_
          unfold Oper.wp
          simp only [execOp]
          go_simp
          exact hK _ _ (Below.refl _ _) (fun s hs => by cases hs; rfl)
      · intro listed a' w' hw hall
        have hk95 : a'.tmps.getD 95 undef = .bool true := hw.at_ 16 95 rfl (hall 16 (Nat.lt_of_lt_of_eq (show 16 < 17 by omega) rfl))
        have R9 := Lib.hid (RD.out.below hw.below)
        have Z9 := Lib.hid (ZD.out.below hw.below)
        have B9 := Lib.hid (ktr BD.out hw.below)
        have H9 := Lib.hid (HD.out.on hw.below)
        have E9 := Lib.hid (own8_on ED.out hw.below)
        have P9 := Lib.hid (PD.out.on hw.below)
        have hp := hw.puts [79, 80, 81, 82, 83, 84, 85, 86, 87, 88, 89, 90, 91, 92, 93, 94, 95] (by kernel_rfl)
        clear hw hall
        rw [hp]
        simp only [List.foldl_cons, List.foldl_nil, hk95]
        generalize a'.tmps.getD 79 undef = u79
        generalize a'.tmps.getD 80 undef = u80
        generalize a'.tmps.getD 81 undef = u81
        generalize a'.tmps.getD 82 undef = u82
        generalize a'.tmps.getD 83 undef = u83
        generalize a'.tmps.getD 84 undef = u84
        generalize a'.tmps.getD 85 undef = u85
        generalize a'.tmps.getD 86 undef = u86
        generalize a'.tmps.getD 87 undef = u87
        generalize a'.tmps.getD 88 undef = u88
        generalize a'.tmps.getD 89 undef = u89
        generalize a'.tmps.getD 90 undef = u90
        generalize a'.tmps.getD 91 undef = u91
        generalize a'.tmps.getD 92 undef = u92
        generalize a'.tmps.getD 93 undef = u93
        generalize a'.tmps.getD 94 undef = u94
        clear hp hk95
        simp only [Act.put, List.setIfInBounds_toArray, List.set_cons_succ, List.set_cons_zero]
        obtain ⟨y0, y1, y2, y3, y4, y5, y6, y7, y8, y9⟩ := Z9.out.cells
        obtain ⟨g0, g1, g2, g3, g4, g5, g6, g7, g8, g9⟩ := Z9.out.thaw
        have F1 := Lib.hid (Z9.out.all (.int .i64 0) (.int .i64 0) (.int .u64 0) (.int .i64 0) (.slice none 0 0) (.slice none 0 0) (.int .i64 0) (.int .u64 0) (.int .u64 0) (.slice none 0 0))
        have F2 := Lib.hid ((only_all w' w.heap.size (.int .i64 0) (.int .i64 0) (.int .u64 0) (.int .i64 0) (.slice none 0 0) (.slice none 0 0) (.int .i64 0) (.int .u64 0) (.int .u64 0) (.slice none 0 0)).below B9.out (fun j hj => by omega) B9.out.size)
        clear Z9 B9 R9 H9 E9 P9
        go_wp2
        refine bodyPost_ret (results_row_tmp rfl _ _ w.heap.size 31 #[.int .i64 0, .int .i64 0, .int .u64 0, .int .i64 0, .slice none 0 0, .slice none 0 0, .int .i64 0, .int .u64 0, .int .u64 0, .slice none 0 0] (0, 0) _ rfl F1.out Try.underlying31 rfl (by kernel_rfl)) rfl ?_
        exact readE_none HN0.out F2
    | false =>
      have HBV := Lib.hid hbv
      have HRK := Lib.hid (HB2.out hbv)
      clear hbv
      have HPI := Lib.hid (show PIn V16.drew V16.drew.heap.size ([]) ([]) (ps) (none) (0) (none) (0) (0) (P) (np) (cp) from ⟨HD.out.heads, ED.out.bytes, PD.out.lives, HD.out.len, ED.out.len, PD.out.len, ED.out.none_cap, PD.out.none_cap, HPOS.out⟩)
      have HMY0 := Lib.hid (fun W (hb : Below V16.drew.heap.size V16.drew W) => show Calls Try.prog 12 #[.agg #[.int .i64 ki, .int .i64 0, .int .u64 0, .int .i64 0, .slice none 0 0, .slice none 0 0, .int .i64 n1, .int .u64 n2, .int .u64 (z : Int), .slice P np cp]] W (fun e w' => e = .returned (.bool (decide (mayK (⟨ki, (0, 0), 0, [], [], (n1, n2), z, ps⟩ : Pk)))) ∧ Hid (Below W.heap.size W w')) from rmay_at ((HPI.out.below hb).more hb.size) (Nat.le_refl _) HTY.out.1 HTY.out.2.1 HTY.out.2.2.1 HTY.out.2.2.2)
      by_cases hm : mayK (⟨ki, (0, 0), 0, [], [], (n1, n2), z, ps⟩ : Pk)
      · have HMY := HMY0
        rw [decide_eq_true hm] at HMY
        have HBY0 := Lib.hid (fun W (hb : Below V16.drew.heap.size V16.drew W) => show Calls Try.prog 16 #[.agg #[.int .i64 ki, .int .i64 0, .int .u64 0, .int .i64 0, .slice none 0 0, .slice none 0 0, .int .i64 n1, .int .u64 n2, .int .u64 (z : Int), .slice P np cp]] W (BytesE W (packetL (⟨ki, (0, 0), 0, [], [], (n1, n2), z, ps⟩ : Pk))) from rkbytes_at hm ((HPI.out.below hb).more hb.size))
        obtain ⟨M, hM⟩ : ∃ M, packetL (⟨ki, (0, 0), 0, [], [], (n1, n2), z, ps⟩ : Pk) = M := ⟨_, rfl⟩
        rw [hM] at HBY0
        have HBY := HBY0
        unfold BytesE at HBY
        obtain ⟨sp, hsp⟩ : ∃ sp : ByteArray, (⟨M.toArray⟩ : ByteArray) = sp := ⟨_, rfl⟩
        obtain ⟨bq, hbq⟩ : ∃ b, (!decide (M = l)) = b := ⟨_, rfl⟩
        have HSP := Lib.hid hsp
        have HQ := Lib.hid (show (!(sp.toList == sl.toList)) = bq by rw [← hsp, ← HSL.out, ← hbq]; rw [same_strK])
        have HN1 := Lib.hid (fun e : bq = true => readK_unlike HRK.out (show packetL _ ≠ l by rw [hM]; intro e2; rw [e, e2] at hbq; simp at hbq))
        have HS1 := Lib.hid (fun e : bq = false => readK_full HRK.out HBV.out hm (show packetL _ = l by rw [hM]; rw [e] at hbq; simpa using hbq))
        clear hM hsp hbq HBY0 hm HMY0
        refine region_steps (n := 98) (KRdC q ki (0) (0) (0) (n1) (n2) ((z : Int)) (none) (none) (P) (0) (0) (0) (0) (np) (cp) A n cap sp sl bq M) (by kernel_rfl) (by kernel_rfl) rfl (fun _ _ _ _ hb h => KRdC.mono hb h) ?_ ?_
        · refine And.intro ?_ (And.intro ?_ (And.intro ?_ (And.intro ?_ (And.intro ?_ (And.intro ?_ (And.intro ?_ (And.intro ?_ (And.intro ?_ (And.intro ?_ (And.intro ?_ (And.intro ?_ (And.intro ?_ (And.intro ?_ (And.intro ?_ (And.intro ?_ (And.intro ?_ (True.intro)))))))))))))))))
          · intro listed a' w' hw hd K hK
            refine step_free rfl ?_
            apply wp_move
            exact hK _ _ (Below.refl _ _) (fun s hs => by cases hs; exact hw.kept 4 (by kernel_rfl))
          · intro listed a' w' hw hd K hK
            have hv79 : a'.tmps.getD 79 undef = .pointer (some ⟨q, 0, none⟩) := (hw.at_ 0 79 rfl (hd ⟨0, .data⟩ (by simp) rfl))
            refine step_free rfl ?_
            unfold Oper.wp
            simp only [execOp]
            go_simp
            exact hK _ _ (Below.refl _ _) (fun s hs => by cases hs; rfl)
          · intro listed a' w' hw hd K hK
            have hv80 : a'.tmps.getD 80 undef = .pointer (some ⟨q, 0, none⟩) := (hw.at_ 1 80 rfl (hd ⟨1, .data⟩ (by simp) rfl))
            refine step_free rfl ?_
            unfold Oper.wp
            simp only [execOp]
            go_simp
            exact hK _ _ (Below.refl _ _) (fun s hs => by cases hs; rfl)
          · intro listed a' w' hw hd K hK
            have hv81 : a'.tmps.getD 81 undef = .pointer (some ⟨q, 1, none⟩) := (hw.at_ 2 81 rfl (hd ⟨2, .data⟩ (by simp) rfl))
            have c1 := (ID.out.keep (S := fun _ => False) (Only.ofBelow hw.below) (fun h => h) (fun _ _ h => h)).bad_cell
            rw [HBV.out] at c1
            refine step_free rfl ?_
            unfold Oper.wp
            simp only [execOp]
            go_simp
            exact hK _ _ (Below.refl _ _) (fun s hs => by cases hs; rfl)
          · intro listed a' w' hw hd K hK
            refine step_free rfl ?_
            apply wp_move
            exact hK _ _ (Below.refl _ _) (fun s hs => by cases hs; exact (hw.at_ 3 82 rfl (hd ⟨3, .data⟩ (by simp) rfl)))
          · intro listed a' w' hw hd K hK
            have hgd : a'.tmps.getD 83 undef = .bool false := (hw.at_ 4 83 rfl (hd ⟨4, .guard⟩ (by simp) rfl))
            have hv5 := hw.kept 5 (by kernel_rfl)
            obtain ⟨u0, u1, u2, u3, u4, u5, u6, u7, u8, u9⟩ := (RD.out.below hw.below).cells
            refine step_guarded (j := 4) (b := false) (s := 83) rfl rfl (by rw [hw.size]; exact Nat.lt_of_lt_of_eq (show 83 < 98 by omega) rfl) hgd ?_
            unfold Oper.wp
            simp only [execOp]
            go_simp
            exact hK _ _ (Below.refl _ _) (fun s hs => by cases hs; rfl)
          · intro listed a' w' hw hd K hK
            have hgd : a'.tmps.getD 83 undef = .bool false := (hw.at_ 4 83 rfl (hd ⟨4, .guard⟩ (by simp) rfl))
            have hv84 : a'.tmps.getD 84 undef = .agg #[.int .i64 ki, .int .i64 0, .int .u64 0, .int .i64 0, .slice none 0 0, .slice none 0 0, .int .i64 n1, .int .u64 n2, .int .u64 (z : Int), .slice P np cp] := (hw.at_ 5 84 rfl (hd ⟨5, .data⟩ (by simp) rfl))
            refine step_guarded (j := 4) (b := false) (s := 83) rfl rfl (by rw [hw.size]; exact Nat.lt_of_lt_of_eq (show 83 < 98 by omega) rfl) hgd ?_
            unfold Oper.wp
            simp only [execOp]
            go_simp
            refine (HMY.out w' hw.below).mono ?_
            rintro e w2 ⟨rfl, hb2⟩
            exact hK _ _ hb2.out (fun s hs => by cases hs; rfl)
          · intro listed a' w' hw hd K hK
            have hgd : a'.tmps.getD 83 undef = .bool false := (hw.at_ 4 83 rfl (hd ⟨4, .guard⟩ (by simp) rfl))
            have hv85 : a'.tmps.getD 85 undef = .bool true := (hw.at_ 6 85 rfl (hd ⟨6, .data⟩ (by simp) rfl))
            refine step_guarded (j := 4) (b := false) (s := 83) rfl rfl (by rw [hw.size]; exact Nat.lt_of_lt_of_eq (show 83 < 98 by omega) rfl) hgd ?_
            unfold Oper.wp
            simp only [execOp]
            go_simp
            exact hK _ _ (Below.refl _ _) (fun s hs => by cases hs; rfl)
          · intro listed a' w' hw hd K hK
            have hv83 : a'.tmps.getD 83 undef = .bool false := (hw.at_ 4 83 rfl (hd ⟨4, .data⟩ (by simp) rfl))
            have hv86 : a'.tmps.getD 86 undef = .bool false := (hw.at_ 7 86 rfl (hd ⟨7, .data⟩ (by simp) rfl))
            refine step_free rfl ?_
            unfold Oper.wp
            simp only [execOp]
            go_simp
            exact hK _ _ (Below.refl _ _) (fun s hs => by cases hs; rfl)
          · intro listed a' w' hw hd K hK
            refine step_free rfl ?_
            apply wp_move
            exact hK _ _ (Below.refl _ _) (fun s hs => by cases hs; exact (hw.at_ 8 87 rfl (hd ⟨8, .data⟩ (by simp) rfl)))
          · intro listed a' w' hw hd K hK
            have hgd : a'.tmps.getD 88 undef = .bool false := (hw.at_ 9 88 rfl (hd ⟨9, .guard⟩ (by simp) rfl))
            have hv5 := hw.kept 5 (by kernel_rfl)
            obtain ⟨u0, u1, u2, u3, u4, u5, u6, u7, u8, u9⟩ := (RD.out.below hw.below).cells
            refine step_guarded (j := 9) (b := false) (s := 88) rfl rfl (by rw [hw.size]; exact Nat.lt_of_lt_of_eq (show 88 < 98 by omega) rfl) hgd ?_
            unfold Oper.wp
            simp only [execOp]
            go_simp
            exact hK _ _ (Below.refl _ _) (fun s hs => by cases hs; rfl)
          · intro listed a' w' hw hd K hK
            have hgd : a'.tmps.getD 88 undef = .bool false := (hw.at_ 9 88 rfl (hd ⟨9, .guard⟩ (by simp) rfl))
            have hv89 : a'.tmps.getD 89 undef = .agg #[.int .i64 ki, .int .i64 0, .int .u64 0, .int .i64 0, .slice none 0 0, .slice none 0 0, .int .i64 n1, .int .u64 n2, .int .u64 (z : Int), .slice P np cp] := (hw.at_ 10 89 rfl (hd ⟨10, .data⟩ (by simp) rfl))
            refine step_guarded (j := 9) (b := false) (s := 88) rfl rfl (by rw [hw.size]; exact Nat.lt_of_lt_of_eq (show 88 < 98 by omega) rfl) hgd ?_
            unfold Oper.wp
            simp only [execOp]
            go_simp
            refine (HBY.out w' hw.below).mono ?_
            rintro en w2 ⟨A9, c9, rfl, ho9, hb2⟩
            exact hK _ _ hb2.out (fun s hs => by cases hs; exact ⟨A9, c9, rfl, ho9.out.lower (Nat.zero_le _)⟩)
          · intro listed a' w' hw hd K hK
            have hgd : a'.tmps.getD 88 undef = .bool false := (hw.at_ 9 88 rfl (hd ⟨9, .guard⟩ (by simp) rfl))
            have hv90 : KRdP M w' (a'.tmps.getD 90 undef) := (hw.at_ 11 90 rfl (hd ⟨11, .data⟩ (by simp) rfl))
            obtain ⟨A9, c9, e9, ho9⟩ := hv90
            have cs := conv_str c9 ho9.bytes rfl
            rw [HSP.out] at cs
            refine step_guarded (j := 9) (b := false) (s := 88) rfl rfl (by rw [hw.size]; exact Nat.lt_of_lt_of_eq (show 88 < 98 by omega) rfl) hgd ?_
            unfold Oper.wp
            simp only [execOp]
            go_simp
            exact hK _ _ (Below.refl _ _) (fun s hs => by cases hs; rfl)
          · intro listed a' w' hw hd K hK
            have hgd : a'.tmps.getD 88 undef = .bool false := (hw.at_ 9 88 rfl (hd ⟨9, .guard⟩ (by simp) rfl))
            refine step_guarded (j := 9) (b := false) (s := 88) rfl rfl (by rw [hw.size]; exact Nat.lt_of_lt_of_eq (show 88 < 98 by omega) rfl) hgd ?_
            apply wp_move
            exact hK _ _ (Below.refl _ _) (fun s hs => by cases hs; exact hw.kept 0 (by kernel_rfl))
          · intro listed a' w' hw hd K hK
            have hgd : a'.tmps.getD 88 undef = .bool false := (hw.at_ 9 88 rfl (hd ⟨9, .guard⟩ (by simp) rfl))
            have hv92 : a'.tmps.getD 92 undef = Value.slice A n cap := (hw.at_ 13 92 rfl (hd ⟨13, .data⟩ (by simp) rfl))
            have cs := CS.out w' (ktr BD.out hw.below)
            refine step_guarded (j := 9) (b := false) (s := 88) rfl rfl (by rw [hw.size]; exact Nat.lt_of_lt_of_eq (show 88 < 98 by omega) rfl) hgd ?_
            unfold Oper.wp
            simp only [execOp]
            go_simp
            exact hK _ _ (Below.refl _ _) (fun s hs => by cases hs; rfl)
          · intro listed a' w' hw hd K hK
            have hgd : a'.tmps.getD 88 undef = .bool false := (hw.at_ 9 88 rfl (hd ⟨9, .guard⟩ (by simp) rfl))
            have hv91 : a'.tmps.getD 91 undef = Value.string sp := (hw.at_ 12 91 rfl (hd ⟨12, .data⟩ (by simp) rfl))
            have hv93 : a'.tmps.getD 93 undef = Value.string sl := (hw.at_ 14 93 rfl (hd ⟨14, .data⟩ (by simp) rfl))
            have hq := HQ.out
            refine step_guarded (j := 9) (b := false) (s := 88) rfl rfl (by rw [hw.size]; exact Nat.lt_of_lt_of_eq (show 88 < 98 by omega) rfl) hgd ?_
            unfold Oper.wp
            simp only [execOp]
            go_simp
            exact hK _ _ (Below.refl _ _) (fun s hs => by cases hs; rfl)
          · intro listed a' w' hw hd K hK
            have hv88 : a'.tmps.getD 88 undef = .bool false := (hw.at_ 9 88 rfl (hd ⟨9, .data⟩ (by simp) rfl))
            have hv94 : a'.tmps.getD 94 undef = .bool bq := (hw.at_ 15 94 rfl (hd ⟨15, .data⟩ (by simp) rfl))
            refine step_free rfl ?_
            unfold Oper.wp
            simp only [execOp]
            go_simp
            exact hK _ _ (Below.refl _ _) (fun s hs => by cases hs; rfl)
        · intro listed a' w' hw hall
          have hk95 : a'.tmps.getD 95 undef = .bool bq := hw.at_ 16 95 rfl (hall 16 (Nat.lt_of_lt_of_eq (show 16 < 17 by omega) rfl))
          have R9 := Lib.hid (RD.out.below hw.below)
          have Z9 := Lib.hid (ZD.out.below hw.below)
          have B9 := Lib.hid (ktr BD.out hw.below)
          have H9 := Lib.hid (HD.out.on hw.below)
          have E9 := Lib.hid (own8_on ED.out hw.below)
          have P9 := Lib.hid (PD.out.on hw.below)
          have hp := hw.puts [79, 80, 81, 82, 83, 84, 85, 86, 87, 88, 89, 90, 91, 92, 93, 94, 95] (by kernel_rfl)
          clear hw hall
          rw [hp]
          simp only [List.foldl_cons, List.foldl_nil, hk95]
          generalize a'.tmps.getD 79 undef = u79
          generalize a'.tmps.getD 80 undef = u80
          generalize a'.tmps.getD 81 undef = u81
          generalize a'.tmps.getD 82 undef = u82
          generalize a'.tmps.getD 83 undef = u83
          generalize a'.tmps.getD 84 undef = u84
          generalize a'.tmps.getD 85 undef = u85
          generalize a'.tmps.getD 86 undef = u86
          generalize a'.tmps.getD 87 undef = u87
          generalize a'.tmps.getD 88 undef = u88
          generalize a'.tmps.getD 89 undef = u89
          generalize a'.tmps.getD 90 undef = u90
          generalize a'.tmps.getD 91 undef = u91
          generalize a'.tmps.getD 92 undef = u92
          generalize a'.tmps.getD 93 undef = u93
          generalize a'.tmps.getD 94 undef = u94
          clear hp hk95
          simp only [Act.put, List.setIfInBounds_toArray, List.set_cons_succ, List.set_cons_zero]
          cases bq with
          | true =>
            have HN0 := Lib.hid (HN1.out rfl)
            obtain ⟨y0, y1, y2, y3, y4, y5, y6, y7, y8, y9⟩ := Z9.out.cells
            obtain ⟨g0, g1, g2, g3, g4, g5, g6, g7, g8, g9⟩ := Z9.out.thaw
            have F1 := Lib.hid (Z9.out.all (.int .i64 0) (.int .i64 0) (.int .u64 0) (.int .i64 0) (.slice none 0 0) (.slice none 0 0) (.int .i64 0) (.int .u64 0) (.int .u64 0) (.slice none 0 0))
            have F2 := Lib.hid ((only_all w' w.heap.size (.int .i64 0) (.int .i64 0) (.int .u64 0) (.int .i64 0) (.slice none 0 0) (.slice none 0 0) (.int .i64 0) (.int .u64 0) (.int .u64 0) (.slice none 0 0)).below B9.out (fun j hj => by omega) B9.out.size)
            clear Z9 B9 R9 H9 E9 P9
            go_wp2
            refine bodyPost_ret (results_row_tmp rfl _ _ w.heap.size 31 #[.int .i64 0, .int .i64 0, .int .u64 0, .int .i64 0, .slice none 0 0, .slice none 0 0, .int .i64 0, .int .u64 0, .int .u64 0, .slice none 0 0] (0, 0) _ rfl F1.out Try.underlying31 rfl (by kernel_rfl)) rfl ?_
            exact readE_none HN0.out F2
          | false =>
            have HRS := Lib.hid (HS1.out rfl)
            obtain ⟨x0, x1, x2, x3, x4, x5, x6, x7, x8, x9⟩ := R9.out.cells
            obtain ⟨y0, y1, y2, y3, y4, y5, y6, y7, y8, y9⟩ := Z9.out.cells
            obtain ⟨g0, g1, g2, g3, g4, g5, g6, g7, g8, g9⟩ := Z9.out.thaw
            have F1 := Lib.hid (Z9.out.all (.int .i64 ki) (.int .i64 0) (.int .u64 0) (.int .i64 0) (.slice none 0 0) (.slice none 0 0) (.int .i64 n1) (.int .u64 n2) (.int .u64 (z : Int)) (.slice P np cp))
            have hT := only_all w' w.heap.size (.int .i64 ki) (.int .i64 0) (.int .u64 0) (.int .i64 0) (.slice none 0 0) (.slice none 0 0) (.int .i64 n1) (.int .u64 n2) (.int .u64 (z : Int)) (.slice P np cp)
            have F2 := Lib.hid (hT.below B9.out (fun j hj => by omega) B9.out.size)
            have F3 := Lib.hid (H9.out.keep hT (fun j e e2 => by have := ownH_base H9.out j e; omega))
            have F4 := Lib.hid (E9.out.keep hT (fun j e e2 => by have := (E9.out.lt e).1; omega))
            have F5 := Lib.hid (P9.out.keep hT (fun j e e2 => by have := ownP_base P9.out j e; omega))
            clear hT Z9 B9 R9 H9 E9 P9
            go_wp2
            refine bodyPost_ret (results_row_tmp rfl _ _ w.heap.size 31 #[.int .i64 ki, .int .i64 0, .int .u64 0, .int .i64 0, .slice none 0 0, .slice none 0 0, .int .i64 n1, .int .u64 n2, .int .u64 (z : Int), .slice P np cp] (0, 0) _ rfl F1.out Try.underlying31 rfl (by kernel_rfl)) rfl ?_
            exact readE_some HRS.out F3 F4 F5 F2
      · have HMY := HMY0
        rw [decide_eq_false hm] at HMY
        have HN0 := Lib.hid (readK_nomay HRK.out hm)
        clear hm HMY0
        refine region_steps (n := 98) (KRdB q ki (0) (0) (0) (n1) (n2) ((z : Int)) (none) (none) (P) (0) (0) (0) (0) (np) (cp)) (by kernel_rfl) (by kernel_rfl) rfl (fun _ _ _ _ hb h => KRdB.mono hb h) ?_ ?_
        · refine And.intro ?_ (And.intro ?_ (And.intro ?_ (And.intro ?_ (And.intro ?_ (And.intro ?_ (And.intro ?_ (And.intro ?_ (And.intro ?_ (And.intro ?_ (And.intro ?_ (And.intro ?_ (And.intro ?_ (And.intro ?_ (And.intro ?_ (And.intro ?_ (And.intro ?_ (True.intro)))))))))))))))))
          · intro listed a' w' hw hd K hK
            refine step_free rfl ?_
            apply wp_move
            exact hK _ _ (Below.refl _ _) (fun s hs => by cases hs; exact hw.kept 4 (by kernel_rfl))
          · intro listed a' w' hw hd K hK
            have hv79 : a'.tmps.getD 79 undef = .pointer (some ⟨q, 0, none⟩) := (hw.at_ 0 79 rfl (hd ⟨0, .data⟩ (by simp) rfl))
            refine step_free rfl ?_
            unfold Oper.wp
            simp only [execOp]
            go_simp
            exact hK _ _ (Below.refl _ _) (fun s hs => by cases hs; rfl)
          · intro listed a' w' hw hd K hK
            have hv80 : a'.tmps.getD 80 undef = .pointer (some ⟨q, 0, none⟩) := (hw.at_ 1 80 rfl (hd ⟨1, .data⟩ (by simp) rfl))
            refine step_free rfl ?_
            unfold Oper.wp
            simp only [execOp]
            go_simp
            exact hK _ _ (Below.refl _ _) (fun s hs => by cases hs; rfl)
          · intro listed a' w' hw hd K hK
            have hv81 : a'.tmps.getD 81 undef = .pointer (some ⟨q, 1, none⟩) := (hw.at_ 2 81 rfl (hd ⟨2, .data⟩ (by simp) rfl))
            have c1 := (ID.out.keep (S := fun _ => False) (Only.ofBelow hw.below) (fun h => h) (fun _ _ h => h)).bad_cell
            rw [HBV.out] at c1
            refine step_free rfl ?_
            unfold Oper.wp
            simp only [execOp]
            go_simp
            exact hK _ _ (Below.refl _ _) (fun s hs => by cases hs; rfl)
          · intro listed a' w' hw hd K hK
            refine step_free rfl ?_
            apply wp_move
            exact hK _ _ (Below.refl _ _) (fun s hs => by cases hs; exact (hw.at_ 3 82 rfl (hd ⟨3, .data⟩ (by simp) rfl)))
          · intro listed a' w' hw hd K hK
            have hgd : a'.tmps.getD 83 undef = .bool false := (hw.at_ 4 83 rfl (hd ⟨4, .guard⟩ (by simp) rfl))
            have hv5 := hw.kept 5 (by kernel_rfl)
            obtain ⟨u0, u1, u2, u3, u4, u5, u6, u7, u8, u9⟩ := (RD.out.below hw.below).cells
            refine step_guarded (j := 4) (b := false) (s := 83) rfl rfl (by rw [hw.size]; exact Nat.lt_of_lt_of_eq (show 83 < 98 by omega) rfl) hgd ?_
            unfold Oper.wp
            simp only [execOp]
            go_simp
            exact hK _ _ (Below.refl _ _) (fun s hs => by cases hs; rfl)
          · intro listed a' w' hw hd K hK
            have hgd : a'.tmps.getD 83 undef = .bool false := (hw.at_ 4 83 rfl (hd ⟨4, .guard⟩ (by simp) rfl))
            have hv84 : a'.tmps.getD 84 undef = .agg #[.int .i64 ki, .int .i64 0, .int .u64 0, .int .i64 0, .slice none 0 0, .slice none 0 0, .int .i64 n1, .int .u64 n2, .int .u64 (z : Int), .slice P np cp] := (hw.at_ 5 84 rfl (hd ⟨5, .data⟩ (by simp) rfl))
            refine step_guarded (j := 4) (b := false) (s := 83) rfl rfl (by rw [hw.size]; exact Nat.lt_of_lt_of_eq (show 83 < 98 by omega) rfl) hgd ?_
            unfold Oper.wp
            simp only [execOp]
            go_simp
            refine (HMY.out w' hw.below).mono ?_
            rintro e w2 ⟨rfl, hb2⟩
            exact hK _ _ hb2.out (fun s hs => by cases hs; rfl)
          · intro listed a' w' hw hd K hK
            have hgd : a'.tmps.getD 83 undef = .bool false := (hw.at_ 4 83 rfl (hd ⟨4, .guard⟩ (by simp) rfl))
            have hv85 : a'.tmps.getD 85 undef = .bool false := (hw.at_ 6 85 rfl (hd ⟨6, .data⟩ (by simp) rfl))
            refine step_guarded (j := 4) (b := false) (s := 83) rfl rfl (by rw [hw.size]; exact Nat.lt_of_lt_of_eq (show 83 < 98 by omega) rfl) hgd ?_
            unfold Oper.wp
            simp only [execOp]
            go_simp
            exact hK _ _ (Below.refl _ _) (fun s hs => by cases hs; rfl)
          · intro listed a' w' hw hd K hK
            have hv83 : a'.tmps.getD 83 undef = .bool false := (hw.at_ 4 83 rfl (hd ⟨4, .data⟩ (by simp) rfl))
            have hv86 : a'.tmps.getD 86 undef = .bool true := (hw.at_ 7 86 rfl (hd ⟨7, .data⟩ (by simp) rfl))
            refine step_free rfl ?_
            unfold Oper.wp
            simp only [execOp]
            go_simp
            exact hK _ _ (Below.refl _ _) (fun s hs => by cases hs; rfl)
          · intro listed a' w' hw hd K hK
            refine step_free rfl ?_
            apply wp_move
            exact hK _ _ (Below.refl _ _) (fun s hs => by cases hs; exact (hw.at_ 8 87 rfl (hd ⟨8, .data⟩ (by simp) rfl)))
          · intro listed a' w' hw hd K hK
            have hgd : a'.tmps.getD 88 undef = .bool true := (hw.at_ 9 88 rfl (hd ⟨9, .guard⟩ (by simp) rfl))
            refine step_unwanted (j := 9) (b := false) (s := 88) rfl rfl (by rw [hgd]; exact fun h => by cases h) ?_
            exact hK _ _ (Below.refl _ _) (fun s hs => by cases hs; rfl)
          · intro listed a' w' hw hd K hK
            have hgd : a'.tmps.getD 88 undef = .bool true := (hw.at_ 9 88 rfl (hd ⟨9, .guard⟩ (by simp) rfl))
            refine step_unwanted (j := 9) (b := false) (s := 88) rfl rfl (by rw [hgd]; exact fun h => by cases h) ?_
            exact hK _ _ (Below.refl _ _) (fun s hs => by cases hs; rfl)
          · intro listed a' w' hw hd K hK
            have hgd : a'.tmps.getD 88 undef = .bool true := (hw.at_ 9 88 rfl (hd ⟨9, .guard⟩ (by simp) rfl))
            refine step_unwanted (j := 9) (b := false) (s := 88) rfl rfl (by rw [hgd]; exact fun h => by cases h) ?_
            exact hK _ _ (Below.refl _ _) (fun s hs => by cases hs; rfl)
          · intro listed a' w' hw hd K hK
            have hgd : a'.tmps.getD 88 undef = .bool true := (hw.at_ 9 88 rfl (hd ⟨9, .guard⟩ (by simp) rfl))
            refine step_unwanted (j := 9) (b := false) (s := 88) rfl rfl (by rw [hgd]; exact fun h => by cases h) ?_
            exact hK _ _ (Below.refl _ _) (fun s hs => by cases hs; rfl)
          · intro listed a' w' hw hd K hK
            have hgd : a'.tmps.getD 88 undef = .bool true := (hw.at_ 9 88 rfl (hd ⟨9, .guard⟩ (by simp) rfl))
            refine step_unwanted (j := 9) (b := false) (s := 88) rfl rfl (by rw [hgd]; exact fun h => by cases h) ?_
            exact hK _ _ (Below.refl _ _) (fun s hs => by cases hs; rfl)
          · intro listed a' w' hw hd K hK
            have hgd : a'.tmps.getD 88 undef = .bool true := (hw.at_ 9 88 rfl (hd ⟨9, .guard⟩ (by simp) rfl))
            refine step_unwanted (j := 9) (b := false) (s := 88) rfl rfl (by rw [hgd]; exact fun h => by cases h) ?_
            exact hK _ _ (Below.refl _ _) (fun s hs => by cases hs; rfl)
          · intro listed a' w' hw hd K hK
            have hv88 : a'.tmps.getD 88 undef = .bool true := (hw.at_ 9 88 rfl (hd ⟨9, .data⟩ (by simp) rfl))
            have hv94 : a'.tmps.getD 94 undef = undef := (hw.at_ 15 94 rfl (hd ⟨15, .data⟩ (by simp) rfl))
            refine step_free rfl ?_
            unfold Oper.wp
            simp only [execOp]
            go_simp
            exact hK _ _ (Below.refl _ _) (fun s hs => by cases hs; rfl)
        · intro listed a' w' hw hall
          have hk95 : a'.tmps.getD 95 undef = .bool true := hw.at_ 16 95 rfl (hall 16 (Nat.lt_of_lt_of_eq (show 16 < 17 by omega) rfl))
          have R9 := Lib.hid (RD.out.below hw.below)
          have Z9 := Lib.hid (ZD.out.below hw.below)
          have B9 := Lib.hid (ktr BD.out hw.below)
          have H9 := Lib.hid (HD.out.on hw.below)
          have E9 := Lib.hid (own8_on ED.out hw.below)
          have P9 := Lib.hid (PD.out.on hw.below)
          have hp := hw.puts [79, 80, 81, 82, 83, 84, 85, 86, 87, 88, 89, 90, 91, 92, 93, 94, 95] (by kernel_rfl)
          clear hw hall
          rw [hp]
          simp only [List.foldl_cons, List.foldl_nil, hk95]
          generalize a'.tmps.getD 79 undef = u79
          generalize a'.tmps.getD 80 undef = u80
          generalize a'.tmps.getD 81 undef = u81
          generalize a'.tmps.getD 82 undef = u82
          generalize a'.tmps.getD 83 undef = u83
          generalize a'.tmps.getD 84 undef = u84
          generalize a'.tmps.getD 85 undef = u85
          generalize a'.tmps.getD 86 undef = u86
          generalize a'.tmps.getD 87 undef = u87
          generalize a'.tmps.getD 88 undef = u88
          generalize a'.tmps.getD 89 undef = u89
          generalize a'.tmps.getD 90 undef = u90
          generalize a'.tmps.getD 91 undef = u91
          generalize a'.tmps.getD 92 undef = u92
          generalize a'.tmps.getD 93 undef = u93
          generalize a'.tmps.getD 94 undef = u94
          clear hp hk95
          simp only [Act.put, List.setIfInBounds_toArray, List.set_cons_succ, List.set_cons_zero]
          obtain ⟨y0, y1, y2, y3, y4, y5, y6, y7, y8, y9⟩ := Z9.out.cells
          obtain ⟨g0, g1, g2, g3, g4, g5, g6, g7, g8, g9⟩ := Z9.out.thaw
          have F1 := Lib.hid (Z9.out.all (.int .i64 0) (.int .i64 0) (.int .u64 0) (.int .i64 0) (.slice none 0 0) (.slice none 0 0) (.int .i64 0) (.int .u64 0) (.int .u64 0) (.slice none 0 0))
          have F2 := Lib.hid ((only_all w' w.heap.size (.int .i64 0) (.int .i64 0) (.int .u64 0) (.int .i64 0) (.slice none 0 0) (.slice none 0 0) (.int .i64 0) (.int .u64 0) (.int .u64 0) (.slice none 0 0)).below B9.out (fun j hj => by omega) B9.out.size)
          clear Z9 B9 R9 H9 E9 P9
          go_wp2
          refine bodyPost_ret (results_row_tmp rfl _ _ w.heap.size 31 #[.int .i64 0, .int .i64 0, .int .u64 0, .int .i64 0, .slice none 0 0, .slice none 0 0, .int .i64 0, .int .u64 0, .int .u64 0, .slice none 0 0] (0, 0) _ rfl F1.out Try.underlying31 rfl (by kernel_rfl)) rfl ?_
          exact readE_none HN0.out F2
  · have hk1b : (ki == 1) = false := by rw [beq_eq_false_iff_ne]; omega
    have HK1 := Lib.hid hk1
    obtain ⟨b3, hb3⟩ : ∃ b, decide (kn = 3) = b := ⟨_, rfl⟩
    have HB3 := Lib.hid hb3
    have HK3 := Lib.hid (show (ki == 3) = b3 from by rw [← hb3, ← hki, Bool.eq_iff_iff, beq_iff_eq, decide_eq_true_iff]; omega)
    have HK2 := Lib.hid (show (ki == 2) = decide (kn = 2) from by rw [← hki, Bool.eq_iff_iff, beq_iff_eq, decide_eq_true_iff]; omega)
    clear hk1 hki hb3
    go_wp2_with fail
    generalize V3.alloc (.cells #[.int .i64 ki, .int .i64 0, .int .u64 0, .int .i64 0, .slice none 0 0, .slice none 0 0, .int .i64 0, .int .u64 0, .int .u64 0, .slice none 0 0] 31) = V4 at *
    have HQP := Lib.hid (show q < V3.heap.size from HQ3.out)
    have HDP := Lib.hid (show ∀ k, d = some k → k ≠ V3.heap.size from fun k e => Nat.ne_of_lt (HD3.out k e))
    generalize V3.heap.size = pb at *
    have HPQ := Lib.hid (show pb ≠ q from fun e => by have := HQP.out; omega)
    clear x0 x1 x2 x3 x4 x5 x6 x7 x8 x9
    refine (iproc_any q d s1 V4 I4.out).mono ?_
    rintro e V31 ⟨rfl, hI, ho⟩
    have R31 := Lib.hid (R4.out.only ho.out HPQ.out)
    have Zr31 := Lib.hid (Zr4.out.only ho.out (Nat.ne_of_lt HRQ.out))
    have B31 := Lib.hid (ho.out.below B4.out (fun j hj => by rw [hj]; exact Nat.le_of_lt HRQ.out) B4.out.size)
    have I31 := Lib.hid hI.out
    clear R4 Zr4 B4 I4 ho hI
    obtain ⟨⟨⟨n1, n2⟩, s2⟩, hg⟩ : ∃ y, gotL s1 = y := ⟨_, rfl⟩
    rw [hg] at I31 ⊢
    simp only [lifeV] at I31 ⊢
    have HG := Lib.hid hg
    have HLE2 := Lib.hid (show s2.l.length ≤ 1048576 from by have := gotL_le s1; rw [hg] at this; simp only at this; have := HLE.out; omega)
    have HPN := Lib.hid (show 0 ≤ n2 from by have := gotL_pos s1; rw [hg] at this; exact this)
    clear hg
    obtain ⟨u0, u1, u2, u3, u4, u5, u6, u7, u8, u9⟩ := R31.out.cells
    obtain ⟨p0, p1, p2, p3, p4, p5, p6, p7, p8, p9⟩ := R31.out.thaw
    have hs := only_s12 V31 pb (.int .i64 n1) (.int .u64 n2)
    have R32 := Lib.hid (R31.out.s12 (.int .i64 n1) (.int .u64 n2))
    have Zr32 := Lib.hid (Zr31.out.only hs (by have := HRQ.out; have := HQP.out; omega))
    have B32 := Lib.hid (hs.below B31.out (fun j hj => by have := HRQ.out; have := HQP.out; omega) B31.out.size)
    have I32 := Lib.hid (I31.out.keep hs (fun e => HPQ.out e.symm) (fun k e e2 => HDP.out k e e2))
    clear hs R31 Zr31 B31 I31
    go_wp2_with fail
    generalize ((V31.setCell ⟨pb, 1, none⟩ (.int .i64 n1)).setCell ⟨pb, 2, none⟩ (.int .u64 n2)) = V32 at *
    clear u0 u1 u2 u3 u4 u5 u6 u7 u8 u9 p0 p1 p2 p3 p4 p5 p6 p7 p8 p9
    refine (iu8_any q d s2 V32 I32.out).mono ?_
    rintro e V33 ⟨rfl, hI, ho⟩
    have R33 := Lib.hid (R32.out.only ho.out HPQ.out)
    have Zr33 := Lib.hid (Zr32.out.only ho.out (Nat.ne_of_lt HRQ.out))
    have B33 := Lib.hid (ho.out.below B32.out (fun j hj => by rw [hj]; exact Nat.le_of_lt HRQ.out) B32.out.size)
    have I33 := Lib.hid hI.out
    clear R32 Zr32 B32 I32 ho hI
    obtain ⟨⟨hn, s3⟩, hu⟩ : ∃ y, rWide s2 1 = y := ⟨_, rfl⟩
    rw [hu] at I33 ⊢
    simp only at I33 ⊢
    have HU := Lib.hid hu
    have HLE3 := Lib.hid (show s3.l.length ≤ 1048576 from by have := rWide_le s2 1; rw [hu] at this; simp only at this; have := HLE2.out; omega)
    clear hu
    obtain ⟨u0, u1, u2, u3, u4, u5, u6, u7, u8, u9⟩ := R33.out.cells
    obtain ⟨p0, p1, p2, p3, p4, p5, p6, p7, p8, p9⟩ := R33.out.thaw
    have hs := only_s3 V33 pb (.int .i64 (hn : Int))
    have R34 := Lib.hid (R33.out.s3 (.int .i64 (hn : Int)))
    have Zr34 := Lib.hid (Zr33.out.only hs (by have := HRQ.out; have := HQP.out; omega))
    have B34 := Lib.hid (hs.below B33.out (fun j hj => by have := HRQ.out; have := HQP.out; omega) B33.out.size)
    have I34 := Lib.hid (I33.out.keep hs (fun e => HPQ.out e.symm) (fun k e e2 => HDP.out k e e2))
    clear hs R33 Zr33 B33 I33
    go_wp2_with fail
    generalize (V33.setCell ⟨pb, 3, none⟩ (.int .i64 (hn : Int))) = V34 at *
    clear u0 u1 u2 u3 u4 u5 u6 u7 u8 u9 p0 p1 p2 p3 p4 p5 p6 p7 p8 p9
    refine (iu8_any q d s3 V34 I34.out).mono ?_
    rintro e V35 ⟨rfl, hI, ho⟩
    have R35 := Lib.hid (R34.out.only ho.out HPQ.out)
    have Zr35 := Lib.hid (Zr34.out.only ho.out (Nat.ne_of_lt HRQ.out))
    have B35 := Lib.hid (ho.out.below B34.out (fun j hj => by rw [hj]; exact Nat.le_of_lt HRQ.out) B34.out.size)
    have I35 := Lib.hid hI.out
    clear R34 Zr34 B34 I34 ho hI
    obtain ⟨⟨nn, s4⟩, hu⟩ : ∃ y, rWide s3 1 = y := ⟨_, rfl⟩
    rw [hu] at I35 ⊢
    simp only at I35 ⊢
    have HN4 := Lib.hid hu
    have HLE4 := Lib.hid (show s4.l.length ≤ 1048576 from by have := rWide_le s3 1; rw [hu] at this; simp only at this; have := HLE3.out; omega)
    have hnn : nn < 256 := by have := rWide_lt s3 1; rw [hu] at this; simpa using this
    clear hu
    have HPV := Lib.hid R35.out.lt
    go_wp2
    go_loopw [7] (fun i wr => ∃ (j : Nat) (Hj : Option Addr) (chj : Nat), j ≤ nn ∧ i = .int .i64 ((j : Nat) : Int) ∧ Hid (Row10 pb (.int .i64 ki) (.int .i64 n1) (.int .u64 n2) (.int .i64 (hn : Int)) (.slice Hj j chj) (.slice none 0 0) (.int .i64 0) (.int .u64 0) (.int .u64 0) (.slice none 0 0) 31 wr) ∧ Hid (OwnH wr V35.heap.size Hj j chj (getHs b3 j s4).1) ∧ Hid (InR wr q d (getHs b3 j s4).2) ∧ Hid (Only (fun m => m = q ∨ m = pb) V35 wr)) (fun i _ => nn - (intOf i).toNat)
    case atStart => exact ⟨0, none, 0, Nat.zero_le _, rfl, R35, Lib.hid OwnH.nil_, I35, Lib.hid (Only.refl _ _)⟩
    case round =>
      obtain ⟨j, Hj, chj, hj, rfl, Rr, ho2, r2, o2⟩ := hrel
      clear R35 I35
      have hqlt := Lib.hid r2.out.lt
      have hdlt := Lib.hid r2.out.dlt
      have c1 := r2.out.bad_cell
      have f1 := r2.out.thaw 1
      by_cases hlt : j < nn
      · have g1 : (j : Int) < (nn : Int) := by omega
        cases hb : (getHs b3 j s4).2.bad with
        | true =>
          rw [hb] at c1
          obtain ⟨x0, x1, x2, x3, x4, x5, x6, x7, x8, x9⟩ := Rr.out.cells
          have HNO := Lib.hid (readK_bad2 (show (rawK ⟨l, false⟩).2.bad = true from by rw [HRW.out, if_neg HK1.out]; exact rawB_bad HG.out HU.out HN4.out HB3.out (getHs_bad b3 s4 hb (Nat.le_of_lt hlt))))
          have HLE5 := Lib.hid (Nat.le_trans (getHs_le b3 j s4) HLE4.out)
          have HBJ := Lib.hid hb
          have HPW := Lib.hid Rr.out.lt
          clear hb
          generalize getHs b3 j s4 = gj at *
          obtain ⟨hs, s5⟩ := gj
          simp only at HLE5 HBJ ho2 r2
          have Zr36 := Lib.hid (Zr35.out.only o2.out (by have := HRQ.out; have := HQP.out; omega))
          have B36 := Lib.hid (o2.out.below B35.out (fun j hj => by have := HRQ.out; have := HQP.out; omega) B35.out.size)
          have LH36 := Lib.hid (ho2.out.lower (base' := pb + 1) HPV.out)
          have R36 := Rr
          have I36 := r2
          clear Rr r2 o2 ho2 Zr35 B35
          cases hk2 : decide (kn = 2) with
          | true =>
            have h2 := HK2.out
            rw [hk2] at h2
            have K2 := Lib.hid (of_decide_eq_true hk2)
            clear hk2
            go_wp2_with fail
            clear c1 f1 x0 x1 x2 x3 x4 x5 x6 x7 x8 x9
            refine (show Calls Try.prog 44 #[.pointer (some ⟨q, 0, none⟩), .int .i64 320] wr (ITe q d s5 320 wr) from itext_any q d s5 320 (by omega) wr I36.out (by have := HLE5.out; omega)).mono ?_
            rintro e V37 ⟨A1, cb, rfl, hp, hI, ho⟩
            have R37 := Lib.hid (R36.out.only ho.out HPQ.out)
            have Zr37 := Lib.hid (Zr36.out.only ho.out (Nat.ne_of_lt HRQ.out))
            have B37 := Lib.hid (ho.out.below B36.out (fun j hj => by rw [hj]; exact Nat.le_of_lt HRQ.out) B36.out.size)
            have LH37 := Lib.hid (LH36.out.keep ho.out (fun j e e2 => by have := ownH_base LH36.out j e; have := HQP.out; omega))
            have I37 := Lib.hid hI.out
            clear R36 Zr36 B36 I36 ho hI LH36
            have LE37 := Lib.hid (hp.out.lower (base' := pb + 1) HPW.out)
            clear hp
            obtain ⟨⟨bd, s6⟩, hgt⟩ : ∃ y, rText s5 320 = y := ⟨_, rfl⟩
            change Hid (Own8 _ _ A1 (rText s5 320).1.length cb (rText s5 320).1) at LE37
            change Hid (InR _ q d (rText s5 320).2) at I37
            rw [show rText s5 ((320 : Nat) : Int) = rText s5 320 from rfl]
            rw [hgt] at LE37 I37 ⊢
            simp only at LE37 I37 ⊢
            have HGT := Lib.hid hgt
            have hbl : bd.length ≤ 320 := rText_small hgt
            generalize hnb : bd.length = nb at *
            clear hgt
            have HPOS : Hid (∀ p ∈ ([] : List Life), 0 ≤ p.2) := Lib.hid (by simp)
            have HTY := Lib.hid (show 0 ≤ n2 ∧ 0 ≤ (0 : Int) ∧ j ≤ 1000 ∧ 0 ≤ 300 from ⟨HPN.out, by omega, by omega, by omega⟩)
            clear hnb hbl
            obtain ⟨u0, u1, u2, u3, u4, u5, u6, u7, u8, u9⟩ := R37.out.cells
            obtain ⟨p0, p1, p2, p3, p4, p5, p6, p7, p8, p9⟩ := R37.out.thaw
            have hs := only_s5 V37 pb (.slice A1 nb cb)
            have R38 := Lib.hid (R37.out.s5 (.slice A1 nb cb))
            have Zr38 := Lib.hid (Zr37.out.only hs (by have := HRQ.out; have := HQP.out; omega))
            have B38 := Lib.hid (hs.below B37.out (fun j hj => by have := HRQ.out; have := HQP.out; omega) B37.out.size)
            have I38 := Lib.hid (I37.out.keep hs (fun e => HPQ.out e.symm) (fun k e e2 => HDP.out k e e2))
            have LH38 := Lib.hid (LH37.out.keep hs (fun j e e2 => by have := ownH_base LH37.out j e; omega))
            have LE38 := Lib.hid (LE37.out.keep hs (fun j e e2 => by have := (Own8.lt LE37.out e).1; omega))
            clear hs R37 Zr37 B37 I37 LH37 LE37
            have LP38 := Lib.hid (OwnP.nil_ (w := (V37.setCell ⟨pb, 5, none⟩ (.slice A1 nb cb))) (base := pb + 1))
            have HBK : Hid (s6.bad = true) := Lib.hid (by have h := rText_bad (m := 320) HBJ.out; rw [show ((320 : Nat) : Int) = 320 from rfl, HGT.out] at h; exact h)
            have HB1 := Lib.hid (fun _ : s6.bad = true => HNO.out)
            go_wp2_with fail
            generalize (V37.setCell ⟨pb, 5, none⟩ (.slice A1 nb cb)) = V38 at *
            clear u0 u1 u2 u3 u4 u5 u6 u7 u8 u9 p0 p1 p2 p3 p4 p5 p6 p7 p8 p9
            have D0 : Hid (Below V38.heap.size V38 V38.drew) := Lib.hid ⟨rfl, rfl, rfl, Nat.le_refl _, fun _ _ => rfl⟩
            have RD : Hid (Row10 pb (.int .i64 ki) (.int .i64 n1) (.int .u64 n2) (.int .i64 (hn : Int)) (.slice Hj j chj) (.slice A1 nb cb) (.int .i64 0) (.int .u64 0) (.int .u64 0) (.slice none 0 0) 31 V38.drew) := R38
            have ZD : Hid (Row10 w.heap.size (.int .i64 0) (.int .i64 0) (.int .u64 0) (.int .i64 0) (.slice none 0 0) (.slice none 0 0) (.int .i64 0) (.int .u64 0) (.int .u64 0) (.slice none 0 0) 31 V38.drew) := Zr38
            have ID : Hid (InR V38.drew q d s6) := I38
            have BD : Hid (Below w.heap.size w V38.drew) := Lib.hid (ktr B38.out D0.out)
            have HD : Hid (OwnH V38.drew (w.heap.size + 1) (Hj) (j) (chj) (hs)) := Lib.hid (LH38.out.lower (by have := HRQ.out; have := HQP.out; omega))
            have ED : Hid (Own8 V38.drew (w.heap.size + 1) (A1) (nb) (cb) (bd)) := Lib.hid (LE38.out.lower (by have := HRQ.out; have := HQP.out; omega))
            have PD : Hid (OwnP V38.drew (w.heap.size + 1) (none) (0) (0) ([])) := Lib.hid (LP38.out.lower (by have := HRQ.out; have := HQP.out; omega))
            clear R38 Zr38 I38 B38 LH38 LE38 LP38
            have HBV := HBK
            have HN0 := Lib.hid (HB1.out HBV.out)
            refine region_steps (n := 98) (KRdA q) (by kernel_rfl) (by kernel_rfl) rfl (fun _ _ _ _ hb h => KRdA.mono hb h) ?_ ?_
            · refine And.intro ?_ (And.intro ?_ (And.intro ?_ (And.intro ?_ (And.intro ?_ (And.intro ?_ (And.intro ?_ (And.intro ?_ (And.intro ?_ (And.intro ?_ (And.intro ?_ (And.intro ?_ (And.intro ?_ (And.intro ?_ (And.intro ?_ (And.intro ?_ (And.intro ?_ (True.intro)))))))))))))))))
              · intro listed a' w' hw hd K hK
                refine step_free rfl ?_
                apply wp_move
                exact hK _ _ (Below.refl _ _) (fun s hs => by cases hs; exact hw.kept 4 (by kernel_rfl))
              · intro listed a' w' hw hd K hK
                have hv79 : a'.tmps.getD 79 undef = .pointer (some ⟨q, 0, none⟩) := (hw.at_ 0 79 rfl (hd ⟨0, .data⟩ (by simp) rfl))
                refine step_free rfl ?_
                unfold Oper.wp
                simp only [execOp]
                go_simp
                exact hK _ _ (Below.refl _ _) (fun s hs => by cases hs; rfl)
              · intro listed a' w' hw hd K hK
                have hv80 : a'.tmps.getD 80 undef = .pointer (some ⟨q, 0, none⟩) := (hw.at_ 1 80 rfl (hd ⟨1, .data⟩ (by simp) rfl))
                refine step_free rfl ?_
                unfold Oper.wp
                simp only [execOp]
                go_simp
                exact hK _ _ (Below.refl _ _) (fun s hs => by cases hs; rfl)
              · intro listed a' w' hw hd K hK
                have hv81 : a'.tmps.getD 81 undef = .pointer (some ⟨q, 1, none⟩) := (hw.at_ 2 81 rfl (hd ⟨2, .data⟩ (by simp) rfl))
                have c1 := (ID.out.keep (S := fun _ => False) (Only.ofBelow hw.below) (fun h => h) (fun _ _ h => h)).bad_cell
                rw [HBV.out] at c1
                refine step_free rfl ?_
                unfold Oper.wp
                simp only [execOp]
                go_simp
                exact hK _ _ (Below.refl _ _) (fun s hs => by cases hs; rfl)
              · intro listed a' w' hw hd K hK
                refine step_free rfl ?_
                apply wp_move
                exact hK _ _ (Below.refl _ _) (fun s hs => by cases hs; exact (hw.at_ 3 82 rfl (hd ⟨3, .data⟩ (by simp) rfl)))
              · intro listed a' w' hw hd K hK
                have hgd : a'.tmps.getD 83 undef = .bool true := (hw.at_ 4 83 rfl (hd ⟨4, .guard⟩ (by simp) rfl))
                refine step_unwanted (j := 4) (b := false) (s := 83) rfl rfl (by rw [hgd]; exact fun h => by cases h) ?_
                exact hK _ _ (Below.refl _ _) (fun s hs => by cases hs; rfl)
              · intro listed a' w' hw hd K hK
                have hgd : a'.tmps.getD 83 undef = .bool true := (hw.at_ 4 83 rfl (hd ⟨4, .guard⟩ (by simp) rfl))
                refine step_unwanted (j := 4) (b := false) (s := 83) rfl rfl (by rw [hgd]; exact fun h => by cases h) ?_
                exact hK _ _ (Below.refl _ _) (fun s hs => by cases hs; rfl)
              · intro listed a' w' hw hd K hK
                have hgd : a'.tmps.getD 83 undef = .bool true := (hw.at_ 4 83 rfl (hd ⟨4, .guard⟩ (by simp) rfl))
                refine step_unwanted (j := 4) (b := false) (s := 83) rfl rfl (by rw [hgd]; exact fun h => by cases h) ?_
                exact hK _ _ (Below.refl _ _) (fun s hs => by cases hs; rfl)
              · intro listed a' w' hw hd K hK
                have hv83 : a'.tmps.getD 83 undef = .bool true := (hw.at_ 4 83 rfl (hd ⟨4, .data⟩ (by simp) rfl))
                have hv86 : a'.tmps.getD 86 undef = undef := (hw.at_ 7 86 rfl (hd ⟨7, .data⟩ (by simp) rfl))
                refine step_free rfl ?_
                unfold Oper.wp
                simp only [execOp]
                go_simp
                exact hK _ _ (Below.refl _ _) (fun s hs => by cases hs; rfl)
              · intro listed a' w' hw hd K hK
                refine step_free rfl ?_
                apply wp_move
                exact hK _ _ (Below.refl _ _) (fun s hs => by cases hs; exact (hw.at_ 8 87 rfl (hd ⟨8, .data⟩ (by simp) rfl)))
              · intro listed a' w' hw hd K hK
                have hgd : a'.tmps.getD 88 undef = .bool true := (hw.at_ 9 88 rfl (hd ⟨9, .guard⟩ (by simp) rfl))
                refine step_unwanted (j := 9) (b := false) (s := 88) rfl rfl (by rw [hgd]; exact fun h => by cases h) ?_
                exact hK _ _ (Below.refl _ _) (fun s hs => by cases hs; rfl)
              · intro listed a' w' hw hd K hK
                have hgd : a'.tmps.getD 88 undef = .bool true := (hw.at_ 9 88 rfl (hd ⟨9, .guard⟩ (by simp) rfl))
                refine step_unwanted (j := 9) (b := false) (s := 88) rfl rfl (by rw [hgd]; exact fun h => by cases h) ?_
                exact hK _ _ (Below.refl _ _) (fun s hs => by cases hs; rfl)
              · intro listed a' w' hw hd K hK
                have hgd : a'.tmps.getD 88 undef = .bool true := (hw.at_ 9 88 rfl (hd ⟨9, .guard⟩ (by simp) rfl))
                refine step_unwanted (j := 9) (b := false) (s := 88) rfl rfl (by rw [hgd]; exact fun h => by cases h) ?_
                exact hK _ _ (Below.refl _ _) (fun s hs => by cases hs; rfl)
              · intro listed a' w' hw hd K hK
                have hgd : a'.tmps.getD 88 undef = .bool true := (hw.at_ 9 88 rfl (hd ⟨9, .guard⟩ (by simp) rfl))
                refine step_unwanted (j := 9) (b := false) (s := 88) rfl rfl (by rw [hgd]; exact fun h => by cases h) ?_
                exact hK _ _ (Below.refl _ _) (fun s hs => by cases hs; rfl)
              · intro listed a' w' hw hd K hK
                have hgd : a'.tmps.getD 88 undef = .bool true := (hw.at_ 9 88 rfl (hd ⟨9, .guard⟩ (by simp) rfl))
                refine step_unwanted (j := 9) (b := false) (s := 88) rfl rfl (by rw [hgd]; exact fun h => by cases h) ?_
                exact hK _ _ (Below.refl _ _) (fun s hs => by cases hs; rfl)
              · intro listed a' w' hw hd K hK
                have hgd : a'.tmps.getD 88 undef = .bool true := (hw.at_ 9 88 rfl (hd ⟨9, .guard⟩ (by simp) rfl))
                refine step_unwanted (j := 9) (b := false) (s := 88) rfl rfl (by rw [hgd]; exact fun h => by cases h) ?_
                exact hK _ _ (Below.refl _ _) (fun s hs => by cases hs; rfl)
              · intro listed a' w' hw hd K hK
                have hv88 : a'.tmps.getD 88 undef = .bool true := (hw.at_ 9 88 rfl (hd ⟨9, .data⟩ (by simp) rfl))
                have hv94 : a'.tmps.getD 94 undef = undef := (hw.at_ 15 94 rfl (hd ⟨15, .data⟩ (by simp) rfl))
                refine step_free rfl ?_
                unfold Oper.wp
                simp only [execOp]
                go_simp
                exact hK _ _ (Below.refl _ _) (fun s hs => by cases hs; rfl)
            · intro listed a' w' hw hall
              have hk95 : a'.tmps.getD 95 undef = .bool true := hw.at_ 16 95 rfl (hall 16 (Nat.lt_of_lt_of_eq (show 16 < 17 by omega) rfl))
              have R9 := Lib.hid (RD.out.below hw.below)
              have Z9 := Lib.hid (ZD.out.below hw.below)
              have B9 := Lib.hid (ktr BD.out hw.below)
              have H9 := Lib.hid (HD.out.on hw.below)
              have E9 := Lib.hid (own8_on ED.out hw.below)
              have P9 := Lib.hid (PD.out.on hw.below)
              have hp := hw.puts [79, 80, 81, 82, 83, 84, 85, 86, 87, 88, 89, 90, 91, 92, 93, 94, 95] (by kernel_rfl)
              clear hw hall
              rw [hp]
              simp only [List.foldl_cons, List.foldl_nil, hk95]
              generalize a'.tmps.getD 79 undef = u79
              generalize a'.tmps.getD 80 undef = u80
              generalize a'.tmps.getD 81 undef = u81
              generalize a'.tmps.getD 82 undef = u82
              generalize a'.tmps.getD 83 undef = u83
              generalize a'.tmps.getD 84 undef = u84
              generalize a'.tmps.getD 85 undef = u85
              generalize a'.tmps.getD 86 undef = u86
              generalize a'.tmps.getD 87 undef = u87
              generalize a'.tmps.getD 88 undef = u88
              generalize a'.tmps.getD 89 undef = u89
              generalize a'.tmps.getD 90 undef = u90
              generalize a'.tmps.getD 91 undef = u91
              generalize a'.tmps.getD 92 undef = u92
              generalize a'.tmps.getD 93 undef = u93
              generalize a'.tmps.getD 94 undef = u94
              clear hp hk95
              simp only [Act.put, List.setIfInBounds_toArray, List.set_cons_succ, List.set_cons_zero]
              obtain ⟨y0, y1, y2, y3, y4, y5, y6, y7, y8, y9⟩ := Z9.out.cells
              obtain ⟨g0, g1, g2, g3, g4, g5, g6, g7, g8, g9⟩ := Z9.out.thaw
              have F1 := Lib.hid (Z9.out.all (.int .i64 0) (.int .i64 0) (.int .u64 0) (.int .i64 0) (.slice none 0 0) (.slice none 0 0) (.int .i64 0) (.int .u64 0) (.int .u64 0) (.slice none 0 0))
              have F2 := Lib.hid ((only_all w' w.heap.size (.int .i64 0) (.int .i64 0) (.int .u64 0) (.int .i64 0) (.slice none 0 0) (.slice none 0 0) (.int .i64 0) (.int .u64 0) (.int .u64 0) (.slice none 0 0)).below B9.out (fun j hj => by omega) B9.out.size)
              clear Z9 B9 R9 H9 E9 P9
              go_wp2
              refine bodyPost_ret (results_row_tmp rfl _ _ w.heap.size 31 #[.int .i64 0, .int .i64 0, .int .u64 0, .int .i64 0, .slice none 0 0, .slice none 0 0, .int .i64 0, .int .u64 0, .int .u64 0, .slice none 0 0] (0, 0) _ rfl F1.out Try.underlying31 rfl (by kernel_rfl)) rfl ?_
              exact readE_none HN0.out F2
          | false =>
            have h2 := HK2.out
            rw [hk2] at h2
            have K2 := Lib.hid (of_decide_eq_false hk2)
            clear hk2
            have LE36 := Lib.hid (Own8.nil_ (w := wr) (base := pb + 1))
            have LP36 := Lib.hid (OwnP.nil_ (w := wr) (base := pb + 1))
            have HPOS : Hid (∀ p ∈ ([] : List Life), 0 ≤ p.2) := Lib.hid (by simp)
            have HTY := Lib.hid (show 0 ≤ n2 ∧ 0 ≤ (0 : Int) ∧ j ≤ 1000 ∧ 0 ≤ 300 from ⟨HPN.out, by omega, by omega, by omega⟩)
            have HBK := HBJ
            have HB1 := Lib.hid (fun _ : s5.bad = true => HNO.out)
            go_wp2_with fail
            clear c1 f1 x0 x1 x2 x3 x4 x5 x6 x7 x8 x9
            have D0 : Hid (Below wr.heap.size wr wr.drew) := Lib.hid ⟨rfl, rfl, rfl, Nat.le_refl _, fun _ _ => rfl⟩
            have RD : Hid (Row10 pb (.int .i64 ki) (.int .i64 n1) (.int .u64 n2) (.int .i64 (hn : Int)) (.slice Hj j chj) (.slice none 0 0) (.int .i64 0) (.int .u64 0) (.int .u64 0) (.slice none 0 0) 31 wr.drew) := R36
            have ZD : Hid (Row10 w.heap.size (.int .i64 0) (.int .i64 0) (.int .u64 0) (.int .i64 0) (.slice none 0 0) (.slice none 0 0) (.int .i64 0) (.int .u64 0) (.int .u64 0) (.slice none 0 0) 31 wr.drew) := Zr36
            have ID : Hid (InR wr.drew q d s5) := I36
            have BD : Hid (Below w.heap.size w wr.drew) := Lib.hid (ktr B36.out D0.out)
            have HD : Hid (OwnH wr.drew (w.heap.size + 1) (Hj) (j) (chj) (hs)) := Lib.hid (LH36.out.lower (by have := HRQ.out; have := HQP.out; omega))
            have ED : Hid (Own8 wr.drew (w.heap.size + 1) (none) (0) (0) ([])) := Lib.hid (LE36.out.lower (by have := HRQ.out; have := HQP.out; omega))
            have PD : Hid (OwnP wr.drew (w.heap.size + 1) (none) (0) (0) ([])) := Lib.hid (LP36.out.lower (by have := HRQ.out; have := HQP.out; omega))
            clear R36 Zr36 I36 B36 LH36 LE36 LP36
            have HBV := HBK
            have HN0 := Lib.hid (HB1.out HBV.out)
            refine region_steps (n := 98) (KRdA q) (by kernel_rfl) (by kernel_rfl) rfl (fun _ _ _ _ hb h => KRdA.mono hb h) ?_ ?_
            · refine And.intro ?_ (And.intro ?_ (And.intro ?_ (And.intro ?_ (And.intro ?_ (And.intro ?_ (And.intro ?_ (And.intro ?_ (And.intro ?_ (And.intro ?_ (And.intro ?_ (And.intro ?_ (And.intro ?_ (And.intro ?_ (And.intro ?_ (And.intro ?_ (And.intro ?_ (True.intro)))))))))))))))))
              · intro listed a' w' hw hd K hK
                refine step_free rfl ?_
                apply wp_move
                exact hK _ _ (Below.refl _ _) (fun s hs => by cases hs; exact hw.kept 4 (by kernel_rfl))
              · intro listed a' w' hw hd K hK
                have hv79 : a'.tmps.getD 79 undef = .pointer (some ⟨q, 0, none⟩) := (hw.at_ 0 79 rfl (hd ⟨0, .data⟩ (by simp) rfl))
                refine step_free rfl ?_
                unfold Oper.wp
                simp only [execOp]
                go_simp
                exact hK _ _ (Below.refl _ _) (fun s hs => by cases hs; rfl)
              · intro listed a' w' hw hd K hK
                have hv80 : a'.tmps.getD 80 undef = .pointer (some ⟨q, 0, none⟩) := (hw.at_ 1 80 rfl (hd ⟨1, .data⟩ (by simp) rfl))
                refine step_free rfl ?_
                unfold Oper.wp
                simp only [execOp]
                go_simp
                exact hK _ _ (Below.refl _ _) (fun s hs => by cases hs; rfl)
              · intro listed a' w' hw hd K hK
                have hv81 : a'.tmps.getD 81 undef = .pointer (some ⟨q, 1, none⟩) := (hw.at_ 2 81 rfl (hd ⟨2, .data⟩ (by simp) rfl))
                have c1 := (ID.out.keep (S := fun _ => False) (Only.ofBelow hw.below) (fun h => h) (fun _ _ h => h)).bad_cell
                rw [HBV.out] at c1
                refine step_free rfl ?_
                unfold Oper.wp
                simp only [execOp]
                go_simp
                exact hK _ _ (Below.refl _ _) (fun s hs => by cases hs; rfl)
              · intro listed a' w' hw hd K hK
                refine step_free rfl ?_
                apply wp_move
                exact hK _ _ (Below.refl _ _) (fun s hs => by cases hs; exact (hw.at_ 3 82 rfl (hd ⟨3, .data⟩ (by simp) rfl)))
              · intro listed a' w' hw hd K hK
                have hgd : a'.tmps.getD 83 undef = .bool true := (hw.at_ 4 83 rfl (hd ⟨4, .guard⟩ (by simp) rfl))
                refine step_unwanted (j := 4) (b := false) (s := 83) rfl rfl (by rw [hgd]; exact fun h => by cases h) ?_
                exact hK _ _ (Below.refl _ _) (fun s hs => by cases hs; rfl)
              · intro listed a' w' hw hd K hK
                have hgd : a'.tmps.getD 83 undef = .bool true := (hw.at_ 4 83 rfl (hd ⟨4, .guard⟩ (by simp) rfl))
                refine step_unwanted (j := 4) (b := false) (s := 83) rfl rfl (by rw [hgd]; exact fun h => by cases h) ?_
                exact hK _ _ (Below.refl _ _) (fun s hs => by cases hs; rfl)
              · intro listed a' w' hw hd K hK
                have hgd : a'.tmps.getD 83 undef = .bool true := (hw.at_ 4 83 rfl (hd ⟨4, .guard⟩ (by simp) rfl))
                refine step_unwanted (j := 4) (b := false) (s := 83) rfl rfl (by rw [hgd]; exact fun h => by cases h) ?_
                exact hK _ _ (Below.refl _ _) (fun s hs => by cases hs; rfl)
              · intro listed a' w' hw hd K hK
                have hv83 : a'.tmps.getD 83 undef = .bool true := (hw.at_ 4 83 rfl (hd ⟨4, .data⟩ (by simp) rfl))
                have hv86 : a'.tmps.getD 86 undef = undef := (hw.at_ 7 86 rfl (hd ⟨7, .data⟩ (by simp) rfl))
                refine step_free rfl ?_
                unfold Oper.wp
                simp only [execOp]
                go_simp
                exact hK _ _ (Below.refl _ _) (fun s hs => by cases hs; rfl)
              · intro listed a' w' hw hd K hK
                refine step_free rfl ?_
                apply wp_move
                exact hK _ _ (Below.refl _ _) (fun s hs => by cases hs; exact (hw.at_ 8 87 rfl (hd ⟨8, .data⟩ (by simp) rfl)))
              · intro listed a' w' hw hd K hK
                have hgd : a'.tmps.getD 88 undef = .bool true := (hw.at_ 9 88 rfl (hd ⟨9, .guard⟩ (by simp) rfl))
                refine step_unwanted (j := 9) (b := false) (s := 88) rfl rfl (by rw [hgd]; exact fun h => by cases h) ?_
                exact hK _ _ (Below.refl _ _) (fun s hs => by cases hs; rfl)
              · intro listed a' w' hw hd K hK
                have hgd : a'.tmps.getD 88 undef = .bool true := (hw.at_ 9 88 rfl (hd ⟨9, .guard⟩ (by simp) rfl))
                refine step_unwanted (j := 9) (b := false) (s := 88) rfl rfl (by rw [hgd]; exact fun h => by cases h) ?_
                exact hK _ _ (Below.refl _ _) (fun s hs => by cases hs; rfl)
              · intro listed a' w' hw hd K hK
                have hgd : a'.tmps.getD 88 undef = .bool true := (hw.at_ 9 88 rfl (hd ⟨9, .guard⟩ (by simp) rfl))
                refine step_unwanted (j := 9) (b := false) (s := 88) rfl rfl (by rw [hgd]; exact fun h => by cases h) ?_
                exact hK _ _ (Below.refl _ _) (fun s hs => by cases hs; rfl)
              · intro listed a' w' hw hd K hK
                have hgd : a'.tmps.getD 88 undef = .bool true := (hw.at_ 9 88 rfl (hd ⟨9, .guard⟩ (by simp) rfl))
                refine step_unwanted (j := 9) (b := false) (s := 88) rfl rfl (by rw [hgd]; exact fun h => by cases h) ?_
                exact hK _ _ (Below.refl _ _) (fun s hs => by cases hs; rfl)
              · intro listed a' w' hw hd K hK
                have hgd : a'.tmps.getD 88 undef = .bool true := (hw.at_ 9 88 rfl (hd ⟨9, .guard⟩ (by simp) rfl))
                refine step_unwanted (j := 9) (b := false) (s := 88) rfl rfl (by rw [hgd]; exact fun h => by cases h) ?_
                exact hK _ _ (Below.refl _ _) (fun s hs => by cases hs; rfl)
              · intro listed a' w' hw hd K hK
                have hgd : a'.tmps.getD 88 undef = .bool true := (hw.at_ 9 88 rfl (hd ⟨9, .guard⟩ (by simp) rfl))
                refine step_unwanted (j := 9) (b := false) (s := 88) rfl rfl (by rw [hgd]; exact fun h => by cases h) ?_
                exact hK _ _ (Below.refl _ _) (fun s hs => by cases hs; rfl)
              · intro listed a' w' hw hd K hK
                have hv88 : a'.tmps.getD 88 undef = .bool true := (hw.at_ 9 88 rfl (hd ⟨9, .data⟩ (by simp) rfl))
                have hv94 : a'.tmps.getD 94 undef = undef := (hw.at_ 15 94 rfl (hd ⟨15, .data⟩ (by simp) rfl))
                refine step_free rfl ?_
                unfold Oper.wp
                simp only [execOp]
                go_simp
                exact hK _ _ (Below.refl _ _) (fun s hs => by cases hs; rfl)
            · intro listed a' w' hw hall
              have hk95 : a'.tmps.getD 95 undef = .bool true := hw.at_ 16 95 rfl (hall 16 (Nat.lt_of_lt_of_eq (show 16 < 17 by omega) rfl))
              have R9 := Lib.hid (RD.out.below hw.below)
              have Z9 := Lib.hid (ZD.out.below hw.below)
              have B9 := Lib.hid (ktr BD.out hw.below)
              have H9 := Lib.hid (HD.out.on hw.below)
              have E9 := Lib.hid (own8_on ED.out hw.below)
              have P9 := Lib.hid (PD.out.on hw.below)
              have hp := hw.puts [79, 80, 81, 82, 83, 84, 85, 86, 87, 88, 89, 90, 91, 92, 93, 94, 95] (by kernel_rfl)
              clear hw hall
              rw [hp]
              simp only [List.foldl_cons, List.foldl_nil, hk95]
              generalize a'.tmps.getD 79 undef = u79
              generalize a'.tmps.getD 80 undef = u80
              generalize a'.tmps.getD 81 undef = u81
              generalize a'.tmps.getD 82 undef = u82
              generalize a'.tmps.getD 83 undef = u83
              generalize a'.tmps.getD 84 undef = u84
              generalize a'.tmps.getD 85 undef = u85
              generalize a'.tmps.getD 86 undef = u86
              generalize a'.tmps.getD 87 undef = u87
              generalize a'.tmps.getD 88 undef = u88
              generalize a'.tmps.getD 89 undef = u89
              generalize a'.tmps.getD 90 undef = u90
              generalize a'.tmps.getD 91 undef = u91
              generalize a'.tmps.getD 92 undef = u92
              generalize a'.tmps.getD 93 undef = u93
              generalize a'.tmps.getD 94 undef = u94
              clear hp hk95
              simp only [Act.put, List.setIfInBounds_toArray, List.set_cons_succ, List.set_cons_zero]
              obtain ⟨y0, y1, y2, y3, y4, y5, y6, y7, y8, y9⟩ := Z9.out.cells
              obtain ⟨g0, g1, g2, g3, g4, g5, g6, g7, g8, g9⟩ := Z9.out.thaw
              have F1 := Lib.hid (Z9.out.all (.int .i64 0) (.int .i64 0) (.int .u64 0) (.int .i64 0) (.slice none 0 0) (.slice none 0 0) (.int .i64 0) (.int .u64 0) (.int .u64 0) (.slice none 0 0))
              have F2 := Lib.hid ((only_all w' w.heap.size (.int .i64 0) (.int .i64 0) (.int .u64 0) (.int .i64 0) (.slice none 0 0) (.slice none 0 0) (.int .i64 0) (.int .u64 0) (.int .u64 0) (.slice none 0 0)).below B9.out (fun j hj => by omega) B9.out.size)
              clear Z9 B9 R9 H9 E9 P9
              go_wp2
              refine bodyPost_ret (results_row_tmp rfl _ _ w.heap.size 31 #[.int .i64 0, .int .i64 0, .int .u64 0, .int .i64 0, .slice none 0 0, .slice none 0 0, .int .i64 0, .int .u64 0, .int .u64 0, .slice none 0 0] (0, 0) _ rfl F1.out Try.underlying31 rfl (by kernel_rfl)) rfl ?_
              exact readE_none HN0.out F2
        | false =>
          obtain ⟨x0, x1, x2, x3, x4, x5, x6, x7, x8, x9⟩ := Rr.out.cells
          rw [hb] at c1
          clear hb
          have HVW := Lib.hid o2.out.size
          have HPW := Lib.hid Rr.out.lt
          have HGk := Lib.hid (show getHs b3 (j + 1) s4 = ((getHs b3 j s4).1 ++ [(getH b3 (getHs b3 j s4).2).1], (getH b3 (getHs b3 j s4).2).2) from rfl)
          generalize getHs b3 j s4 = gj at *
          obtain ⟨L, sj⟩ := gj
          simp only at HGk ho2 r2
          obtain ⟨⟨a, t1⟩, ha⟩ : ∃ y, rWide sj 1 = y := ⟨_, rfl⟩
          obtain ⟨⟨b, t2⟩, hb⟩ : ∃ y, rUint t1 = y := ⟨_, rfl⟩
          obtain ⟨⟨c, t3⟩, hc⟩ : ∃ y, rUint t2 = y := ⟨_, rfl⟩
          obtain ⟨⟨e4, t4⟩, hd4⟩ : ∃ y, rUint t3 = y := ⟨_, rfl⟩
          have HGH := Lib.hid (getH_eq b3 ha hb hc hd4)
          have HA1 := Lib.hid ha
          have HA2 := Lib.hid hb
          have HA3 := Lib.hid hc
          have HA4 := Lib.hid hd4
          clear ha hb hc hd4
          go_wp2_with fail
          clear c1 f1 x0 x1 x2 x3 x4 x5 x6 x7 x8 x9
          refine (iu8_any q d sj wr r2.out).mono ?_
          rintro e W1 ⟨rfl, r3, O1⟩
          rw [HA1.out] at r3 ⊢
          simp only at r3 ⊢
          have HHB := Lib.hid O1.out.size
          clear r2
          go_wp2_with fail
          have BX2 := Lib.hid (heap_alloc_new W1 (.cells #[.int .i64 (a : Int), .int .u64 0, .int .u64 0, .int .u64 0] 51))
          have hbx := kbelow_box W1 (.cells #[.int .i64 (a : Int), .int .u64 0, .int .u64 0, .int .u64 0] 51)
          have r4 := Lib.hid (r3.out.keep (S := fun _ => False) (Only.ofBelow hbx) (fun h => h) (fun _ _ h => h))
          have O2 := Lib.hid (O1.out.trans (Only.ofBelow (S := fun k => k = q) hbx) fun _ _ h => h)
          have HHL := Lib.hid (show W1.heap.size < (W1.alloc (.cells #[.int .i64 (a : Int), .int .u64 0, .int .u64 0, .int .u64 0] 51)).heap.size by simp)
          clear r3 O1 hbx
          generalize W1.alloc (.cells #[.int .i64 (a : Int), .int .u64 0, .int .u64 0, .int .u64 0] 51) = W2 at *
          generalize W1.heap.size = hb at *
          have HQH := Lib.hid (show q ≠ hb from fun e => by have := hqlt.out; have := HHB.out; omega)
          have HDH := Lib.hid (show ∀ k, d = some k → k ≠ hb from fun k e e2 => by have := hdlt.out k e; have := HHB.out; omega)
          refine (iuint_any q d t1 W2 r4.out).mono ?_
          rintro e W3 ⟨rfl, r5, O5⟩
          rw [HA2.out] at r5 ⊢
          simp only at r5 ⊢
          have BX3 := Lib.hid ((O5.out.block _ (lt_of_heap BX2.out) (fun e => HQH.out e.symm)).trans BX2.out)
          have O3 := Lib.hid (O2.out.trans O5.out fun _ _ h => h)
          clear BX2 r4 O2 O5
          have y0 := cell_plain BX3.out 0
          have g0 := frozen_plain BX3.out 0
          have y1 := cell_plain BX3.out 1
          have g1 := frozen_plain BX3.out 1
          have y2 := cell_plain BX3.out 2
          have g2 := frozen_plain BX3.out 2
          have y3 := cell_plain BX3.out 3
          have g3 := frozen_plain BX3.out 3
          simp only [List.getElem?_toArray, List.getElem?_cons_zero, List.getElem?_cons_succ] at y0 y1 y2 y3
          have BX2 := Lib.hid (show (W3.setCell ⟨hb, 1, none⟩ (.int .u64 (b : Int))).heap[hb]? = some (.cells #[.int .i64 (a : Int), .int .u64 (b : Int), .int .u64 0, .int .u64 0] 51 (0, 0)) from by have h := BX3.out; simp [World.setCell, Array.getElem?_modify, h])
          have r4 := Lib.hid (r5.out.keep (only_q W3 hb 1 (.int .u64 (b : Int))) HQH.out HDH.out)
          have O2 := Lib.hid (O3.out.trans (only_q W3 hb 1 (.int .u64 (b : Int))) fun k hk e => by have := HHB.out; omega)
          clear BX3 r5 O3
          go_wp2_with fail
          generalize (W3.setCell ⟨hb, 1, none⟩ (.int .u64 (b : Int))) = W4 at *
          clear y0 y1 y2 y3 g0 g1 g2 g3
          refine (iuint_any q d t2 W4 r4.out).mono ?_
          rintro e W5 ⟨rfl, r5, O5⟩
          rw [HA3.out] at r5 ⊢
          simp only at r5 ⊢
          have BX3 := Lib.hid ((O5.out.block _ (lt_of_heap BX2.out) (fun e => HQH.out e.symm)).trans BX2.out)
          have O3 := Lib.hid (O2.out.trans O5.out fun _ _ h => h)
          clear BX2 r4 O2 O5
          have y0 := cell_plain BX3.out 0
          have g0 := frozen_plain BX3.out 0
          have y1 := cell_plain BX3.out 1
          have g1 := frozen_plain BX3.out 1
          have y2 := cell_plain BX3.out 2
          have g2 := frozen_plain BX3.out 2
          have y3 := cell_plain BX3.out 3
          have g3 := frozen_plain BX3.out 3
          simp only [List.getElem?_toArray, List.getElem?_cons_zero, List.getElem?_cons_succ] at y0 y1 y2 y3
          have BX2 := Lib.hid (show (W5.setCell ⟨hb, 2, none⟩ (.int .u64 (c : Int))).heap[hb]? = some (.cells #[.int .i64 (a : Int), .int .u64 (b : Int), .int .u64 (c : Int), .int .u64 0] 51 (0, 0)) from by have h := BX3.out; simp [World.setCell, Array.getElem?_modify, h])
          have r4 := Lib.hid (r5.out.keep (only_q W5 hb 2 (.int .u64 (c : Int))) HQH.out HDH.out)
          have O2 := Lib.hid (O3.out.trans (only_q W5 hb 2 (.int .u64 (c : Int))) fun k hk e => by have := HHB.out; omega)
          clear BX3 r5 O3
          have Rq := Lib.hid (Rr.out.only O2.out (fun e => HPQ.out e))
          obtain ⟨x0, x1, x2, x3, x4, x5, x6, x7, x8, x9⟩ := Rq.out.cells
          cases b3 with
          | true =>
            have h3 := HK3.out
            go_wp2_with fail
            generalize (W5.setCell ⟨hb, 2, none⟩ (.int .u64 (c : Int))) = W6 at *
            clear y0 y1 y2 y3 g0 g1 g2 g3
            clear x0 x1 x2 x3 x4 x5 x6 x7 x8 x9 Rq
            refine (iuint_any q d t3 W6 r4.out).mono ?_
            rintro e W7 ⟨rfl, r5, O5⟩
            rw [HA4.out] at r5 ⊢
            simp only at r5 ⊢
            have BX3 := Lib.hid ((O5.out.block _ (lt_of_heap BX2.out) (fun e => HQH.out e.symm)).trans BX2.out)
            have O3 := Lib.hid (O2.out.trans O5.out fun _ _ h => h)
            clear BX2 r4 O2 O5
            have y0 := cell_plain BX3.out 0
            have g0 := frozen_plain BX3.out 0
            have y1 := cell_plain BX3.out 1
            have g1 := frozen_plain BX3.out 1
            have y2 := cell_plain BX3.out 2
            have g2 := frozen_plain BX3.out 2
            have y3 := cell_plain BX3.out 3
            have g3 := frozen_plain BX3.out 3
            simp only [List.getElem?_toArray, List.getElem?_cons_zero, List.getElem?_cons_succ] at y0 y1 y2 y3
            have BX2 := Lib.hid (show (W7.setCell ⟨hb, 3, none⟩ (.int .u64 (e4 : Int))).heap[hb]? = some (.cells #[.int .i64 (a : Int), .int .u64 (b : Int), .int .u64 (c : Int), .int .u64 (e4 : Int)] 51 (0, 0)) from by have h := BX3.out; simp [World.setCell, Array.getElem?_modify, h])
            have r4 := Lib.hid (r5.out.keep (only_q W7 hb 3 (.int .u64 (e4 : Int))) HQH.out HDH.out)
            have O2 := Lib.hid (O3.out.trans (only_q W7 hb 3 (.int .u64 (e4 : Int))) fun k hk e => by have := HHB.out; omega)
            clear BX3 r5 O3
            have z0 := cell_plain BX2.out 0
            have z1 := cell_plain BX2.out 1
            have z2 := cell_plain BX2.out 2
            have z3 := cell_plain BX2.out 3
            simp only [List.getElem?_toArray, List.getElem?_cons_zero, List.getElem?_cons_succ] at z0 z1 z2 z3
            have Rn := Lib.hid (Rr.out.only O2.out (fun e => HPQ.out e))
            have ho3 := Lib.hid (ho2.out.keep O2.out (fun k e e2 => by have := ownH_base ho2.out k e; have := HQP.out; have := HPV.out; omega))
            have o4 := Lib.hid (o2.out.trans O2.out fun _ _ h => .inl h)
            obtain ⟨x0, x1, x2, x3, x4, x5, x6, x7, x8, x9⟩ := Rn.out.cells
            clear Rr ho2 o2 O2
            have hsz : (W7.setCell ⟨hb, 3, none⟩ (.int .u64 (e4 : Int))).heap.size = W7.heap.size := by simp
            have hnw := heads_new (W7.setCell ⟨hb, 3, none⟩ (.int .u64 (e4 : Int))) [⟨(a : Int), b, c, e4⟩]
            rw [hsz] at hnw
            have HN := Lib.hid hnw
            clear hnw hsz
            have B5 := Lib.hid (kbelow_box (W7.setCell ⟨hb, 3, none⟩ (.int .u64 (e4 : Int))) (.cells (flatH [⟨(a : Int), b, c, e4⟩]).toArray 51))
            have ho5 := Lib.hid (ho3.out.on B5.out)
            have o5 := Lib.hid (o4.out.trans (Only.ofBelow (S := fun m => m = q ∨ m = pb) B5.out) fun _ _ h => h)
            have r5 := Lib.hid (r4.out.keep (S := fun _ => False) (Only.ofBelow B5.out) (fun h => h) (fun _ _ h => h))
            have Rn2 := Lib.hid (Rn.out.below B5.out)
            clear r4 ho3 o4 Rn
            go_wp2_with (at_builtin; refine wpList_appendH rfl _ _ rfl V35.heap.size Hj j chj _ rfl ?qc0 ho5.out (some ⟨W7.heap.size, 0, none⟩) 1 1 _ [⟨(a : Int), b, c, e4⟩] rfl rfl (fun e => by cases e) HN.out (by omega) ?_)
            case qc0 => exact o5.out.size
            intro A6 c6 W9 e1 e2 e3
            have Rn3 := Lib.hid (Rn2.out.only e2.out (fun e => by have := ownH_base ho5.out _ e; have := HPV.out; omega))
            have r6 := Lib.hid (r5.out.keep e2.out (fun e => by have := ownH_base ho5.out _ e; have := HQP.out; have := HPV.out; omega) (fun k hk e => by have := ownH_base ho5.out _ e; have := HD3.out k hk; have := HPV.out; omega))
            have o6 := Lib.hid (o5.out.trans e2.out (fun k hk e => by have := ownH_base ho5.out _ e; omega))
            clear x0 x1 x2 x3 x4 x5 x6 x7 x8 x9 r5 o5 Rn2 HN B5
            obtain ⟨x0, x1, x2, x3, x4, x5, x6, x7, x8, x9⟩ := Rn3.out.cells
            obtain ⟨g0, g1, g2, g3, g4, g5, g6, g7, g8, g9⟩ := Rn3.out.thaw
            go_wp2
            go_roundw
            case rel => exact ⟨j + 1, A6, c6, by omega, by go_num, Lib.hid (Rn3.out.s4 (.slice A6 (j + 1) c6)), Lib.hid (by rw [HGk.out, HGH.out]; exact e1.out.keep (only_s4 W9 pb (.slice A6 (j + 1) c6)) (fun k e e2 => by have := ownH_base e1.out k e; have := HPV.out; omega)), Lib.hid (by rw [HGk.out, HGH.out]; exact r6.out.keep (only_s4 W9 pb (.slice A6 (j + 1) c6)) (fun e => HPQ.out e.symm) (fun k e e2 => HDP.out k e e2)), Lib.hid (o6.out.trans (only_s4 W9 pb (.slice A6 (j + 1) c6)) fun _ _ h => .inr h)⟩
            case measure => simp [intOf]; omega
          | false =>
            have h3 := HK3.out
            clear x0 x1 x2 x3 x4 x5 x6 x7 x8 x9 Rq
            have z0 := cell_plain BX2.out 0
            have z1 := cell_plain BX2.out 1
            have z2 := cell_plain BX2.out 2
            have z3 := cell_plain BX2.out 3
            simp only [List.getElem?_toArray, List.getElem?_cons_zero, List.getElem?_cons_succ] at z0 z1 z2 z3
            have Rn := Lib.hid (Rr.out.only O2.out (fun e => HPQ.out e))
            have ho3 := Lib.hid (ho2.out.keep O2.out (fun k e e2 => by have := ownH_base ho2.out k e; have := HQP.out; have := HPV.out; omega))
            have o4 := Lib.hid (o2.out.trans O2.out fun _ _ h => .inl h)
            obtain ⟨x0, x1, x2, x3, x4, x5, x6, x7, x8, x9⟩ := Rn.out.cells
            clear Rr ho2 o2 O2
            have hsz : (W5.setCell ⟨hb, 2, none⟩ (.int .u64 (c : Int))).heap.size = W5.heap.size := by simp
            have hnw := heads_new (W5.setCell ⟨hb, 2, none⟩ (.int .u64 (c : Int))) [⟨(a : Int), b, c, 0⟩]
            rw [hsz] at hnw
            have HN := Lib.hid hnw
            clear hnw hsz
            have B5 := Lib.hid (kbelow_box (W5.setCell ⟨hb, 2, none⟩ (.int .u64 (c : Int))) (.cells (flatH [⟨(a : Int), b, c, 0⟩]).toArray 51))
            have ho5 := Lib.hid (ho3.out.on B5.out)
            have o5 := Lib.hid (o4.out.trans (Only.ofBelow (S := fun m => m = q ∨ m = pb) B5.out) fun _ _ h => h)
            have r5 := Lib.hid (r4.out.keep (S := fun _ => False) (Only.ofBelow B5.out) (fun h => h) (fun _ _ h => h))
            have Rn2 := Lib.hid (Rn.out.below B5.out)
            clear r4 ho3 o4 Rn
            go_wp2_with (at_builtin; refine wpList_appendH rfl _ _ rfl V35.heap.size Hj j chj _ rfl ?qc0 ho5.out (some ⟨W5.heap.size, 0, none⟩) 1 1 _ [⟨(a : Int), b, c, 0⟩] rfl rfl (fun e => by cases e) HN.out (by omega) ?_)
            case qc0 => exact o5.out.size
            intro A6 c6 W9 e1 e2 e3
            have Rn3 := Lib.hid (Rn2.out.only e2.out (fun e => by have := ownH_base ho5.out _ e; have := HPV.out; omega))
            have r6 := Lib.hid (r5.out.keep e2.out (fun e => by have := ownH_base ho5.out _ e; have := HQP.out; have := HPV.out; omega) (fun k hk e => by have := ownH_base ho5.out _ e; have := HD3.out k hk; have := HPV.out; omega))
            have o6 := Lib.hid (o5.out.trans e2.out (fun k hk e => by have := ownH_base ho5.out _ e; omega))
            clear x0 x1 x2 x3 x4 x5 x6 x7 x8 x9 r5 o5 Rn2 HN B5
            obtain ⟨x0, x1, x2, x3, x4, x5, x6, x7, x8, x9⟩ := Rn3.out.cells
            obtain ⟨g0, g1, g2, g3, g4, g5, g6, g7, g8, g9⟩ := Rn3.out.thaw
            go_wp2
            go_roundw
            case rel => exact ⟨j + 1, A6, c6, by omega, by go_num, Lib.hid (Rn3.out.s4 (.slice A6 (j + 1) c6)), Lib.hid (by rw [HGk.out, HGH.out]; exact e1.out.keep (only_s4 W9 pb (.slice A6 (j + 1) c6)) (fun k e e2 => by have := ownH_base e1.out k e; have := HPV.out; omega)), Lib.hid (by rw [HGk.out, HGH.out]; exact r6.out.keep (only_s4 W9 pb (.slice A6 (j + 1) c6)) (fun e => HPQ.out e.symm) (fun k e e2 => HDP.out k e e2)), Lib.hid (o6.out.trans (only_s4 W9 pb (.slice A6 (j + 1) c6)) fun _ _ h => .inr h)⟩
            case measure => simp [intOf]; omega
      · obtain rfl : j = nn := by omega
        have g1 : ¬ (j : Int) < (j : Int) := by omega
        have HLE5 := Lib.hid (Nat.le_trans (getHs_le b3 j s4) HLE4.out)
        have HPW := Lib.hid Rr.out.lt
        obtain ⟨x0, x1, x2, x3, x4, x5, x6, x7, x8, x9⟩ := Rr.out.cells
        obtain ⟨⟨hs, s5⟩, hgs⟩ : ∃ y, getHs b3 j s4 = y := ⟨_, rfl⟩
        rw [hgs] at ho2 r2 HLE5
        simp only at ho2 r2 HLE5
        have HGS := Lib.hid hgs
        clear hgs
        have Zr39 := Lib.hid (Zr35.out.only o2.out (by have := HRQ.out; have := HQP.out; omega))
        have B39 := Lib.hid (o2.out.below B35.out (fun j hj => by have := HRQ.out; have := HQP.out; omega) B35.out.size)
        have LH39 := Lib.hid (ho2.out.lower (base' := pb + 1) HPV.out)
        have R39 := Rr
        have I39 := r2
        clear Rr r2 o2 ho2 Zr35 B35
        cases hk2 : decide (kn = 2) with
        | true =>
          have h2 := HK2.out
          rw [hk2] at h2
          have K2 := Lib.hid (of_decide_eq_true hk2)
          clear hk2
          go_wp2_with fail
          clear c1 f1 x0 x1 x2 x3 x4 x5 x6 x7 x8 x9
          refine (show Calls Try.prog 44 #[.pointer (some ⟨q, 0, none⟩), .int .i64 320] wr (ITe q d s5 320 wr) from itext_any q d s5 320 (by omega) wr I39.out (by have := HLE5.out; omega)).mono ?_
          rintro e V40 ⟨A1, cb, rfl, hp, hI, ho⟩
          have R40 := Lib.hid (R39.out.only ho.out HPQ.out)
          have Zr40 := Lib.hid (Zr39.out.only ho.out (Nat.ne_of_lt HRQ.out))
          have B40 := Lib.hid (ho.out.below B39.out (fun j hj => by rw [hj]; exact Nat.le_of_lt HRQ.out) B39.out.size)
          have LH40 := Lib.hid (LH39.out.keep ho.out (fun j e e2 => by have := ownH_base LH39.out j e; have := HQP.out; omega))
          have I40 := Lib.hid hI.out
          clear R39 Zr39 B39 I39 ho hI LH39
          have LE40 := Lib.hid (hp.out.lower (base' := pb + 1) HPW.out)
          clear hp
          obtain ⟨⟨bd, s6⟩, hgt⟩ : ∃ y, rText s5 320 = y := ⟨_, rfl⟩
          change Hid (Own8 _ _ A1 (rText s5 320).1.length cb (rText s5 320).1) at LE40
          change Hid (InR _ q d (rText s5 320).2) at I40
          rw [show rText s5 ((320 : Nat) : Int) = rText s5 320 from rfl]
          rw [hgt] at LE40 I40 ⊢
          simp only at LE40 I40 ⊢
          have HGT := Lib.hid hgt
          have hbl : bd.length ≤ 320 := rText_small hgt
          generalize hnb : bd.length = nb at *
          clear hgt
          have HPOS : Hid (∀ p ∈ ([] : List Life), 0 ≤ p.2) := Lib.hid (by simp)
          have HTY := Lib.hid (show 0 ≤ n2 ∧ 0 ≤ (0 : Int) ∧ j ≤ 1000 ∧ 0 ≤ 300 from ⟨HPN.out, by omega, by omega, by omega⟩)
          clear hnb hbl
          obtain ⟨u0, u1, u2, u3, u4, u5, u6, u7, u8, u9⟩ := R40.out.cells
          obtain ⟨p0, p1, p2, p3, p4, p5, p6, p7, p8, p9⟩ := R40.out.thaw
          have hs := only_s5 V40 pb (.slice A1 nb cb)
          have R41 := Lib.hid (R40.out.s5 (.slice A1 nb cb))
          have Zr41 := Lib.hid (Zr40.out.only hs (by have := HRQ.out; have := HQP.out; omega))
          have B41 := Lib.hid (hs.below B40.out (fun j hj => by have := HRQ.out; have := HQP.out; omega) B40.out.size)
          have I41 := Lib.hid (I40.out.keep hs (fun e => HPQ.out e.symm) (fun k e e2 => HDP.out k e e2))
          have LH41 := Lib.hid (LH40.out.keep hs (fun j e e2 => by have := ownH_base LH40.out j e; omega))
          have LE41 := Lib.hid (LE40.out.keep hs (fun j e e2 => by have := (Own8.lt LE40.out e).1; omega))
          clear hs R40 Zr40 B40 I40 LH40 LE40
          have LP41 := Lib.hid (OwnP.nil_ (w := (V40.setCell ⟨pb, 5, none⟩ (.slice A1 nb cb))) (base := pb + 1))
          have HB2 := Lib.hid (fun _ : s6.bad = false => show rawK ⟨l, false⟩ = (⟨ki, (n1, n2), (hn : Int), hs, bd, (0, 0), 0, []⟩, s6) from by rw [HRW.out, if_neg HK1.out, rawB_two HG.out HU.out HN4.out HB3.out HGS.out K2.out HGT.out, HKI.out])
          have HB1 := Lib.hid (fun hb : s6.bad = true => readK_bad2 (show (rawK ⟨l, false⟩).2.bad = true from by rw [HRW.out, if_neg HK1.out, rawB_two HG.out HU.out HN4.out HB3.out HGS.out K2.out HGT.out]; exact hb))
          go_wp2_with fail
          generalize (V40.setCell ⟨pb, 5, none⟩ (.slice A1 nb cb)) = V41 at *
          clear u0 u1 u2 u3 u4 u5 u6 u7 u8 u9 p0 p1 p2 p3 p4 p5 p6 p7 p8 p9
          have D0 : Hid (Below V41.heap.size V41 V41.drew) := Lib.hid ⟨rfl, rfl, rfl, Nat.le_refl _, fun _ _ => rfl⟩
          have RD : Hid (Row10 pb (.int .i64 ki) (.int .i64 n1) (.int .u64 n2) (.int .i64 (hn : Int)) (.slice Hj j chj) (.slice A1 nb cb) (.int .i64 0) (.int .u64 0) (.int .u64 0) (.slice none 0 0) 31 V41.drew) := R41
          have ZD : Hid (Row10 w.heap.size (.int .i64 0) (.int .i64 0) (.int .u64 0) (.int .i64 0) (.slice none 0 0) (.slice none 0 0) (.int .i64 0) (.int .u64 0) (.int .u64 0) (.slice none 0 0) 31 V41.drew) := Zr41
          have ID : Hid (InR V41.drew q d s6) := I41
          have BD : Hid (Below w.heap.size w V41.drew) := Lib.hid (ktr B41.out D0.out)
          have HD : Hid (OwnH V41.drew (w.heap.size + 1) (Hj) (j) (chj) (hs)) := Lib.hid (LH41.out.lower (by have := HRQ.out; have := HQP.out; omega))
          have ED : Hid (Own8 V41.drew (w.heap.size + 1) (A1) (nb) (cb) (bd)) := Lib.hid (LE41.out.lower (by have := HRQ.out; have := HQP.out; omega))
          have PD : Hid (OwnP V41.drew (w.heap.size + 1) (none) (0) (0) ([])) := Lib.hid (LP41.out.lower (by have := HRQ.out; have := HQP.out; omega))
          clear R41 Zr41 I41 B41 LH41 LE41 LP41
          cases hbv : (s6).bad with
          | true =>
            have HBV := Lib.hid hbv
            clear hbv
            have HN0 := Lib.hid (HB1.out HBV.out)
            refine region_steps (n := 98) (KRdA q) (by kernel_rfl) (by kernel_rfl) rfl (fun _ _ _ _ hb h => KRdA.mono hb h) ?_ ?_
            · refine And.intro ?_ (And.intro ?_ (And.intro ?_ (And.intro ?_ (And.intro ?_ (And.intro ?_ (And.intro ?_ (And.intro ?_ (And.intro ?_ (And.intro ?_ (And.intro ?_ (And.intro ?_ (And.intro ?_ (And.intro ?_ (And.intro ?_ (And.intro ?_ (And.intro ?_ (True.intro)))))))))))))))))
              · intro listed a' w' hw hd K hK
                refine step_free rfl ?_
                apply wp_move
                exact hK _ _ (Below.refl _ _) (fun s hs => by cases hs; exact hw.kept 4 (by kernel_rfl))
              · intro listed a' w' hw hd K hK
                have hv79 : a'.tmps.getD 79 undef = .pointer (some ⟨q, 0, none⟩) := (hw.at_ 0 79 rfl (hd ⟨0, .data⟩ (by simp) rfl))
                refine step_free rfl ?_
                unfold Oper.wp
                simp only [execOp]
                go_simp
                exact hK _ _ (Below.refl _ _) (fun s hs => by cases hs; rfl)
              · intro listed a' w' hw hd K hK
                have hv80 : a'.tmps.getD 80 undef = .pointer (some ⟨q, 0, none⟩) := (hw.at_ 1 80 rfl (hd ⟨1, .data⟩ (by simp) rfl))
                refine step_free rfl ?_
                unfold Oper.wp
                simp only [execOp]
                go_simp
                exact hK _ _ (Below.refl _ _) (fun s hs => by cases hs; rfl)
              · intro listed a' w' hw hd K hK
                have hv81 : a'.tmps.getD 81 undef = .pointer (some ⟨q, 1, none⟩) := (hw.at_ 2 81 rfl (hd ⟨2, .data⟩ (by simp) rfl))
                have c1 := (ID.out.keep (S := fun _ => False) (Only.ofBelow hw.below) (fun h => h) (fun _ _ h => h)).bad_cell
                rw [HBV.out] at c1
                refine step_free rfl ?_
                unfold Oper.wp
                simp only [execOp]
                go_simp
                exact hK _ _ (Below.refl _ _) (fun s hs => by cases hs; rfl)
              · intro listed a' w' hw hd K hK
                refine step_free rfl ?_
                apply wp_move
                exact hK _ _ (Below.refl _ _) (fun s hs => by cases hs; exact (hw.at_ 3 82 rfl (hd ⟨3, .data⟩ (by simp) rfl)))
              · intro listed a' w' hw hd K hK
                have hgd : a'.tmps.getD 83 undef = .bool true := (hw.at_ 4 83 rfl (hd ⟨4, .guard⟩ (by simp) rfl))
                refine step_unwanted (j := 4) (b := false) (s := 83) rfl rfl (by rw [hgd]; exact fun h => by cases h) ?_
                exact hK _ _ (Below.refl _ _) (fun s hs => by cases hs; rfl)
              · intro listed a' w' hw hd K hK
                have hgd : a'.tmps.getD 83 undef = .bool true := (hw.at_ 4 83 rfl (hd ⟨4, .guard⟩ (by simp) rfl))
                refine step_unwanted (j := 4) (b := false) (s := 83) rfl rfl (by rw [hgd]; exact fun h => by cases h) ?_
                exact hK _ _ (Below.refl _ _) (fun s hs => by cases hs; rfl)
              · intro listed a' w' hw hd K hK
                have hgd : a'.tmps.getD 83 undef = .bool true := (hw.at_ 4 83 rfl (hd ⟨4, .guard⟩ (by simp) rfl))
                refine step_unwanted (j := 4) (b := false) (s := 83) rfl rfl (by rw [hgd]; exact fun h => by cases h) ?_
                exact hK _ _ (Below.refl _ _) (fun s hs => by cases hs; rfl)
              · intro listed a' w' hw hd K hK
                have hv83 : a'.tmps.getD 83 undef = .bool true := (hw.at_ 4 83 rfl (hd ⟨4, .data⟩ (by simp) rfl))
                have hv86 : a'.tmps.getD 86 undef = undef := (hw.at_ 7 86 rfl (hd ⟨7, .data⟩ (by simp) rfl))
                refine step_free rfl ?_
                unfold Oper.wp
                simp only [execOp]
                go_simp
                exact hK _ _ (Below.refl _ _) (fun s hs => by cases hs; rfl)
              · intro listed a' w' hw hd K hK
                refine step_free rfl ?_
                apply wp_move
                exact hK _ _ (Below.refl _ _) (fun s hs => by cases hs; exact (hw.at_ 8 87 rfl (hd ⟨8, .data⟩ (by simp) rfl)))
              · intro listed a' w' hw hd K hK
                have hgd : a'.tmps.getD 88 undef = .bool true := (hw.at_ 9 88 rfl (hd ⟨9, .guard⟩ (by simp) rfl))
                refine step_unwanted (j := 9) (b := false) (s := 88) rfl rfl (by rw [hgd]; exact fun h => by cases h) ?_
                exact hK _ _ (Below.refl _ _) (fun s hs => by cases hs; rfl)
              · intro listed a' w' hw hd K hK
                have hgd : a'.tmps.getD 88 undef = .bool true := (hw.at_ 9 88 rfl (hd ⟨9, .guard⟩ (by simp) rfl))
                refine step_unwanted (j := 9) (b := false) (s := 88) rfl rfl (by rw [hgd]; exact fun h => by cases h) ?_
                exact hK _ _ (Below.refl _ _) (fun s hs => by cases hs; rfl)
              · intro listed a' w' hw hd K hK
                have hgd : a'.tmps.getD 88 undef = .bool true := (hw.at_ 9 88 rfl (hd ⟨9, .guard⟩ (by simp) rfl))
                refine step_unwanted (j := 9) (b := false) (s := 88) rfl rfl (by rw [hgd]; exact fun h => by cases h) ?_
                exact hK _ _ (Below.refl _ _) (fun s hs => by cases hs; rfl)
              · intro listed a' w' hw hd K hK
                have hgd : a'.tmps.getD 88 undef = .bool true := (hw.at_ 9 88 rfl (hd ⟨9, .guard⟩ (by simp) rfl))
                refine step_unwanted (j := 9) (b := false) (s := 88) rfl rfl (by rw [hgd]; exact fun h => by cases h) ?_
                exact hK _ _ (Below.refl _ _) (fun s hs => by cases hs; rfl)
              · intro listed a' w' hw hd K hK
                have hgd : a'.tmps.getD 88 undef = .bool true := (hw.at_ 9 88 rfl (hd ⟨9, .guard⟩ (by simp) rfl))
                refine step_unwanted (j := 9) (b := false) (s := 88) rfl rfl (by rw [hgd]; exact fun h => by cases h) ?_
                exact hK _ _ (Below.refl _ _) (fun s hs => by cases hs; rfl)
              · intro listed a' w' hw hd K hK
                have hgd : a'.tmps.getD 88 undef = .bool true := (hw.at_ 9 88 rfl (hd ⟨9, .guard⟩ (by simp) rfl))
                refine step_unwanted (j := 9) (b := false) (s := 88) rfl rfl (by rw [hgd]; exact fun h => by cases h) ?_
                exact hK _ _ (Below.refl _ _) (fun s hs => by cases hs; rfl)
              · intro listed a' w' hw hd K hK
                have hv88 : a'.tmps.getD 88 undef = .bool true := (hw.at_ 9 88 rfl (hd ⟨9, .data⟩ (by simp) rfl))
                have hv94 : a'.tmps.getD 94 undef = undef := (hw.at_ 15 94 rfl (hd ⟨15, .data⟩ (by simp) rfl))
                refine step_free rfl ?_
                unfold Oper.wp
                simp only [execOp]
                go_simp
                exact hK _ _ (Below.refl _ _) (fun s hs => by cases hs; rfl)
            · intro listed a' w' hw hall
              have hk95 : a'.tmps.getD 95 undef = .bool true := hw.at_ 16 95 rfl (hall 16 (Nat.lt_of_lt_of_eq (show 16 < 17 by omega) rfl))
              have R9 := Lib.hid (RD.out.below hw.below)
              have Z9 := Lib.hid (ZD.out.below hw.below)
              have B9 := Lib.hid (ktr BD.out hw.below)
              have H9 := Lib.hid (HD.out.on hw.below)
              have E9 := Lib.hid (own8_on ED.out hw.below)
              have P9 := Lib.hid (PD.out.on hw.below)
              have hp := hw.puts [79, 80, 81, 82, 83, 84, 85, 86, 87, 88, 89, 90, 91, 92, 93, 94, 95] (by kernel_rfl)
              clear hw hall
              rw [hp]
              simp only [List.foldl_cons, List.foldl_nil, hk95]
              generalize a'.tmps.getD 79 undef = u79
              generalize a'.tmps.getD 80 undef = u80
              generalize a'.tmps.getD 81 undef = u81
              generalize a'.tmps.getD 82 undef = u82
              generalize a'.tmps.getD 83 undef = u83
              generalize a'.tmps.getD 84 undef = u84
              generalize a'.tmps.getD 85 undef = u85
              generalize a'.tmps.getD 86 undef = u86
              generalize a'.tmps.getD 87 undef = u87
              generalize a'.tmps.getD 88 undef = u88
              generalize a'.tmps.getD 89 undef = u89
              generalize a'.tmps.getD 90 undef = u90
              generalize a'.tmps.getD 91 undef = u91
              generalize a'.tmps.getD 92 undef = u92
              generalize a'.tmps.getD 93 undef = u93
              generalize a'.tmps.getD 94 undef = u94
              clear hp hk95
              simp only [Act.put, List.setIfInBounds_toArray, List.set_cons_succ, List.set_cons_zero]
              obtain ⟨y0, y1, y2, y3, y4, y5, y6, y7, y8, y9⟩ := Z9.out.cells
              obtain ⟨g0, g1, g2, g3, g4, g5, g6, g7, g8, g9⟩ := Z9.out.thaw
              have F1 := Lib.hid (Z9.out.all (.int .i64 0) (.int .i64 0) (.int .u64 0) (.int .i64 0) (.slice none 0 0) (.slice none 0 0) (.int .i64 0) (.int .u64 0) (.int .u64 0) (.slice none 0 0))
              have F2 := Lib.hid ((only_all w' w.heap.size (.int .i64 0) (.int .i64 0) (.int .u64 0) (.int .i64 0) (.slice none 0 0) (.slice none 0 0) (.int .i64 0) (.int .u64 0) (.int .u64 0) (.slice none 0 0)).below B9.out (fun j hj => by omega) B9.out.size)
              clear Z9 B9 R9 H9 E9 P9
              go_wp2
              refine bodyPost_ret (results_row_tmp rfl _ _ w.heap.size 31 #[.int .i64 0, .int .i64 0, .int .u64 0, .int .i64 0, .slice none 0 0, .slice none 0 0, .int .i64 0, .int .u64 0, .int .u64 0, .slice none 0 0] (0, 0) _ rfl F1.out Try.underlying31 rfl (by kernel_rfl)) rfl ?_
              exact readE_none HN0.out F2
          | false =>
            have HBV := Lib.hid hbv
            have HRK := Lib.hid (HB2.out hbv)
            clear hbv
            have HPI := Lib.hid (show PIn V41.drew V41.drew.heap.size (hs) (bd) ([]) (Hj) (j) (A1) (nb) (cb) (none) (0) (0) from ⟨HD.out.heads, ED.out.bytes, PD.out.lives, HD.out.len, ED.out.len, PD.out.len, ED.out.none_cap, PD.out.none_cap, HPOS.out⟩)
            have HMY0 := Lib.hid (fun W (hb : Below V41.drew.heap.size V41.drew W) => show Calls Try.prog 12 #[.agg #[.int .i64 ki, .int .i64 n1, .int .u64 n2, .int .i64 (hn : Int), .slice Hj j chj, .slice A1 nb cb, .int .i64 0, .int .u64 0, .int .u64 0, .slice none 0 0]] W (fun e w' => e = .returned (.bool (decide (mayK (⟨ki, (n1, n2), (hn : Int), hs, bd, (0, 0), 0, []⟩ : Pk)))) ∧ Hid (Below W.heap.size W w')) from rmay_at ((HPI.out.below hb).more hb.size) (Nat.le_refl _) HTY.out.1 HTY.out.2.1 HTY.out.2.2.1 HTY.out.2.2.2)
            by_cases hm : mayK (⟨ki, (n1, n2), (hn : Int), hs, bd, (0, 0), 0, []⟩ : Pk)
            · have HMY := HMY0
              rw [decide_eq_true hm] at HMY
              have HBY0 := Lib.hid (fun W (hb : Below V41.drew.heap.size V41.drew W) => show Calls Try.prog 16 #[.agg #[.int .i64 ki, .int .i64 n1, .int .u64 n2, .int .i64 (hn : Int), .slice Hj j chj, .slice A1 nb cb, .int .i64 0, .int .u64 0, .int .u64 0, .slice none 0 0]] W (BytesE W (packetL (⟨ki, (n1, n2), (hn : Int), hs, bd, (0, 0), 0, []⟩ : Pk))) from rkbytes_at hm ((HPI.out.below hb).more hb.size))
              obtain ⟨M, hM⟩ : ∃ M, packetL (⟨ki, (n1, n2), (hn : Int), hs, bd, (0, 0), 0, []⟩ : Pk) = M := ⟨_, rfl⟩
              rw [hM] at HBY0
              have HBY := HBY0
              unfold BytesE at HBY
              obtain ⟨sp, hsp⟩ : ∃ sp : ByteArray, (⟨M.toArray⟩ : ByteArray) = sp := ⟨_, rfl⟩
              obtain ⟨bq, hbq⟩ : ∃ b, (!decide (M = l)) = b := ⟨_, rfl⟩
              have HSP := Lib.hid hsp
              have HQ := Lib.hid (show (!(sp.toList == sl.toList)) = bq by rw [← hsp, ← HSL.out, ← hbq]; rw [same_strK])
              have HN1 := Lib.hid (fun e : bq = true => readK_unlike HRK.out (show packetL _ ≠ l by rw [hM]; intro e2; rw [e, e2] at hbq; simp at hbq))
              have HS1 := Lib.hid (fun e : bq = false => readK_full HRK.out HBV.out hm (show packetL _ = l by rw [hM]; rw [e] at hbq; simpa using hbq))
              clear hM hsp hbq HBY0 hm HMY0
              refine region_steps (n := 98) (KRdC q ki (n1) (n2) ((hn : Int)) (0) (0) (0) (Hj) (A1) (none) (j) (chj) (nb) (cb) (0) (0) A n cap sp sl bq M) (by kernel_rfl) (by kernel_rfl) rfl (fun _ _ _ _ hb h => KRdC.mono hb h) ?_ ?_
              · refine And.intro ?_ (And.intro ?_ (And.intro ?_ (And.intro ?_ (And.intro ?_ (And.intro ?_ (And.intro ?_ (And.intro ?_ (And.intro ?_ (And.intro ?_ (And.intro ?_ (And.intro ?_ (And.intro ?_ (And.intro ?_ (And.intro ?_ (And.intro ?_ (And.intro ?_ (True.intro)))))))))))))))))
                · intro listed a' w' hw hd K hK
                  refine step_free rfl ?_
                  apply wp_move
                  exact hK _ _ (Below.refl _ _) (fun s hs => by cases hs; exact hw.kept 4 (by kernel_rfl))
                · intro listed a' w' hw hd K hK
                  have hv79 : a'.tmps.getD 79 undef = .pointer (some ⟨q, 0, none⟩) := (hw.at_ 0 79 rfl (hd ⟨0, .data⟩ (by simp) rfl))
                  refine step_free rfl ?_
                  unfold Oper.wp
                  simp only [execOp]
                  go_simp
                  exact hK _ _ (Below.refl _ _) (fun s hs => by cases hs; rfl)
                · intro listed a' w' hw hd K hK
                  have hv80 : a'.tmps.getD 80 undef = .pointer (some ⟨q, 0, none⟩) := (hw.at_ 1 80 rfl (hd ⟨1, .data⟩ (by simp) rfl))
                  refine step_free rfl ?_
                  unfold Oper.wp
                  simp only [execOp]
                  go_simp
                  exact hK _ _ (Below.refl _ _) (fun s hs => by cases hs; rfl)
                · intro listed a' w' hw hd K hK
                  have hv81 : a'.tmps.getD 81 undef = .pointer (some ⟨q, 1, none⟩) := (hw.at_ 2 81 rfl (hd ⟨2, .data⟩ (by simp) rfl))
                  have c1 := (ID.out.keep (S := fun _ => False) (Only.ofBelow hw.below) (fun h => h) (fun _ _ h => h)).bad_cell
                  rw [HBV.out] at c1
                  refine step_free rfl ?_
                  unfold Oper.wp
                  simp only [execOp]
                  go_simp
                  exact hK _ _ (Below.refl _ _) (fun s hs => by cases hs; rfl)
                · intro listed a' w' hw hd K hK
                  refine step_free rfl ?_
                  apply wp_move
                  exact hK _ _ (Below.refl _ _) (fun s hs => by cases hs; exact (hw.at_ 3 82 rfl (hd ⟨3, .data⟩ (by simp) rfl)))
                · intro listed a' w' hw hd K hK
                  have hgd : a'.tmps.getD 83 undef = .bool false := (hw.at_ 4 83 rfl (hd ⟨4, .guard⟩ (by simp) rfl))
                  have hv5 := hw.kept 5 (by kernel_rfl)
                  obtain ⟨u0, u1, u2, u3, u4, u5, u6, u7, u8, u9⟩ := (RD.out.below hw.below).cells
                  refine step_guarded (j := 4) (b := false) (s := 83) rfl rfl (by rw [hw.size]; exact Nat.lt_of_lt_of_eq (show 83 < 98 by omega) rfl) hgd ?_
                  unfold Oper.wp
                  simp only [execOp]
                  go_simp
                  exact hK _ _ (Below.refl _ _) (fun s hs => by cases hs; rfl)
                · intro listed a' w' hw hd K hK
                  have hgd : a'.tmps.getD 83 undef = .bool false := (hw.at_ 4 83 rfl (hd ⟨4, .guard⟩ (by simp) rfl))
                  have hv84 : a'.tmps.getD 84 undef = .agg #[.int .i64 ki, .int .i64 n1, .int .u64 n2, .int .i64 (hn : Int), .slice Hj j chj, .slice A1 nb cb, .int .i64 0, .int .u64 0, .int .u64 0, .slice none 0 0] := (hw.at_ 5 84 rfl (hd ⟨5, .data⟩ (by simp) rfl))
                  refine step_guarded (j := 4) (b := false) (s := 83) rfl rfl (by rw [hw.size]; exact Nat.lt_of_lt_of_eq (show 83 < 98 by omega) rfl) hgd ?_
                  unfold Oper.wp
                  simp only [execOp]
                  go_simp
                  refine (HMY.out w' hw.below).mono ?_
                  rintro e w2 ⟨rfl, hb2⟩
                  exact hK _ _ hb2.out (fun s hs => by cases hs; rfl)
                · intro listed a' w' hw hd K hK
                  have hgd : a'.tmps.getD 83 undef = .bool false := (hw.at_ 4 83 rfl (hd ⟨4, .guard⟩ (by simp) rfl))
                  have hv85 : a'.tmps.getD 85 undef = .bool true := (hw.at_ 6 85 rfl (hd ⟨6, .data⟩ (by simp) rfl))
                  refine step_guarded (j := 4) (b := false) (s := 83) rfl rfl (by rw [hw.size]; exact Nat.lt_of_lt_of_eq (show 83 < 98 by omega) rfl) hgd ?_
                  unfold Oper.wp
                  simp only [execOp]
                  go_simp
                  exact hK _ _ (Below.refl _ _) (fun s hs => by cases hs; rfl)
                · intro listed a' w' hw hd K hK
                  have hv83 : a'.tmps.getD 83 undef = .bool false := (hw.at_ 4 83 rfl (hd ⟨4, .data⟩ (by simp) rfl))
                  have hv86 : a'.tmps.getD 86 undef = .bool false := (hw.at_ 7 86 rfl (hd ⟨7, .data⟩ (by simp) rfl))
                  refine step_free rfl ?_
                  unfold Oper.wp
                  simp only [execOp]
                  go_simp
                  exact hK _ _ (Below.refl _ _) (fun s hs => by cases hs; rfl)
                · intro listed a' w' hw hd K hK
                  refine step_free rfl ?_
                  apply wp_move
                  exact hK _ _ (Below.refl _ _) (fun s hs => by cases hs; exact (hw.at_ 8 87 rfl (hd ⟨8, .data⟩ (by simp) rfl)))
                · intro listed a' w' hw hd K hK
                  have hgd : a'.tmps.getD 88 undef = .bool false := (hw.at_ 9 88 rfl (hd ⟨9, .guard⟩ (by simp) rfl))
                  have hv5 := hw.kept 5 (by kernel_rfl)
                  obtain ⟨u0, u1, u2, u3, u4, u5, u6, u7, u8, u9⟩ := (RD.out.below hw.below).cells
                  refine step_guarded (j := 9) (b := false) (s := 88) rfl rfl (by rw [hw.size]; exact Nat.lt_of_lt_of_eq (show 88 < 98 by omega) rfl) hgd ?_
                  unfold Oper.wp
                  simp only [execOp]
                  go_simp
                  exact hK _ _ (Below.refl _ _) (fun s hs => by cases hs; rfl)
                · intro listed a' w' hw hd K hK
                  have hgd : a'.tmps.getD 88 undef = .bool false := (hw.at_ 9 88 rfl (hd ⟨9, .guard⟩ (by simp) rfl))
                  have hv89 : a'.tmps.getD 89 undef = .agg #[.int .i64 ki, .int .i64 n1, .int .u64 n2, .int .i64 (hn : Int), .slice Hj j chj, .slice A1 nb cb, .int .i64 0, .int .u64 0, .int .u64 0, .slice none 0 0] := (hw.at_ 10 89 rfl (hd ⟨10, .data⟩ (by simp) rfl))
                  refine step_guarded (j := 9) (b := false) (s := 88) rfl rfl (by rw [hw.size]; exact Nat.lt_of_lt_of_eq (show 88 < 98 by omega) rfl) hgd ?_
                  unfold Oper.wp
                  simp only [execOp]
                  go_simp
                  refine (HBY.out w' hw.below).mono ?_
                  rintro en w2 ⟨A9, c9, rfl, ho9, hb2⟩
                  exact hK _ _ hb2.out (fun s hs => by cases hs; exact ⟨A9, c9, rfl, ho9.out.lower (Nat.zero_le _)⟩)
                · intro listed a' w' hw hd K hK
                  have hgd : a'.tmps.getD 88 undef = .bool false := (hw.at_ 9 88 rfl (hd ⟨9, .guard⟩ (by simp) rfl))
                  have hv90 : KRdP M w' (a'.tmps.getD 90 undef) := (hw.at_ 11 90 rfl (hd ⟨11, .data⟩ (by simp) rfl))
                  obtain ⟨A9, c9, e9, ho9⟩ := hv90
                  have cs := conv_str c9 ho9.bytes rfl
                  rw [HSP.out] at cs
                  refine step_guarded (j := 9) (b := false) (s := 88) rfl rfl (by rw [hw.size]; exact Nat.lt_of_lt_of_eq (show 88 < 98 by omega) rfl) hgd ?_
                  unfold Oper.wp
                  simp only [execOp]
                  go_simp
                  exact hK _ _ (Below.refl _ _) (fun s hs => by cases hs; rfl)
                · intro listed a' w' hw hd K hK
                  have hgd : a'.tmps.getD 88 undef = .bool false := (hw.at_ 9 88 rfl (hd ⟨9, .guard⟩ (by simp) rfl))
                  refine step_guarded (j := 9) (b := false) (s := 88) rfl rfl (by rw [hw.size]; exact Nat.lt_of_lt_of_eq (show 88 < 98 by omega) rfl) hgd ?_
                  apply wp_move
                  exact hK _ _ (Below.refl _ _) (fun s hs => by cases hs; exact hw.kept 0 (by kernel_rfl))
                · intro listed a' w' hw hd K hK
                  have hgd : a'.tmps.getD 88 undef = .bool false := (hw.at_ 9 88 rfl (hd ⟨9, .guard⟩ (by simp) rfl))
                  have hv92 : a'.tmps.getD 92 undef = Value.slice A n cap := (hw.at_ 13 92 rfl (hd ⟨13, .data⟩ (by simp) rfl))
                  have cs := CS.out w' (ktr BD.out hw.below)
                  refine step_guarded (j := 9) (b := false) (s := 88) rfl rfl (by rw [hw.size]; exact Nat.lt_of_lt_of_eq (show 88 < 98 by omega) rfl) hgd ?_
                  unfold Oper.wp
                  simp only [execOp]
                  go_simp
                  exact hK _ _ (Below.refl _ _) (fun s hs => by cases hs; rfl)
                · intro listed a' w' hw hd K hK
                  have hgd : a'.tmps.getD 88 undef = .bool false := (hw.at_ 9 88 rfl (hd ⟨9, .guard⟩ (by simp) rfl))
                  have hv91 : a'.tmps.getD 91 undef = Value.string sp := (hw.at_ 12 91 rfl (hd ⟨12, .data⟩ (by simp) rfl))
                  have hv93 : a'.tmps.getD 93 undef = Value.string sl := (hw.at_ 14 93 rfl (hd ⟨14, .data⟩ (by simp) rfl))
                  have hq := HQ.out
                  refine step_guarded (j := 9) (b := false) (s := 88) rfl rfl (by rw [hw.size]; exact Nat.lt_of_lt_of_eq (show 88 < 98 by omega) rfl) hgd ?_
                  unfold Oper.wp
                  simp only [execOp]
                  go_simp
                  exact hK _ _ (Below.refl _ _) (fun s hs => by cases hs; rfl)
                · intro listed a' w' hw hd K hK
                  have hv88 : a'.tmps.getD 88 undef = .bool false := (hw.at_ 9 88 rfl (hd ⟨9, .data⟩ (by simp) rfl))
                  have hv94 : a'.tmps.getD 94 undef = .bool bq := (hw.at_ 15 94 rfl (hd ⟨15, .data⟩ (by simp) rfl))
                  refine step_free rfl ?_
                  unfold Oper.wp
                  simp only [execOp]
                  go_simp
                  exact hK _ _ (Below.refl _ _) (fun s hs => by cases hs; rfl)
              · intro listed a' w' hw hall
                have hk95 : a'.tmps.getD 95 undef = .bool bq := hw.at_ 16 95 rfl (hall 16 (Nat.lt_of_lt_of_eq (show 16 < 17 by omega) rfl))
                have R9 := Lib.hid (RD.out.below hw.below)
                have Z9 := Lib.hid (ZD.out.below hw.below)
                have B9 := Lib.hid (ktr BD.out hw.below)
                have H9 := Lib.hid (HD.out.on hw.below)
                have E9 := Lib.hid (own8_on ED.out hw.below)
                have P9 := Lib.hid (PD.out.on hw.below)
                have hp := hw.puts [79, 80, 81, 82, 83, 84, 85, 86, 87, 88, 89, 90, 91, 92, 93, 94, 95] (by kernel_rfl)
                clear hw hall
                rw [hp]
                simp only [List.foldl_cons, List.foldl_nil, hk95]
                generalize a'.tmps.getD 79 undef = u79
                generalize a'.tmps.getD 80 undef = u80
                generalize a'.tmps.getD 81 undef = u81
                generalize a'.tmps.getD 82 undef = u82
                generalize a'.tmps.getD 83 undef = u83
                generalize a'.tmps.getD 84 undef = u84
                generalize a'.tmps.getD 85 undef = u85
                generalize a'.tmps.getD 86 undef = u86
                generalize a'.tmps.getD 87 undef = u87
                generalize a'.tmps.getD 88 undef = u88
                generalize a'.tmps.getD 89 undef = u89
                generalize a'.tmps.getD 90 undef = u90
                generalize a'.tmps.getD 91 undef = u91
                generalize a'.tmps.getD 92 undef = u92
                generalize a'.tmps.getD 93 undef = u93
                generalize a'.tmps.getD 94 undef = u94
                clear hp hk95
                simp only [Act.put, List.setIfInBounds_toArray, List.set_cons_succ, List.set_cons_zero]
                cases bq with
                | true =>
                  have HN0 := Lib.hid (HN1.out rfl)
                  obtain ⟨y0, y1, y2, y3, y4, y5, y6, y7, y8, y9⟩ := Z9.out.cells
                  obtain ⟨g0, g1, g2, g3, g4, g5, g6, g7, g8, g9⟩ := Z9.out.thaw
                  have F1 := Lib.hid (Z9.out.all (.int .i64 0) (.int .i64 0) (.int .u64 0) (.int .i64 0) (.slice none 0 0) (.slice none 0 0) (.int .i64 0) (.int .u64 0) (.int .u64 0) (.slice none 0 0))
                  have F2 := Lib.hid ((only_all w' w.heap.size (.int .i64 0) (.int .i64 0) (.int .u64 0) (.int .i64 0) (.slice none 0 0) (.slice none 0 0) (.int .i64 0) (.int .u64 0) (.int .u64 0) (.slice none 0 0)).below B9.out (fun j hj => by omega) B9.out.size)
                  clear Z9 B9 R9 H9 E9 P9
                  go_wp2
                  refine bodyPost_ret (results_row_tmp rfl _ _ w.heap.size 31 #[.int .i64 0, .int .i64 0, .int .u64 0, .int .i64 0, .slice none 0 0, .slice none 0 0, .int .i64 0, .int .u64 0, .int .u64 0, .slice none 0 0] (0, 0) _ rfl F1.out Try.underlying31 rfl (by kernel_rfl)) rfl ?_
                  exact readE_none HN0.out F2
                | false =>
                  have HRS := Lib.hid (HS1.out rfl)
                  obtain ⟨x0, x1, x2, x3, x4, x5, x6, x7, x8, x9⟩ := R9.out.cells
                  obtain ⟨y0, y1, y2, y3, y4, y5, y6, y7, y8, y9⟩ := Z9.out.cells
                  obtain ⟨g0, g1, g2, g3, g4, g5, g6, g7, g8, g9⟩ := Z9.out.thaw
                  have F1 := Lib.hid (Z9.out.all (.int .i64 ki) (.int .i64 n1) (.int .u64 n2) (.int .i64 (hn : Int)) (.slice Hj j chj) (.slice A1 nb cb) (.int .i64 0) (.int .u64 0) (.int .u64 0) (.slice none 0 0))
                  have hT := only_all w' w.heap.size (.int .i64 ki) (.int .i64 n1) (.int .u64 n2) (.int .i64 (hn : Int)) (.slice Hj j chj) (.slice A1 nb cb) (.int .i64 0) (.int .u64 0) (.int .u64 0) (.slice none 0 0)
                  have F2 := Lib.hid (hT.below B9.out (fun j hj => by omega) B9.out.size)
                  have F3 := Lib.hid (H9.out.keep hT (fun j e e2 => by have := ownH_base H9.out j e; omega))
                  have F4 := Lib.hid (E9.out.keep hT (fun j e e2 => by have := (E9.out.lt e).1; omega))
                  have F5 := Lib.hid (P9.out.keep hT (fun j e e2 => by have := ownP_base P9.out j e; omega))
                  clear hT Z9 B9 R9 H9 E9 P9
                  go_wp2
                  refine bodyPost_ret (results_row_tmp rfl _ _ w.heap.size 31 #[.int .i64 ki, .int .i64 n1, .int .u64 n2, .int .i64 (hn : Int), .slice Hj j chj, .slice A1 nb cb, .int .i64 0, .int .u64 0, .int .u64 0, .slice none 0 0] (0, 0) _ rfl F1.out Try.underlying31 rfl (by kernel_rfl)) rfl ?_
                  exact readE_some HRS.out F3 F4 F5 F2
            · have HMY := HMY0
              rw [decide_eq_false hm] at HMY
              have HN0 := Lib.hid (readK_nomay HRK.out hm)
              clear hm HMY0
              refine region_steps (n := 98) (KRdB q ki (n1) (n2) ((hn : Int)) (0) (0) (0) (Hj) (A1) (none) (j) (chj) (nb) (cb) (0) (0)) (by kernel_rfl) (by kernel_rfl) rfl (fun _ _ _ _ hb h => KRdB.mono hb h) ?_ ?_
              · refine And.intro ?_ (And.intro ?_ (And.intro ?_ (And.intro ?_ (And.intro ?_ (And.intro ?_ (And.intro ?_ (And.intro ?_ (And.intro ?_ (And.intro ?_ (And.intro ?_ (And.intro ?_ (And.intro ?_ (And.intro ?_ (And.intro ?_ (And.intro ?_ (And.intro ?_ (True.intro)))))))))))))))))
                · intro listed a' w' hw hd K hK
                  refine step_free rfl ?_
                  apply wp_move
                  exact hK _ _ (Below.refl _ _) (fun s hs => by cases hs; exact hw.kept 4 (by kernel_rfl))
                · intro listed a' w' hw hd K hK
                  have hv79 : a'.tmps.getD 79 undef = .pointer (some ⟨q, 0, none⟩) := (hw.at_ 0 79 rfl (hd ⟨0, .data⟩ (by simp) rfl))
                  refine step_free rfl ?_
                  unfold Oper.wp
                  simp only [execOp]
                  go_simp
                  exact hK _ _ (Below.refl _ _) (fun s hs => by cases hs; rfl)
                · intro listed a' w' hw hd K hK
                  have hv80 : a'.tmps.getD 80 undef = .pointer (some ⟨q, 0, none⟩) := (hw.at_ 1 80 rfl (hd ⟨1, .data⟩ (by simp) rfl))
                  refine step_free rfl ?_
                  unfold Oper.wp
                  simp only [execOp]
                  go_simp
                  exact hK _ _ (Below.refl _ _) (fun s hs => by cases hs; rfl)
                · intro listed a' w' hw hd K hK
                  have hv81 : a'.tmps.getD 81 undef = .pointer (some ⟨q, 1, none⟩) := (hw.at_ 2 81 rfl (hd ⟨2, .data⟩ (by simp) rfl))
                  have c1 := (ID.out.keep (S := fun _ => False) (Only.ofBelow hw.below) (fun h => h) (fun _ _ h => h)).bad_cell
                  rw [HBV.out] at c1
                  refine step_free rfl ?_
                  unfold Oper.wp
                  simp only [execOp]
                  go_simp
                  exact hK _ _ (Below.refl _ _) (fun s hs => by cases hs; rfl)
                · intro listed a' w' hw hd K hK
                  refine step_free rfl ?_
                  apply wp_move
                  exact hK _ _ (Below.refl _ _) (fun s hs => by cases hs; exact (hw.at_ 3 82 rfl (hd ⟨3, .data⟩ (by simp) rfl)))
                · intro listed a' w' hw hd K hK
                  have hgd : a'.tmps.getD 83 undef = .bool false := (hw.at_ 4 83 rfl (hd ⟨4, .guard⟩ (by simp) rfl))
                  have hv5 := hw.kept 5 (by kernel_rfl)
                  obtain ⟨u0, u1, u2, u3, u4, u5, u6, u7, u8, u9⟩ := (RD.out.below hw.below).cells
                  refine step_guarded (j := 4) (b := false) (s := 83) rfl rfl (by rw [hw.size]; exact Nat.lt_of_lt_of_eq (show 83 < 98 by omega) rfl) hgd ?_
                  unfold Oper.wp
                  simp only [execOp]
                  go_simp
                  exact hK _ _ (Below.refl _ _) (fun s hs => by cases hs; rfl)
                · intro listed a' w' hw hd K hK
                  have hgd : a'.tmps.getD 83 undef = .bool false := (hw.at_ 4 83 rfl (hd ⟨4, .guard⟩ (by simp) rfl))
                  have hv84 : a'.tmps.getD 84 undef = .agg #[.int .i64 ki, .int .i64 n1, .int .u64 n2, .int .i64 (hn : Int), .slice Hj j chj, .slice A1 nb cb, .int .i64 0, .int .u64 0, .int .u64 0, .slice none 0 0] := (hw.at_ 5 84 rfl (hd ⟨5, .data⟩ (by simp) rfl))
                  refine step_guarded (j := 4) (b := false) (s := 83) rfl rfl (by rw [hw.size]; exact Nat.lt_of_lt_of_eq (show 83 < 98 by omega) rfl) hgd ?_
                  unfold Oper.wp
                  simp only [execOp]
                  go_simp
                  refine (HMY.out w' hw.below).mono ?_
                  rintro e w2 ⟨rfl, hb2⟩
                  exact hK _ _ hb2.out (fun s hs => by cases hs; rfl)
                · intro listed a' w' hw hd K hK
                  have hgd : a'.tmps.getD 83 undef = .bool false := (hw.at_ 4 83 rfl (hd ⟨4, .guard⟩ (by simp) rfl))
                  have hv85 : a'.tmps.getD 85 undef = .bool false := (hw.at_ 6 85 rfl (hd ⟨6, .data⟩ (by simp) rfl))
                  refine step_guarded (j := 4) (b := false) (s := 83) rfl rfl (by rw [hw.size]; exact Nat.lt_of_lt_of_eq (show 83 < 98 by omega) rfl) hgd ?_
                  unfold Oper.wp
                  simp only [execOp]
                  go_simp
                  exact hK _ _ (Below.refl _ _) (fun s hs => by cases hs; rfl)
                · intro listed a' w' hw hd K hK
                  have hv83 : a'.tmps.getD 83 undef = .bool false := (hw.at_ 4 83 rfl (hd ⟨4, .data⟩ (by simp) rfl))
                  have hv86 : a'.tmps.getD 86 undef = .bool true := (hw.at_ 7 86 rfl (hd ⟨7, .data⟩ (by simp) rfl))
                  refine step_free rfl ?_
                  unfold Oper.wp
                  simp only [execOp]
                  go_simp
                  exact hK _ _ (Below.refl _ _) (fun s hs => by cases hs; rfl)
                · intro listed a' w' hw hd K hK
                  refine step_free rfl ?_
                  apply wp_move
                  exact hK _ _ (Below.refl _ _) (fun s hs => by cases hs; exact (hw.at_ 8 87 rfl (hd ⟨8, .data⟩ (by simp) rfl)))
                · intro listed a' w' hw hd K hK
                  have hgd : a'.tmps.getD 88 undef = .bool true := (hw.at_ 9 88 rfl (hd ⟨9, .guard⟩ (by simp) rfl))
                  refine step_unwanted (j := 9) (b := false) (s := 88) rfl rfl (by rw [hgd]; exact fun h => by cases h) ?_
                  exact hK _ _ (Below.refl _ _) (fun s hs => by cases hs; rfl)
                · intro listed a' w' hw hd K hK
                  have hgd : a'.tmps.getD 88 undef = .bool true := (hw.at_ 9 88 rfl (hd ⟨9, .guard⟩ (by simp) rfl))
                  refine step_unwanted (j := 9) (b := false) (s := 88) rfl rfl (by rw [hgd]; exact fun h => by cases h) ?_
                  exact hK _ _ (Below.refl _ _) (fun s hs => by cases hs; rfl)
                · intro listed a' w' hw hd K hK
                  have hgd : a'.tmps.getD 88 undef = .bool true := (hw.at_ 9 88 rfl (hd ⟨9, .guard⟩ (by simp) rfl))
                  refine step_unwanted (j := 9) (b := false) (s := 88) rfl rfl (by rw [hgd]; exact fun h => by cases h) ?_
                  exact hK _ _ (Below.refl _ _) (fun s hs => by cases hs; rfl)
                · intro listed a' w' hw hd K hK
                  have hgd : a'.tmps.getD 88 undef = .bool true := (hw.at_ 9 88 rfl (hd ⟨9, .guard⟩ (by simp) rfl))
                  refine step_unwanted (j := 9) (b := false) (s := 88) rfl rfl (by rw [hgd]; exact fun h => by cases h) ?_
                  exact hK _ _ (Below.refl _ _) (fun s hs => by cases hs; rfl)
                · intro listed a' w' hw hd K hK
                  have hgd : a'.tmps.getD 88 undef = .bool true := (hw.at_ 9 88 rfl (hd ⟨9, .guard⟩ (by simp) rfl))
                  refine step_unwanted (j := 9) (b := false) (s := 88) rfl rfl (by rw [hgd]; exact fun h => by cases h) ?_
                  exact hK _ _ (Below.refl _ _) (fun s hs => by cases hs; rfl)
                · intro listed a' w' hw hd K hK
                  have hgd : a'.tmps.getD 88 undef = .bool true := (hw.at_ 9 88 rfl (hd ⟨9, .guard⟩ (by simp) rfl))
                  refine step_unwanted (j := 9) (b := false) (s := 88) rfl rfl (by rw [hgd]; exact fun h => by cases h) ?_
                  exact hK _ _ (Below.refl _ _) (fun s hs => by cases hs; rfl)
                · intro listed a' w' hw hd K hK
                  have hv88 : a'.tmps.getD 88 undef = .bool true := (hw.at_ 9 88 rfl (hd ⟨9, .data⟩ (by simp) rfl))
                  have hv94 : a'.tmps.getD 94 undef = undef := (hw.at_ 15 94 rfl (hd ⟨15, .data⟩ (by simp) rfl))
                  refine step_free rfl ?_
                  unfold Oper.wp
                  simp only [execOp]
                  go_simp
                  exact hK _ _ (Below.refl _ _) (fun s hs => by cases hs; rfl)
              · intro listed a' w' hw hall
                have hk95 : a'.tmps.getD 95 undef = .bool true := hw.at_ 16 95 rfl (hall 16 (Nat.lt_of_lt_of_eq (show 16 < 17 by omega) rfl))
                have R9 := Lib.hid (RD.out.below hw.below)
                have Z9 := Lib.hid (ZD.out.below hw.below)
                have B9 := Lib.hid (ktr BD.out hw.below)
                have H9 := Lib.hid (HD.out.on hw.below)
                have E9 := Lib.hid (own8_on ED.out hw.below)
                have P9 := Lib.hid (PD.out.on hw.below)
                have hp := hw.puts [79, 80, 81, 82, 83, 84, 85, 86, 87, 88, 89, 90, 91, 92, 93, 94, 95] (by kernel_rfl)
                clear hw hall
                rw [hp]
                simp only [List.foldl_cons, List.foldl_nil, hk95]
                generalize a'.tmps.getD 79 undef = u79
                generalize a'.tmps.getD 80 undef = u80
                generalize a'.tmps.getD 81 undef = u81
                generalize a'.tmps.getD 82 undef = u82
                generalize a'.tmps.getD 83 undef = u83
                generalize a'.tmps.getD 84 undef = u84
                generalize a'.tmps.getD 85 undef = u85
                generalize a'.tmps.getD 86 undef = u86
                generalize a'.tmps.getD 87 undef = u87
                generalize a'.tmps.getD 88 undef = u88
                generalize a'.tmps.getD 89 undef = u89
                generalize a'.tmps.getD 90 undef = u90
                generalize a'.tmps.getD 91 undef = u91
                generalize a'.tmps.getD 92 undef = u92
                generalize a'.tmps.getD 93 undef = u93
                generalize a'.tmps.getD 94 undef = u94
                clear hp hk95
                simp only [Act.put, List.setIfInBounds_toArray, List.set_cons_succ, List.set_cons_zero]
                obtain ⟨y0, y1, y2, y3, y4, y5, y6, y7, y8, y9⟩ := Z9.out.cells
                obtain ⟨g0, g1, g2, g3, g4, g5, g6, g7, g8, g9⟩ := Z9.out.thaw
                have F1 := Lib.hid (Z9.out.all (.int .i64 0) (.int .i64 0) (.int .u64 0) (.int .i64 0) (.slice none 0 0) (.slice none 0 0) (.int .i64 0) (.int .u64 0) (.int .u64 0) (.slice none 0 0))
                have F2 := Lib.hid ((only_all w' w.heap.size (.int .i64 0) (.int .i64 0) (.int .u64 0) (.int .i64 0) (.slice none 0 0) (.slice none 0 0) (.int .i64 0) (.int .u64 0) (.int .u64 0) (.slice none 0 0)).below B9.out (fun j hj => by omega) B9.out.size)
                clear Z9 B9 R9 H9 E9 P9
                go_wp2
                refine bodyPost_ret (results_row_tmp rfl _ _ w.heap.size 31 #[.int .i64 0, .int .i64 0, .int .u64 0, .int .i64 0, .slice none 0 0, .slice none 0 0, .int .i64 0, .int .u64 0, .int .u64 0, .slice none 0 0] (0, 0) _ rfl F1.out Try.underlying31 rfl (by kernel_rfl)) rfl ?_
                exact readE_none HN0.out F2
        | false =>
          have h2 := HK2.out
          rw [hk2] at h2
          have K2 := Lib.hid (of_decide_eq_false hk2)
          clear hk2
          have LE39 := Lib.hid (Own8.nil_ (w := wr) (base := pb + 1))
          have LP39 := Lib.hid (OwnP.nil_ (w := wr) (base := pb + 1))
          have HPOS : Hid (∀ p ∈ ([] : List Life), 0 ≤ p.2) := Lib.hid (by simp)
          have HTY := Lib.hid (show 0 ≤ n2 ∧ 0 ≤ (0 : Int) ∧ j ≤ 1000 ∧ 0 ≤ 300 from ⟨HPN.out, by omega, by omega, by omega⟩)
          have HB2 := Lib.hid (fun _ : s5.bad = false => show rawK ⟨l, false⟩ = (⟨ki, (n1, n2), (hn : Int), hs, [], (0, 0), 0, []⟩, s5) from by rw [HRW.out, if_neg HK1.out, rawB_else HG.out HU.out HN4.out HB3.out HGS.out K2.out, HKI.out])
          have HB1 := Lib.hid (fun hb : s5.bad = true => readK_bad2 (show (rawK ⟨l, false⟩).2.bad = true from by rw [HRW.out, if_neg HK1.out, rawB_else HG.out HU.out HN4.out HB3.out HGS.out K2.out]; exact hb))
          go_wp2_with fail
          clear c1 f1 x0 x1 x2 x3 x4 x5 x6 x7 x8 x9
          have D0 : Hid (Below wr.heap.size wr wr.drew) := Lib.hid ⟨rfl, rfl, rfl, Nat.le_refl _, fun _ _ => rfl⟩
          have RD : Hid (Row10 pb (.int .i64 ki) (.int .i64 n1) (.int .u64 n2) (.int .i64 (hn : Int)) (.slice Hj j chj) (.slice none 0 0) (.int .i64 0) (.int .u64 0) (.int .u64 0) (.slice none 0 0) 31 wr.drew) := R39
          have ZD : Hid (Row10 w.heap.size (.int .i64 0) (.int .i64 0) (.int .u64 0) (.int .i64 0) (.slice none 0 0) (.slice none 0 0) (.int .i64 0) (.int .u64 0) (.int .u64 0) (.slice none 0 0) 31 wr.drew) := Zr39
          have ID : Hid (InR wr.drew q d s5) := I39
          have BD : Hid (Below w.heap.size w wr.drew) := Lib.hid (ktr B39.out D0.out)
          have HD : Hid (OwnH wr.drew (w.heap.size + 1) (Hj) (j) (chj) (hs)) := Lib.hid (LH39.out.lower (by have := HRQ.out; have := HQP.out; omega))
          have ED : Hid (Own8 wr.drew (w.heap.size + 1) (none) (0) (0) ([])) := Lib.hid (LE39.out.lower (by have := HRQ.out; have := HQP.out; omega))
          have PD : Hid (OwnP wr.drew (w.heap.size + 1) (none) (0) (0) ([])) := Lib.hid (LP39.out.lower (by have := HRQ.out; have := HQP.out; omega))
          clear R39 Zr39 I39 B39 LH39 LE39 LP39
          cases hbv : (s5).bad with
          | true =>
            have HBV := Lib.hid hbv
            clear hbv
            have HN0 := Lib.hid (HB1.out HBV.out)
            refine region_steps (n := 98) (KRdA q) (by kernel_rfl) (by kernel_rfl) rfl (fun _ _ _ _ hb h => KRdA.mono hb h) ?_ ?_
            · refine And.intro ?_ (And.intro ?_ (And.intro ?_ (And.intro ?_ (And.intro ?_ (And.intro ?_ (And.intro ?_ (And.intro ?_ (And.intro ?_ (And.intro ?_ (And.intro ?_ (And.intro ?_ (And.intro ?_ (And.intro ?_ (And.intro ?_ (And.intro ?_ (And.intro ?_ (True.intro)))))))))))))))))
              · intro listed a' w' hw hd K hK
                refine step_free rfl ?_
                apply wp_move
                exact hK _ _ (Below.refl _ _) (fun s hs => by cases hs; exact hw.kept 4 (by kernel_rfl))
              · intro listed a' w' hw hd K hK
                have hv79 : a'.tmps.getD 79 undef = .pointer (some ⟨q, 0, none⟩) := (hw.at_ 0 79 rfl (hd ⟨0, .data⟩ (by simp) rfl))
                refine step_free rfl ?_
                unfold Oper.wp
                simp only [execOp]
                go_simp
                exact hK _ _ (Below.refl _ _) (fun s hs => by cases hs; rfl)
              · intro listed a' w' hw hd K hK
                have hv80 : a'.tmps.getD 80 undef = .pointer (some ⟨q, 0, none⟩) := (hw.at_ 1 80 rfl (hd ⟨1, .data⟩ (by simp) rfl))
                refine step_free rfl ?_
                unfold Oper.wp
                simp only [execOp]
                go_simp
                exact hK _ _ (Below.refl _ _) (fun s hs => by cases hs; rfl)
              · intro listed a' w' hw hd K hK
                have hv81 : a'.tmps.getD 81 undef = .pointer (some ⟨q, 1, none⟩) := (hw.at_ 2 81 rfl (hd ⟨2, .data⟩ (by simp) rfl))
                have c1 := (ID.out.keep (S := fun _ => False) (Only.ofBelow hw.below) (fun h => h) (fun _ _ h => h)).bad_cell
                rw [HBV.out] at c1
                refine step_free rfl ?_
                unfold Oper.wp
                simp only [execOp]
                go_simp
                exact hK _ _ (Below.refl _ _) (fun s hs => by cases hs; rfl)
              · intro listed a' w' hw hd K hK
                refine step_free rfl ?_
                apply wp_move
                exact hK _ _ (Below.refl _ _) (fun s hs => by cases hs; exact (hw.at_ 3 82 rfl (hd ⟨3, .data⟩ (by simp) rfl)))
              · intro listed a' w' hw hd K hK
                have hgd : a'.tmps.getD 83 undef = .bool true := (hw.at_ 4 83 rfl (hd ⟨4, .guard⟩ (by simp) rfl))
                refine step_unwanted (j := 4) (b := false) (s := 83) rfl rfl (by rw [hgd]; exact fun h => by cases h) ?_
                exact hK _ _ (Below.refl _ _) (fun s hs => by cases hs; rfl)
              · intro listed a' w' hw hd K hK
                have hgd : a'.tmps.getD 83 undef = .bool true := (hw.at_ 4 83 rfl (hd ⟨4, .guard⟩ (by simp) rfl))
                refine step_unwanted (j := 4) (b := false) (s := 83) rfl rfl (by rw [hgd]; exact fun h => by cases h) ?_
                exact hK _ _ (Below.refl _ _) (fun s hs => by cases hs; rfl)
              · intro listed a' w' hw hd K hK
                have hgd : a'.tmps.getD 83 undef = .bool true := (hw.at_ 4 83 rfl (hd ⟨4, .guard⟩ (by simp) rfl))
                refine step_unwanted (j := 4) (b := false) (s := 83) rfl rfl (by rw [hgd]; exact fun h => by cases h) ?_
                exact hK _ _ (Below.refl _ _) (fun s hs => by cases hs; rfl)
              · intro listed a' w' hw hd K hK
                have hv83 : a'.tmps.getD 83 undef = .bool true := (hw.at_ 4 83 rfl (hd ⟨4, .data⟩ (by simp) rfl))
                have hv86 : a'.tmps.getD 86 undef = undef := (hw.at_ 7 86 rfl (hd ⟨7, .data⟩ (by simp) rfl))
                refine step_free rfl ?_
                unfold Oper.wp
                simp only [execOp]
                go_simp
                exact hK _ _ (Below.refl _ _) (fun s hs => by cases hs; rfl)
              · intro listed a' w' hw hd K hK
                refine step_free rfl ?_
                apply wp_move
                exact hK _ _ (Below.refl _ _) (fun s hs => by cases hs; exact (hw.at_ 8 87 rfl (hd ⟨8, .data⟩ (by simp) rfl)))
              · intro listed a' w' hw hd K hK
                have hgd : a'.tmps.getD 88 undef = .bool true := (hw.at_ 9 88 rfl (hd ⟨9, .guard⟩ (by simp) rfl))
                refine step_unwanted (j := 9) (b := false) (s := 88) rfl rfl (by rw [hgd]; exact fun h => by cases h) ?_
                exact hK _ _ (Below.refl _ _) (fun s hs => by cases hs; rfl)
              · intro listed a' w' hw hd K hK
                have hgd : a'.tmps.getD 88 undef = .bool true := (hw.at_ 9 88 rfl (hd ⟨9, .guard⟩ (by simp) rfl))
                refine step_unwanted (j := 9) (b := false) (s := 88) rfl rfl (by rw [hgd]; exact fun h => by cases h) ?_
                exact hK _ _ (Below.refl _ _) (fun s hs => by cases hs; rfl)
              · intro listed a' w' hw hd K hK
                have hgd : a'.tmps.getD 88 undef = .bool true := (hw.at_ 9 88 rfl (hd ⟨9, .guard⟩ (by simp) rfl))
                refine step_unwanted (j := 9) (b := false) (s := 88) rfl rfl (by rw [hgd]; exact fun h => by cases h) ?_
                exact hK _ _ (Below.refl _ _) (fun s hs => by cases hs; rfl)
              · intro listed a' w' hw hd K hK
                have hgd : a'.tmps.getD 88 undef = .bool true := (hw.at_ 9 88 rfl (hd ⟨9, .guard⟩ (by simp) rfl))
                refine step_unwanted (j := 9) (b := false) (s := 88) rfl rfl (by rw [hgd]; exact fun h => by cases h) ?_
                exact hK _ _ (Below.refl _ _) (fun s hs => by cases hs; rfl)
              · intro listed a' w' hw hd K hK
                have hgd : a'.tmps.getD 88 undef = .bool true := (hw.at_ 9 88 rfl (hd ⟨9, .guard⟩ (by simp) rfl))
                refine step_unwanted (j := 9) (b := false) (s := 88) rfl rfl (by rw [hgd]; exact fun h => by cases h) ?_
                exact hK _ _ (Below.refl _ _) (fun s hs => by cases hs; rfl)
              · intro listed a' w' hw hd K hK
                have hgd : a'.tmps.getD 88 undef = .bool true := (hw.at_ 9 88 rfl (hd ⟨9, .guard⟩ (by simp) rfl))
                refine step_unwanted (j := 9) (b := false) (s := 88) rfl rfl (by rw [hgd]; exact fun h => by cases h) ?_
                exact hK _ _ (Below.refl _ _) (fun s hs => by cases hs; rfl)
              · intro listed a' w' hw hd K hK
                have hv88 : a'.tmps.getD 88 undef = .bool true := (hw.at_ 9 88 rfl (hd ⟨9, .data⟩ (by simp) rfl))
                have hv94 : a'.tmps.getD 94 undef = undef := (hw.at_ 15 94 rfl (hd ⟨15, .data⟩ (by simp) rfl))
                refine step_free rfl ?_
                unfold Oper.wp
                simp only [execOp]
                go_simp
                exact hK _ _ (Below.refl _ _) (fun s hs => by cases hs; rfl)
            · intro listed a' w' hw hall
              have hk95 : a'.tmps.getD 95 undef = .bool true := hw.at_ 16 95 rfl (hall 16 (Nat.lt_of_lt_of_eq (show 16 < 17 by omega) rfl))
              have R9 := Lib.hid (RD.out.below hw.below)
              have Z9 := Lib.hid (ZD.out.below hw.below)
              have B9 := Lib.hid (ktr BD.out hw.below)
              have H9 := Lib.hid (HD.out.on hw.below)
              have E9 := Lib.hid (own8_on ED.out hw.below)
              have P9 := Lib.hid (PD.out.on hw.below)
              have hp := hw.puts [79, 80, 81, 82, 83, 84, 85, 86, 87, 88, 89, 90, 91, 92, 93, 94, 95] (by kernel_rfl)
              clear hw hall
              rw [hp]
              simp only [List.foldl_cons, List.foldl_nil, hk95]
              generalize a'.tmps.getD 79 undef = u79
              generalize a'.tmps.getD 80 undef = u80
              generalize a'.tmps.getD 81 undef = u81
              generalize a'.tmps.getD 82 undef = u82
              generalize a'.tmps.getD 83 undef = u83
              generalize a'.tmps.getD 84 undef = u84
              generalize a'.tmps.getD 85 undef = u85
              generalize a'.tmps.getD 86 undef = u86
              generalize a'.tmps.getD 87 undef = u87
              generalize a'.tmps.getD 88 undef = u88
              generalize a'.tmps.getD 89 undef = u89
              generalize a'.tmps.getD 90 undef = u90
              generalize a'.tmps.getD 91 undef = u91
              generalize a'.tmps.getD 92 undef = u92
              generalize a'.tmps.getD 93 undef = u93
              generalize a'.tmps.getD 94 undef = u94
              clear hp hk95
              simp only [Act.put, List.setIfInBounds_toArray, List.set_cons_succ, List.set_cons_zero]
              obtain ⟨y0, y1, y2, y3, y4, y5, y6, y7, y8, y9⟩ := Z9.out.cells
              obtain ⟨g0, g1, g2, g3, g4, g5, g6, g7, g8, g9⟩ := Z9.out.thaw
              have F1 := Lib.hid (Z9.out.all (.int .i64 0) (.int .i64 0) (.int .u64 0) (.int .i64 0) (.slice none 0 0) (.slice none 0 0) (.int .i64 0) (.int .u64 0) (.int .u64 0) (.slice none 0 0))
              have F2 := Lib.hid ((only_all w' w.heap.size (.int .i64 0) (.int .i64 0) (.int .u64 0) (.int .i64 0) (.slice none 0 0) (.slice none 0 0) (.int .i64 0) (.int .u64 0) (.int .u64 0) (.slice none 0 0)).below B9.out (fun j hj => by omega) B9.out.size)
              clear Z9 B9 R9 H9 E9 P9
              go_wp2
              refine bodyPost_ret (results_row_tmp rfl _ _ w.heap.size 31 #[.int .i64 0, .int .i64 0, .int .u64 0, .int .i64 0, .slice none 0 0, .slice none 0 0, .int .i64 0, .int .u64 0, .int .u64 0, .slice none 0 0] (0, 0) _ rfl F1.out Try.underlying31 rfl (by kernel_rfl)) rfl ?_
              exact readE_none HN0.out F2
          | false =>
            have HBV := Lib.hid hbv
            have HRK := Lib.hid (HB2.out hbv)
            clear hbv
            have HPI := Lib.hid (show PIn wr.drew wr.drew.heap.size (hs) ([]) ([]) (Hj) (j) (none) (0) (0) (none) (0) (0) from ⟨HD.out.heads, ED.out.bytes, PD.out.lives, HD.out.len, ED.out.len, PD.out.len, ED.out.none_cap, PD.out.none_cap, HPOS.out⟩)
            have HMY0 := Lib.hid (fun W (hb : Below wr.drew.heap.size wr.drew W) => show Calls Try.prog 12 #[.agg #[.int .i64 ki, .int .i64 n1, .int .u64 n2, .int .i64 (hn : Int), .slice Hj j chj, .slice none 0 0, .int .i64 0, .int .u64 0, .int .u64 0, .slice none 0 0]] W (fun e w' => e = .returned (.bool (decide (mayK (⟨ki, (n1, n2), (hn : Int), hs, [], (0, 0), 0, []⟩ : Pk)))) ∧ Hid (Below W.heap.size W w')) from rmay_at ((HPI.out.below hb).more hb.size) (Nat.le_refl _) HTY.out.1 HTY.out.2.1 HTY.out.2.2.1 HTY.out.2.2.2)
            by_cases hm : mayK (⟨ki, (n1, n2), (hn : Int), hs, [], (0, 0), 0, []⟩ : Pk)
            · have HMY := HMY0
              rw [decide_eq_true hm] at HMY
              have HBY0 := Lib.hid (fun W (hb : Below wr.drew.heap.size wr.drew W) => show Calls Try.prog 16 #[.agg #[.int .i64 ki, .int .i64 n1, .int .u64 n2, .int .i64 (hn : Int), .slice Hj j chj, .slice none 0 0, .int .i64 0, .int .u64 0, .int .u64 0, .slice none 0 0]] W (BytesE W (packetL (⟨ki, (n1, n2), (hn : Int), hs, [], (0, 0), 0, []⟩ : Pk))) from rkbytes_at hm ((HPI.out.below hb).more hb.size))
              obtain ⟨M, hM⟩ : ∃ M, packetL (⟨ki, (n1, n2), (hn : Int), hs, [], (0, 0), 0, []⟩ : Pk) = M := ⟨_, rfl⟩
              rw [hM] at HBY0
              have HBY := HBY0
              unfold BytesE at HBY
              obtain ⟨sp, hsp⟩ : ∃ sp : ByteArray, (⟨M.toArray⟩ : ByteArray) = sp := ⟨_, rfl⟩
              obtain ⟨bq, hbq⟩ : ∃ b, (!decide (M = l)) = b := ⟨_, rfl⟩
              have HSP := Lib.hid hsp
              have HQ := Lib.hid (show (!(sp.toList == sl.toList)) = bq by rw [← hsp, ← HSL.out, ← hbq]; rw [same_strK])
              have HN1 := Lib.hid (fun e : bq = true => readK_unlike HRK.out (show packetL _ ≠ l by rw [hM]; intro e2; rw [e, e2] at hbq; simp at hbq))
              have HS1 := Lib.hid (fun e : bq = false => readK_full HRK.out HBV.out hm (show packetL _ = l by rw [hM]; rw [e] at hbq; simpa using hbq))
              clear hM hsp hbq HBY0 hm HMY0
              refine region_steps (n := 98) (KRdC q ki (n1) (n2) ((hn : Int)) (0) (0) (0) (Hj) (none) (none) (j) (chj) (0) (0) (0) (0) A n cap sp sl bq M) (by kernel_rfl) (by kernel_rfl) rfl (fun _ _ _ _ hb h => KRdC.mono hb h) ?_ ?_
              · refine And.intro ?_ (And.intro ?_ (And.intro ?_ (And.intro ?_ (And.intro ?_ (And.intro ?_ (And.intro ?_ (And.intro ?_ (And.intro ?_ (And.intro ?_ (And.intro ?_ (And.intro ?_ (And.intro ?_ (And.intro ?_ (And.intro ?_ (And.intro ?_ (And.intro ?_ (True.intro)))))))))))))))))
                · intro listed a' w' hw hd K hK
                  refine step_free rfl ?_
                  apply wp_move
                  exact hK _ _ (Below.refl _ _) (fun s hs => by cases hs; exact hw.kept 4 (by kernel_rfl))
                · intro listed a' w' hw hd K hK
                  have hv79 : a'.tmps.getD 79 undef = .pointer (some ⟨q, 0, none⟩) := (hw.at_ 0 79 rfl (hd ⟨0, .data⟩ (by simp) rfl))
                  refine step_free rfl ?_
                  unfold Oper.wp
                  simp only [execOp]
                  go_simp
                  exact hK _ _ (Below.refl _ _) (fun s hs => by cases hs; rfl)
                · intro listed a' w' hw hd K hK
                  have hv80 : a'.tmps.getD 80 undef = .pointer (some ⟨q, 0, none⟩) := (hw.at_ 1 80 rfl (hd ⟨1, .data⟩ (by simp) rfl))
                  refine step_free rfl ?_
                  unfold Oper.wp
                  simp only [execOp]
                  go_simp
                  exact hK _ _ (Below.refl _ _) (fun s hs => by cases hs; rfl)
                · intro listed a' w' hw hd K hK
                  have hv81 : a'.tmps.getD 81 undef = .pointer (some ⟨q, 1, none⟩) := (hw.at_ 2 81 rfl (hd ⟨2, .data⟩ (by simp) rfl))
                  have c1 := (ID.out.keep (S := fun _ => False) (Only.ofBelow hw.below) (fun h => h) (fun _ _ h => h)).bad_cell
                  rw [HBV.out] at c1
                  refine step_free rfl ?_
                  unfold Oper.wp
                  simp only [execOp]
                  go_simp
                  exact hK _ _ (Below.refl _ _) (fun s hs => by cases hs; rfl)
                · intro listed a' w' hw hd K hK
                  refine step_free rfl ?_
                  apply wp_move
                  exact hK _ _ (Below.refl _ _) (fun s hs => by cases hs; exact (hw.at_ 3 82 rfl (hd ⟨3, .data⟩ (by simp) rfl)))
                · intro listed a' w' hw hd K hK
                  have hgd : a'.tmps.getD 83 undef = .bool false := (hw.at_ 4 83 rfl (hd ⟨4, .guard⟩ (by simp) rfl))
                  have hv5 := hw.kept 5 (by kernel_rfl)
                  obtain ⟨u0, u1, u2, u3, u4, u5, u6, u7, u8, u9⟩ := (RD.out.below hw.below).cells
                  refine step_guarded (j := 4) (b := false) (s := 83) rfl rfl (by rw [hw.size]; exact Nat.lt_of_lt_of_eq (show 83 < 98 by omega) rfl) hgd ?_
                  unfold Oper.wp
                  simp only [execOp]
                  go_simp
                  exact hK _ _ (Below.refl _ _) (fun s hs => by cases hs; rfl)
                · intro listed a' w' hw hd K hK
                  have hgd : a'.tmps.getD 83 undef = .bool false := (hw.at_ 4 83 rfl (hd ⟨4, .guard⟩ (by simp) rfl))
                  have hv84 : a'.tmps.getD 84 undef = .agg #[.int .i64 ki, .int .i64 n1, .int .u64 n2, .int .i64 (hn : Int), .slice Hj j chj, .slice none 0 0, .int .i64 0, .int .u64 0, .int .u64 0, .slice none 0 0] := (hw.at_ 5 84 rfl (hd ⟨5, .data⟩ (by simp) rfl))
                  refine step_guarded (j := 4) (b := false) (s := 83) rfl rfl (by rw [hw.size]; exact Nat.lt_of_lt_of_eq (show 83 < 98 by omega) rfl) hgd ?_
                  unfold Oper.wp
                  simp only [execOp]
                  go_simp
                  refine (HMY.out w' hw.below).mono ?_
                  rintro e w2 ⟨rfl, hb2⟩
                  exact hK _ _ hb2.out (fun s hs => by cases hs; rfl)
                · intro listed a' w' hw hd K hK
                  have hgd : a'.tmps.getD 83 undef = .bool false := (hw.at_ 4 83 rfl (hd ⟨4, .guard⟩ (by simp) rfl))
                  have hv85 : a'.tmps.getD 85 undef = .bool true := (hw.at_ 6 85 rfl (hd ⟨6, .data⟩ (by simp) rfl))
                  refine step_guarded (j := 4) (b := false) (s := 83) rfl rfl (by rw [hw.size]; exact Nat.lt_of_lt_of_eq (show 83 < 98 by omega) rfl) hgd ?_
                  unfold Oper.wp
                  simp only [execOp]
                  go_simp
                  exact hK _ _ (Below.refl _ _) (fun s hs => by cases hs; rfl)
                · intro listed a' w' hw hd K hK
                  have hv83 : a'.tmps.getD 83 undef = .bool false := (hw.at_ 4 83 rfl (hd ⟨4, .data⟩ (by simp) rfl))
                  have hv86 : a'.tmps.getD 86 undef = .bool false := (hw.at_ 7 86 rfl (hd ⟨7, .data⟩ (by simp) rfl))
                  refine step_free rfl ?_
                  unfold Oper.wp
                  simp only [execOp]
                  go_simp
                  exact hK _ _ (Below.refl _ _) (fun s hs => by cases hs; rfl)
                · intro listed a' w' hw hd K hK
                  refine step_free rfl ?_
                  apply wp_move
                  exact hK _ _ (Below.refl _ _) (fun s hs => by cases hs; exact (hw.at_ 8 87 rfl (hd ⟨8, .data⟩ (by simp) rfl)))
                · intro listed a' w' hw hd K hK
                  have hgd : a'.tmps.getD 88 undef = .bool false := (hw.at_ 9 88 rfl (hd ⟨9, .guard⟩ (by simp) rfl))
                  have hv5 := hw.kept 5 (by kernel_rfl)
                  obtain ⟨u0, u1, u2, u3, u4, u5, u6, u7, u8, u9⟩ := (RD.out.below hw.below).cells
                  refine step_guarded (j := 9) (b := false) (s := 88) rfl rfl (by rw [hw.size]; exact Nat.lt_of_lt_of_eq (show 88 < 98 by omega) rfl) hgd ?_
                  unfold Oper.wp
                  simp only [execOp]
                  go_simp
                  exact hK _ _ (Below.refl _ _) (fun s hs => by cases hs; rfl)
                · intro listed a' w' hw hd K hK
                  have hgd : a'.tmps.getD 88 undef = .bool false := (hw.at_ 9 88 rfl (hd ⟨9, .guard⟩ (by simp) rfl))
                  have hv89 : a'.tmps.getD 89 undef = .agg #[.int .i64 ki, .int .i64 n1, .int .u64 n2, .int .i64 (hn : Int), .slice Hj j chj, .slice none 0 0, .int .i64 0, .int .u64 0, .int .u64 0, .slice none 0 0] := (hw.at_ 10 89 rfl (hd ⟨10, .data⟩ (by simp) rfl))
                  refine step_guarded (j := 9) (b := false) (s := 88) rfl rfl (by rw [hw.size]; exact Nat.lt_of_lt_of_eq (show 88 < 98 by omega) rfl) hgd ?_
                  unfold Oper.wp
                  simp only [execOp]
                  go_simp
                  refine (HBY.out w' hw.below).mono ?_
                  rintro en w2 ⟨A9, c9, rfl, ho9, hb2⟩
                  exact hK _ _ hb2.out (fun s hs => by cases hs; exact ⟨A9, c9, rfl, ho9.out.lower (Nat.zero_le _)⟩)
                · intro listed a' w' hw hd K hK
                  have hgd : a'.tmps.getD 88 undef = .bool false := (hw.at_ 9 88 rfl (hd ⟨9, .guard⟩ (by simp) rfl))
                  have hv90 : KRdP M w' (a'.tmps.getD 90 undef) := (hw.at_ 11 90 rfl (hd ⟨11, .data⟩ (by simp) rfl))
                  obtain ⟨A9, c9, e9, ho9⟩ := hv90
                  have cs := conv_str c9 ho9.bytes rfl
                  rw [HSP.out] at cs
                  refine step_guarded (j := 9) (b := false) (s := 88) rfl rfl (by rw [hw.size]; exact Nat.lt_of_lt_of_eq (show 88 < 98 by omega) rfl) hgd ?_
                  unfold Oper.wp
                  simp only [execOp]
                  go_simp
                  exact hK _ _ (Below.refl _ _) (fun s hs => by cases hs; rfl)
                · intro listed a' w' hw hd K hK
                  have hgd : a'.tmps.getD 88 undef = .bool false := (hw.at_ 9 88 rfl (hd ⟨9, .guard⟩ (by simp) rfl))
                  refine step_guarded (j := 9) (b := false) (s := 88) rfl rfl (by rw [hw.size]; exact Nat.lt_of_lt_of_eq (show 88 < 98 by omega) rfl) hgd ?_
                  apply wp_move
                  exact hK _ _ (Below.refl _ _) (fun s hs => by cases hs; exact hw.kept 0 (by kernel_rfl))
                · intro listed a' w' hw hd K hK
                  have hgd : a'.tmps.getD 88 undef = .bool false := (hw.at_ 9 88 rfl (hd ⟨9, .guard⟩ (by simp) rfl))
                  have hv92 : a'.tmps.getD 92 undef = Value.slice A n cap := (hw.at_ 13 92 rfl (hd ⟨13, .data⟩ (by simp) rfl))
                  have cs := CS.out w' (ktr BD.out hw.below)
                  refine step_guarded (j := 9) (b := false) (s := 88) rfl rfl (by rw [hw.size]; exact Nat.lt_of_lt_of_eq (show 88 < 98 by omega) rfl) hgd ?_
                  unfold Oper.wp
                  simp only [execOp]
                  go_simp
                  exact hK _ _ (Below.refl _ _) (fun s hs => by cases hs; rfl)
                · intro listed a' w' hw hd K hK
                  have hgd : a'.tmps.getD 88 undef = .bool false := (hw.at_ 9 88 rfl (hd ⟨9, .guard⟩ (by simp) rfl))
                  have hv91 : a'.tmps.getD 91 undef = Value.string sp := (hw.at_ 12 91 rfl (hd ⟨12, .data⟩ (by simp) rfl))
                  have hv93 : a'.tmps.getD 93 undef = Value.string sl := (hw.at_ 14 93 rfl (hd ⟨14, .data⟩ (by simp) rfl))
                  have hq := HQ.out
                  refine step_guarded (j := 9) (b := false) (s := 88) rfl rfl (by rw [hw.size]; exact Nat.lt_of_lt_of_eq (show 88 < 98 by omega) rfl) hgd ?_
                  unfold Oper.wp
                  simp only [execOp]
                  go_simp
                  exact hK _ _ (Below.refl _ _) (fun s hs => by cases hs; rfl)
                · intro listed a' w' hw hd K hK
                  have hv88 : a'.tmps.getD 88 undef = .bool false := (hw.at_ 9 88 rfl (hd ⟨9, .data⟩ (by simp) rfl))
                  have hv94 : a'.tmps.getD 94 undef = .bool bq := (hw.at_ 15 94 rfl (hd ⟨15, .data⟩ (by simp) rfl))
                  refine step_free rfl ?_
                  unfold Oper.wp
                  simp only [execOp]
                  go_simp
                  exact hK _ _ (Below.refl _ _) (fun s hs => by cases hs; rfl)
              · intro listed a' w' hw hall
                have hk95 : a'.tmps.getD 95 undef = .bool bq := hw.at_ 16 95 rfl (hall 16 (Nat.lt_of_lt_of_eq (show 16 < 17 by omega) rfl))
                have R9 := Lib.hid (RD.out.below hw.below)
                have Z9 := Lib.hid (ZD.out.below hw.below)
                have B9 := Lib.hid (ktr BD.out hw.below)
                have H9 := Lib.hid (HD.out.on hw.below)
                have E9 := Lib.hid (own8_on ED.out hw.below)
                have P9 := Lib.hid (PD.out.on hw.below)
                have hp := hw.puts [79, 80, 81, 82, 83, 84, 85, 86, 87, 88, 89, 90, 91, 92, 93, 94, 95] (by kernel_rfl)
                clear hw hall
                rw [hp]
                simp only [List.foldl_cons, List.foldl_nil, hk95]
                generalize a'.tmps.getD 79 undef = u79
                generalize a'.tmps.getD 80 undef = u80
                generalize a'.tmps.getD 81 undef = u81
                generalize a'.tmps.getD 82 undef = u82
                generalize a'.tmps.getD 83 undef = u83
                generalize a'.tmps.getD 84 undef = u84
                generalize a'.tmps.getD 85 undef = u85
                generalize a'.tmps.getD 86 undef = u86
                generalize a'.tmps.getD 87 undef = u87
                generalize a'.tmps.getD 88 undef = u88
                generalize a'.tmps.getD 89 undef = u89
                generalize a'.tmps.getD 90 undef = u90
                generalize a'.tmps.getD 91 undef = u91
                generalize a'.tmps.getD 92 undef = u92
                generalize a'.tmps.getD 93 undef = u93
                generalize a'.tmps.getD 94 undef = u94
                clear hp hk95
                simp only [Act.put, List.setIfInBounds_toArray, List.set_cons_succ, List.set_cons_zero]
                cases bq with
                | true =>
                  have HN0 := Lib.hid (HN1.out rfl)
                  obtain ⟨y0, y1, y2, y3, y4, y5, y6, y7, y8, y9⟩ := Z9.out.cells
                  obtain ⟨g0, g1, g2, g3, g4, g5, g6, g7, g8, g9⟩ := Z9.out.thaw
                  have F1 := Lib.hid (Z9.out.all (.int .i64 0) (.int .i64 0) (.int .u64 0) (.int .i64 0) (.slice none 0 0) (.slice none 0 0) (.int .i64 0) (.int .u64 0) (.int .u64 0) (.slice none 0 0))
                  have F2 := Lib.hid ((only_all w' w.heap.size (.int .i64 0) (.int .i64 0) (.int .u64 0) (.int .i64 0) (.slice none 0 0) (.slice none 0 0) (.int .i64 0) (.int .u64 0) (.int .u64 0) (.slice none 0 0)).below B9.out (fun j hj => by omega) B9.out.size)
                  clear Z9 B9 R9 H9 E9 P9
                  go_wp2
                  refine bodyPost_ret (results_row_tmp rfl _ _ w.heap.size 31 #[.int .i64 0, .int .i64 0, .int .u64 0, .int .i64 0, .slice none 0 0, .slice none 0 0, .int .i64 0, .int .u64 0, .int .u64 0, .slice none 0 0] (0, 0) _ rfl F1.out Try.underlying31 rfl (by kernel_rfl)) rfl ?_
                  exact readE_none HN0.out F2
                | false =>
                  have HRS := Lib.hid (HS1.out rfl)
                  obtain ⟨x0, x1, x2, x3, x4, x5, x6, x7, x8, x9⟩ := R9.out.cells
                  obtain ⟨y0, y1, y2, y3, y4, y5, y6, y7, y8, y9⟩ := Z9.out.cells
                  obtain ⟨g0, g1, g2, g3, g4, g5, g6, g7, g8, g9⟩ := Z9.out.thaw
                  have F1 := Lib.hid (Z9.out.all (.int .i64 ki) (.int .i64 n1) (.int .u64 n2) (.int .i64 (hn : Int)) (.slice Hj j chj) (.slice none 0 0) (.int .i64 0) (.int .u64 0) (.int .u64 0) (.slice none 0 0))
                  have hT := only_all w' w.heap.size (.int .i64 ki) (.int .i64 n1) (.int .u64 n2) (.int .i64 (hn : Int)) (.slice Hj j chj) (.slice none 0 0) (.int .i64 0) (.int .u64 0) (.int .u64 0) (.slice none 0 0)
                  have F2 := Lib.hid (hT.below B9.out (fun j hj => by omega) B9.out.size)
                  have F3 := Lib.hid (H9.out.keep hT (fun j e e2 => by have := ownH_base H9.out j e; omega))
                  have F4 := Lib.hid (E9.out.keep hT (fun j e e2 => by have := (E9.out.lt e).1; omega))
                  have F5 := Lib.hid (P9.out.keep hT (fun j e e2 => by have := ownP_base P9.out j e; omega))
                  clear hT Z9 B9 R9 H9 E9 P9
                  go_wp2
                  refine bodyPost_ret (results_row_tmp rfl _ _ w.heap.size 31 #[.int .i64 ki, .int .i64 n1, .int .u64 n2, .int .i64 (hn : Int), .slice Hj j chj, .slice none 0 0, .int .i64 0, .int .u64 0, .int .u64 0, .slice none 0 0] (0, 0) _ rfl F1.out Try.underlying31 rfl (by kernel_rfl)) rfl ?_
                  exact readE_some HRS.out F3 F4 F5 F2
            · have HMY := HMY0
              rw [decide_eq_false hm] at HMY
              have HN0 := Lib.hid (readK_nomay HRK.out hm)
              clear hm HMY0
              refine region_steps (n := 98) (KRdB q ki (n1) (n2) ((hn : Int)) (0) (0) (0) (Hj) (none) (none) (j) (chj) (0) (0) (0) (0)) (by kernel_rfl) (by kernel_rfl) rfl (fun _ _ _ _ hb h => KRdB.mono hb h) ?_ ?_
              · refine And.intro ?_ (And.intro ?_ (And.intro ?_ (And.intro ?_ (And.intro ?_ (And.intro ?_ (And.intro ?_ (And.intro ?_ (And.intro ?_ (And.intro ?_ (And.intro ?_ (And.intro ?_ (And.intro ?_ (And.intro ?_ (And.intro ?_ (And.intro ?_ (And.intro ?_ (True.intro)))))))))))))))))
                · intro listed a' w' hw hd K hK
                  refine step_free rfl ?_
                  apply wp_move
                  exact hK _ _ (Below.refl _ _) (fun s hs => by cases hs; exact hw.kept 4 (by kernel_rfl))
                · intro listed a' w' hw hd K hK
                  have hv79 : a'.tmps.getD 79 undef = .pointer (some ⟨q, 0, none⟩) := (hw.at_ 0 79 rfl (hd ⟨0, .data⟩ (by simp) rfl))
                  refine step_free rfl ?_
                  unfold Oper.wp
                  simp only [execOp]
                  go_simp
                  exact hK _ _ (Below.refl _ _) (fun s hs => by cases hs; rfl)
                · intro listed a' w' hw hd K hK
                  have hv80 : a'.tmps.getD 80 undef = .pointer (some ⟨q, 0, none⟩) := (hw.at_ 1 80 rfl (hd ⟨1, .data⟩ (by simp) rfl))
                  refine step_free rfl ?_
                  unfold Oper.wp
                  simp only [execOp]
                  go_simp
                  exact hK _ _ (Below.refl _ _) (fun s hs => by cases hs; rfl)
                · intro listed a' w' hw hd K hK
                  have hv81 : a'.tmps.getD 81 undef = .pointer (some ⟨q, 1, none⟩) := (hw.at_ 2 81 rfl (hd ⟨2, .data⟩ (by simp) rfl))
                  have c1 := (ID.out.keep (S := fun _ => False) (Only.ofBelow hw.below) (fun h => h) (fun _ _ h => h)).bad_cell
                  rw [HBV.out] at c1
                  refine step_free rfl ?_
                  unfold Oper.wp
                  simp only [execOp]
                  go_simp
                  exact hK _ _ (Below.refl _ _) (fun s hs => by cases hs; rfl)
                · intro listed a' w' hw hd K hK
                  refine step_free rfl ?_
                  apply wp_move
                  exact hK _ _ (Below.refl _ _) (fun s hs => by cases hs; exact (hw.at_ 3 82 rfl (hd ⟨3, .data⟩ (by simp) rfl)))
                · intro listed a' w' hw hd K hK
                  have hgd : a'.tmps.getD 83 undef = .bool false := (hw.at_ 4 83 rfl (hd ⟨4, .guard⟩ (by simp) rfl))
                  have hv5 := hw.kept 5 (by kernel_rfl)
                  obtain ⟨u0, u1, u2, u3, u4, u5, u6, u7, u8, u9⟩ := (RD.out.below hw.below).cells
                  refine step_guarded (j := 4) (b := false) (s := 83) rfl rfl (by rw [hw.size]; exact Nat.lt_of_lt_of_eq (show 83 < 98 by omega) rfl) hgd ?_
                  unfold Oper.wp
                  simp only [execOp]
                  go_simp
                  exact hK _ _ (Below.refl _ _) (fun s hs => by cases hs; rfl)
                · intro listed a' w' hw hd K hK
                  have hgd : a'.tmps.getD 83 undef = .bool false := (hw.at_ 4 83 rfl (hd ⟨4, .guard⟩ (by simp) rfl))
                  have hv84 : a'.tmps.getD 84 undef = .agg #[.int .i64 ki, .int .i64 n1, .int .u64 n2, .int .i64 (hn : Int), .slice Hj j chj, .slice none 0 0, .int .i64 0, .int .u64 0, .int .u64 0, .slice none 0 0] := (hw.at_ 5 84 rfl (hd ⟨5, .data⟩ (by simp) rfl))
                  refine step_guarded (j := 4) (b := false) (s := 83) rfl rfl (by rw [hw.size]; exact Nat.lt_of_lt_of_eq (show 83 < 98 by omega) rfl) hgd ?_
                  unfold Oper.wp
                  simp only [execOp]
                  go_simp
                  refine (HMY.out w' hw.below).mono ?_
                  rintro e w2 ⟨rfl, hb2⟩
                  exact hK _ _ hb2.out (fun s hs => by cases hs; rfl)
                · intro listed a' w' hw hd K hK
                  have hgd : a'.tmps.getD 83 undef = .bool false := (hw.at_ 4 83 rfl (hd ⟨4, .guard⟩ (by simp) rfl))
                  have hv85 : a'.tmps.getD 85 undef = .bool false := (hw.at_ 6 85 rfl (hd ⟨6, .data⟩ (by simp) rfl))
                  refine step_guarded (j := 4) (b := false) (s := 83) rfl rfl (by rw [hw.size]; exact Nat.lt_of_lt_of_eq (show 83 < 98 by omega) rfl) hgd ?_
                  unfold Oper.wp
                  simp only [execOp]
                  go_simp
                  exact hK _ _ (Below.refl _ _) (fun s hs => by cases hs; rfl)
                · intro listed a' w' hw hd K hK
                  have hv83 : a'.tmps.getD 83 undef = .bool false := (hw.at_ 4 83 rfl (hd ⟨4, .data⟩ (by simp) rfl))
                  have hv86 : a'.tmps.getD 86 undef = .bool true := (hw.at_ 7 86 rfl (hd ⟨7, .data⟩ (by simp) rfl))
                  refine step_free rfl ?_
                  unfold Oper.wp
                  simp only [execOp]
                  go_simp
                  exact hK _ _ (Below.refl _ _) (fun s hs => by cases hs; rfl)
                · intro listed a' w' hw hd K hK
                  refine step_free rfl ?_
                  apply wp_move
                  exact hK _ _ (Below.refl _ _) (fun s hs => by cases hs; exact (hw.at_ 8 87 rfl (hd ⟨8, .data⟩ (by simp) rfl)))
                · intro listed a' w' hw hd K hK
                  have hgd : a'.tmps.getD 88 undef = .bool true := (hw.at_ 9 88 rfl (hd ⟨9, .guard⟩ (by simp) rfl))
                  refine step_unwanted (j := 9) (b := false) (s := 88) rfl rfl (by rw [hgd]; exact fun h => by cases h) ?_
                  exact hK _ _ (Below.refl _ _) (fun s hs => by cases hs; rfl)
                · intro listed a' w' hw hd K hK
                  have hgd : a'.tmps.getD 88 undef = .bool true := (hw.at_ 9 88 rfl (hd ⟨9, .guard⟩ (by simp) rfl))
                  refine step_unwanted (j := 9) (b := false) (s := 88) rfl rfl (by rw [hgd]; exact fun h => by cases h) ?_
                  exact hK _ _ (Below.refl _ _) (fun s hs => by cases hs; rfl)
                · intro listed a' w' hw hd K hK
                  have hgd : a'.tmps.getD 88 undef = .bool true := (hw.at_ 9 88 rfl (hd ⟨9, .guard⟩ (by simp) rfl))
                  refine step_unwanted (j := 9) (b := false) (s := 88) rfl rfl (by rw [hgd]; exact fun h => by cases h) ?_
                  exact hK _ _ (Below.refl _ _) (fun s hs => by cases hs; rfl)
                · intro listed a' w' hw hd K hK
                  have hgd : a'.tmps.getD 88 undef = .bool true := (hw.at_ 9 88 rfl (hd ⟨9, .guard⟩ (by simp) rfl))
                  refine step_unwanted (j := 9) (b := false) (s := 88) rfl rfl (by rw [hgd]; exact fun h => by cases h) ?_
                  exact hK _ _ (Below.refl _ _) (fun s hs => by cases hs; rfl)
                · intro listed a' w' hw hd K hK
                  have hgd : a'.tmps.getD 88 undef = .bool true := (hw.at_ 9 88 rfl (hd ⟨9, .guard⟩ (by simp) rfl))
                  refine step_unwanted (j := 9) (b := false) (s := 88) rfl rfl (by rw [hgd]; exact fun h => by cases h) ?_
                  exact hK _ _ (Below.refl _ _) (fun s hs => by cases hs; rfl)
                · intro listed a' w' hw hd K hK
                  have hgd : a'.tmps.getD 88 undef = .bool true := (hw.at_ 9 88 rfl (hd ⟨9, .guard⟩ (by simp) rfl))
                  refine step_unwanted (j := 9) (b := false) (s := 88) rfl rfl (by rw [hgd]; exact fun h => by cases h) ?_
                  exact hK _ _ (Below.refl _ _) (fun s hs => by cases hs; rfl)
                · intro listed a' w' hw hd K hK
                  have hv88 : a'.tmps.getD 88 undef = .bool true := (hw.at_ 9 88 rfl (hd ⟨9, .data⟩ (by simp) rfl))
                  have hv94 : a'.tmps.getD 94 undef = undef := (hw.at_ 15 94 rfl (hd ⟨15, .data⟩ (by simp) rfl))
                  refine step_free rfl ?_
                  unfold Oper.wp
                  simp only [execOp]
                  go_simp
                  exact hK _ _ (Below.refl _ _) (fun s hs => by cases hs; rfl)
              · intro listed a' w' hw hall
                have hk95 : a'.tmps.getD 95 undef = .bool true := hw.at_ 16 95 rfl (hall 16 (Nat.lt_of_lt_of_eq (show 16 < 17 by omega) rfl))
                have R9 := Lib.hid (RD.out.below hw.below)
                have Z9 := Lib.hid (ZD.out.below hw.below)
                have B9 := Lib.hid (ktr BD.out hw.below)
                have H9 := Lib.hid (HD.out.on hw.below)
                have E9 := Lib.hid (own8_on ED.out hw.below)
                have P9 := Lib.hid (PD.out.on hw.below)
                have hp := hw.puts [79, 80, 81, 82, 83, 84, 85, 86, 87, 88, 89, 90, 91, 92, 93, 94, 95] (by kernel_rfl)
                clear hw hall
                rw [hp]
                simp only [List.foldl_cons, List.foldl_nil, hk95]
                generalize a'.tmps.getD 79 undef = u79
                generalize a'.tmps.getD 80 undef = u80
                generalize a'.tmps.getD 81 undef = u81
                generalize a'.tmps.getD 82 undef = u82
                generalize a'.tmps.getD 83 undef = u83
                generalize a'.tmps.getD 84 undef = u84
                generalize a'.tmps.getD 85 undef = u85
                generalize a'.tmps.getD 86 undef = u86
                generalize a'.tmps.getD 87 undef = u87
                generalize a'.tmps.getD 88 undef = u88
                generalize a'.tmps.getD 89 undef = u89
                generalize a'.tmps.getD 90 undef = u90
                generalize a'.tmps.getD 91 undef = u91
                generalize a'.tmps.getD 92 undef = u92
                generalize a'.tmps.getD 93 undef = u93
                generalize a'.tmps.getD 94 undef = u94
                clear hp hk95
                simp only [Act.put, List.setIfInBounds_toArray, List.set_cons_succ, List.set_cons_zero]
                obtain ⟨y0, y1, y2, y3, y4, y5, y6, y7, y8, y9⟩ := Z9.out.cells
                obtain ⟨g0, g1, g2, g3, g4, g5, g6, g7, g8, g9⟩ := Z9.out.thaw
                have F1 := Lib.hid (Z9.out.all (.int .i64 0) (.int .i64 0) (.int .u64 0) (.int .i64 0) (.slice none 0 0) (.slice none 0 0) (.int .i64 0) (.int .u64 0) (.int .u64 0) (.slice none 0 0))
                have F2 := Lib.hid ((only_all w' w.heap.size (.int .i64 0) (.int .i64 0) (.int .u64 0) (.int .i64 0) (.slice none 0 0) (.slice none 0 0) (.int .i64 0) (.int .u64 0) (.int .u64 0) (.slice none 0 0)).below B9.out (fun j hj => by omega) B9.out.size)
                clear Z9 B9 R9 H9 E9 P9
                go_wp2
                refine bodyPost_ret (results_row_tmp rfl _ _ w.heap.size 31 #[.int .i64 0, .int .i64 0, .int .u64 0, .int .i64 0, .slice none 0 0, .slice none 0 0, .int .i64 0, .int .u64 0, .int .u64 0, .slice none 0 0] (0, 0) _ rfl F1.out Try.underlying31 rfl (by kernel_rfl)) rfl ?_
                exact readE_none HN0.out F2
end Go.Proofs.Ytlcddfkhklmieaa
