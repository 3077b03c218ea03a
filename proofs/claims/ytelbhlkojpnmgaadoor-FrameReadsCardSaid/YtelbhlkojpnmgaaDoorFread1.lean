/-
  What frame's read takes. For at most 1,048,576 bytes.
-/
import Derived.Test.YtelbhlkojpnmgaaDoorFget
import Derived.Test.YtelbhlkojpnmgaaDoorFnum
import Derived.Test.YtelbhlkojpnmgaaDoorFrows
import Derived.Test.YtelbhlkojpnmgaaDoorGa
namespace Go.Proofs.YtelbhlkojpnmgaaDoor
set_option maxRecDepth 20000
open Go.RowKit

/-- What read answers. -/
def TakeF (q : Nat) (d : Option Nat) (l : List UInt8) (w : World) (e : Ending) (w' : World) : Prop :=
  ∃ A cap, e = .returned (frV (getF l) A (gb l).1.length cap) ∧ Hid (Wbl w' w.heap.size A cap (gb l).1) ∧ Hid (Rd RdT w' q d (gb l).2.l (gb l).2.bad) ∧ Hid (Only (fun k => k = q) w w')
theorem wrap_byte {x : Nat} (h : x < 256) : wrap64 (x : Int) = (x : Int) := by unfold wrap64; omega
theorem wide_le (s : RS) : (rWide s 1).2.l.length ≤ s.l.length := by
  unfold rWide
  split
  · exact Nat.le_refl _
  · simp
theorem len_six {xs : List Nat} {m : Nat} (h : xs.length = m) (hm : m < 6) : (m = 0 ∧ xs = []) ∨ (m = 1 ∧ ∃ a, xs = [a]) ∨ (m = 2 ∧ ∃ a b, xs = [a, b]) ∨ (m = 3 ∧ ∃ a b c, xs = [a, b, c]) ∨ (m = 4 ∧ ∃ a b c d, xs = [a, b, c, d]) ∨ (m = 5 ∧ ∃ a b c d e, xs = [a, b, c, d, e]) := by
  subst h
  match xs, hm with
  | [], _ => exact .inl ⟨rfl, rfl⟩
  | [a], _ => exact .inr (.inl ⟨rfl, a, rfl⟩)
  | [a, b], _ => exact .inr (.inr (.inl ⟨rfl, a, b, rfl⟩))
  | [a, b, c], _ => exact .inr (.inr (.inr (.inl ⟨rfl, a, b, c, rfl⟩)))
  | [a, b, c, d], _ => exact .inr (.inr (.inr (.inr (.inl ⟨rfl, a, b, c, d, rfl⟩))))
  | [a, b, c, d, e], _ => exact .inr (.inr (.inr (.inr (.inr ⟨rfl, a, b, c, d, e, rfl⟩))))
/-- A step of the loop: so many numbers have been read. -/
def TakeRel (q : Nat) (d : Option Nat) (fb : Nat) (c0 c1 c2 : Int) (s : RS) (w : World) (ix : Value) (wr : World) : Prop :=
  ∃ (m : Nat) (xs : List Nat) (z : RS), m ≤ 6 ∧ ix = .int .i64 (m : Int) ∧ Hid (uints m s = (xs, z)) ∧ Hid (FRow fb c0 c1 c2 (xs.getD 0 0 : Nat) (xs.getD 1 0 : Nat) (xs.getD 2 0 : Nat) (xs.getD 3 0 : Nat) (xs.getD 4 0 : Nat) (xs.getD 5 0 : Nat) none 0 0 25 wr) ∧
    Hid (Rd RdT wr q d z.l z.bad) ∧ Hid (Only (fun k => k = q) w wr) ∧ Hid (FRow w.heap.size 0 0 0 0 0 0 0 0 0 none 0 0 25 wr)
theorem uints_step {k : Nat} {s z : RS} {xs : List Nat} (h : uints k s = (xs, z)) : uints (k + 1) s = (xs ++ [(rUint z).1], (rUint z).2) := by
  rw [uints, h]
set_option maxHeartbeats 8000000 in
theorem read_any (q : Nat) (d : Option Nat) (l : List UInt8) (w : World) (h : Rd RdT w q d l false) (hr : l.length ≤ 1048576) :
    Calls Tryd.prog 36 #[.pointer (some ⟨q, 0, none⟩)] w (TakeF q d l w) := by
  have Z := Lib.hid (zrow_new w)
  have HQ := h.lt
  have HDQ := Lib.hid h.dlt
  have B1 := Lib.hid ((Only.refl (fun k => k = q) w).alloc (.cells #[.int .i64 0, .int .i64 0, .int .i64 0, .int .u64 0, .int .u64 0, .int .u64 0, .int .u64 0, .int .u64 0, .int .u64 0, .slice none 0 0] 25))
  have RD := Lib.hid (h.keep ((Only.refl (fun _ => False) w).alloc (.cells #[.int .i64 0, .int .i64 0, .int .i64 0, .int .u64 0, .int .u64 0, .int .u64 0, .int .u64 0, .int .u64 0, .int .u64 0, .slice none 0 0] 25)) (fun h => h) (fun _ _ h => h))
  clear h
  go_enter Tryd.func36, Tryd.ntmps36
  go_wp2_with fail
  generalize w.alloc (.cells #[.int .i64 0, .int .i64 0, .int .i64 0, .int .u64 0, .int .u64 0, .int .u64 0, .int .u64 0, .int .u64 0, .int .u64 0, .slice none 0 0] 25) = W1 at *
  have hl0 := g0_lt l
  have hl1 := g1_lt l
  have hl2 := g2_lt l
  have HS : Hid ((g2 l).2.l.length ≤ 1048576) := Lib.hid (by
    have e1 := wide_le ⟨l, false⟩
    have e2 := wide_le (g0 l).2
    have e3 := wide_le (g1 l).2
    unfold g2 g1 g0 at *
    simp only at *
    omega)
  have hq1 : q ≠ w.heap.size := by omega
  refine (ru8_any q d ⟨l, false⟩ W1 RD.out).mono ?_
  rintro e W2 ⟨rfl, h1, h2⟩
  change Hid (Rd RdT W2 q d (g0 l).2.l (g0 l).2.bad) at h1
  have B2 := Lib.hid (only_trans B1.out h2.out)
  have Z2 := Lib.hid (Z.out.only h2.out (fun e => hq1 e.symm))
  clear RD B1 Z h2
  change (fun e w => _) _ _
  rw [show rWide ⟨l, false⟩ 1 = g0 l from rfl]
  have e0 := wrap_byte hl0
  generalize hc0 : (((g0 l).1 : Nat) : Int) = c0 at e0 ⊢
  have HC0 := Lib.hid hc0
  clear hc0 hl0
  go_wp2_with fail
  refine (ru8_any q d (g0 l).2 W2 h1.out).mono ?_
  rintro e W3 ⟨rfl, h3, h2⟩
  change Hid (Rd RdT W3 q d (g1 l).2.l (g1 l).2.bad) at h3
  have B3 := Lib.hid (only_trans B2.out h2.out)
  have Z3 := Lib.hid (Z2.out.only h2.out (fun e => hq1 e.symm))
  clear B2 Z2 h2 h1
  rw [show rWide (g0 l).2 1 = g1 l from rfl]
  have e1 := wrap_byte hl1
  generalize hc1 : (((g1 l).1 : Nat) : Int) = c1 at e1 ⊢
  have HC1 := Lib.hid hc1
  clear hc1 hl1
  go_wp2_with fail
  refine (ru8_any q d (g1 l).2 W3 h3.out).mono ?_
  rintro e W4 ⟨rfl, h1, h2⟩
  change Hid (Rd RdT W4 q d (g2 l).2.l (g2 l).2.bad) at h1
  have B4 := Lib.hid (only_trans B3.out h2.out)
  have Z4 := Lib.hid (Z3.out.only h2.out (fun e => hq1 e.symm))
  clear B3 Z3 h2 h3
  rw [show rWide (g1 l).2 1 = g2 l from rfl]
  have e2 := wrap_byte hl2
  generalize hc2 : (((g2 l).1 : Nat) : Int) = c2 at e2 ⊢
  have HC2 := Lib.hid hc2
  clear hc2 hl2
  go_wp2_with fail
  have FR := Lib.hid (frow_new (k := c0) (s := c1) (t := c2) (i := 0) (c := 0) (p := 0) (q := 0) (a := 0) (e := 0) (A := none) (n := 0) (cap := 0) (ty := 25) W4)
  have RD := Lib.hid (h1.out.keep ((Only.refl (fun _ => False) W4).alloc (.cells #[.int .i64 c0, .int .i64 c1, .int .i64 c2, .int .u64 0, .int .u64 0, .int .u64 0, .int .u64 0, .int .u64 0, .int .u64 0, .slice none 0 0] 25)) (fun h => h) (fun _ _ h => h))
  have B5 := Lib.hid (B4.out.alloc (.cells #[.int .i64 c0, .int .i64 c1, .int .i64 c2, .int .u64 0, .int .u64 0, .int .u64 0, .int .u64 0, .int .u64 0, .int .u64 0, .slice none 0 0] 25))
  have Z5 := Lib.hid (Z4.out.only ((Only.refl (fun _ => False) W4).alloc (.cells #[.int .i64 c0, .int .i64 c1, .int .i64 c2, .int .u64 0, .int .u64 0, .int .u64 0, .int .u64 0, .int .u64 0, .int .u64 0, .slice none 0 0] 25)) (fun h => h))
  have hfw : w.heap.size < W4.heap.size := lt_of_heap Z4.out
  clear h1 B4 Z4
  generalize W4.alloc (.cells #[.int .i64 c0, .int .i64 c1, .int .i64 c2, .int .u64 0, .int .u64 0, .int .u64 0, .int .u64 0, .int .u64 0, .int .u64 0, .slice none 0 0] 25) = W5 at *
  generalize W4.heap.size = fb at *
  refine (numbers_any fb W5).mono ?_
  rintro e W6 ⟨rfl, hb6⟩
  have o6 : Only (fun _ => False) W5 W6 := ⟨hb6.out.os, hb6.out.tape, hb6.out.output, hb6.out.size, fun j hj _ => hb6.out.block j hj⟩
  have FR6 := Lib.hid (FR.out.only o6 (fun h => h))
  have RD6 := Lib.hid (RD.out.keep o6 (fun h => h) (fun _ _ h => h))
  have B6 := Lib.hid (B5.out.trans o6 fun _ _ h => h.elim)
  have Z6 := Lib.hid (Z5.out.only o6 (fun h => h))
  clear FR RD B5 Z5 hb6 o6
  have HG2 := Lib.hid (show gu l = uints 6 (g2 l).2 from rfl)
  generalize (g2 l).2 = s at HS RD6 HG2
  have X0 := Lib.hid (fun W => (show (Instr.index 64 (.agg (ptr6 fb)) (.int .i64 0)).run Tryd.prog W = .ok (.pointer (some ⟨fb, 3, none⟩)) W from index6 fb W 0 (by omega)))
  have X1 := Lib.hid (fun W => (show (Instr.index 64 (.agg (ptr6 fb)) (.int .i64 1)).run Tryd.prog W = .ok (.pointer (some ⟨fb, 4, none⟩)) W from index6 fb W 1 (by omega)))
  have X2 := Lib.hid (fun W => (show (Instr.index 64 (.agg (ptr6 fb)) (.int .i64 2)).run Tryd.prog W = .ok (.pointer (some ⟨fb, 5, none⟩)) W from index6 fb W 2 (by omega)))
  have X3 := Lib.hid (fun W => (show (Instr.index 64 (.agg (ptr6 fb)) (.int .i64 3)).run Tryd.prog W = .ok (.pointer (some ⟨fb, 6, none⟩)) W from index6 fb W 3 (by omega)))
  have X4 := Lib.hid (fun W => (show (Instr.index 64 (.agg (ptr6 fb)) (.int .i64 4)).run Tryd.prog W = .ok (.pointer (some ⟨fb, 7, none⟩)) W from index6 fb W 4 (by omega)))
  have X5 := Lib.hid (fun W => (show (Instr.index 64 (.agg (ptr6 fb)) (.int .i64 5)).run Tryd.prog W = .ok (.pointer (some ⟨fb, 8, none⟩)) W from index6 fb W 5 (by omega)))
  generalize ptr6 fb = ag at *
  go_wp2
  go_loopw [17] (fun ix wr => TakeRel q d fb c0 c1 c2 s w ix wr) (fun ix _ => 6 - (intOf ix).toNat)
  case atStart => exact ⟨0, [], s, by omega, rfl, Lib.hid rfl, FR6, RD6, B6, Z6⟩
  case round =>
    obtain ⟨m, xs, z, hm6, rfl, HXS, FR, RD, BB, ZR⟩ := hrel
    have hzl := uints_le s m
    rw [HXS.out] at hzl
    have hxl := uints_length m s
    rw [HXS.out] at hxl
    simp only at hzl hxl
    have hzl' : z.l.length ≤ 1048576 := Nat.le_trans hzl HS.out
    clear hzl FR6 RD6 B6 Z6
    by_cases hm : m < 6
    · rcases len_six hxl hm with ⟨rfl, rfl⟩ | ⟨rfl, a0, rfl⟩ | ⟨rfl, a0, a1, rfl⟩ | ⟨rfl, a0, a1, a2, rfl⟩ | ⟨rfl, a0, a1, a2, a3, rfl⟩ | ⟨rfl, a0, a1, a2, a3, a4, rfl⟩
      · have FR : Hid (FRow fb c0 c1 c2 0 0 0 0 0 0 none 0 0 25 wr) := FR
        have hix := X0.out
        clear hm hm6 hxl
        have HUS := Lib.hid (uints_step HXS.out)
        go_wp2_with fail
        refine (uint_any q d z _ RD.out (by omega)).mono ?_
        rintro e V6 ⟨rfl, h1, h2⟩
        have FR6 := Lib.hid (FR.out.only h2.out (by omega))
        have ZR6 := Lib.hid (ZR.out.only h2.out (by omega))
        have BB6 := Lib.hid (only_trans BB.out h2.out)
        clear FR ZR BB RD h2 HXS hzl'
        obtain ⟨z0, z1, z2, z3, z4, z5, z6, z7, z8, z9⟩ := FR6.out.box
        have fz := FR6.out.thaw 3
        generalize hx : (rUint z).1 = x at *
        generalize hz : (rUint z).2 = z' at *
        have hO : Only (fun k => k = fb) V6 (V6.setCell ⟨fb, 3, none⟩ (.int .u64 (x : Int))) := (Only.refl (fun k => k = fb) V6).setCell (p := ⟨fb, 3, none⟩) (.inl rfl) _
        have RD := Lib.hid (h1.out.keep hO (by omega) (fun k hk => by have := HDQ.out k hk; omega))
        have FR := Lib.hid (FR6.out.set3 (x : Int))
        have ZR := Lib.hid (ZR6.out.only hO (by omega))
        have BB := Lib.hid (BB6.out.trans hO fun j hj e => by omega)
        clear hO h1 hx hz
        go_wp2
        go_roundw
        case rel => exact ⟨1, _, _, by omega, by go_num, HUS, FR, RD, BB, ZR⟩
        case measure => simp [intOf]
      · have FR : Hid (FRow fb c0 c1 c2 (a0 : Int) 0 0 0 0 0 none 0 0 25 wr) := FR
        have hix := X1.out
        clear hm hm6 hxl
        have HUS := Lib.hid (uints_step HXS.out)
        go_wp2_with fail
        refine (uint_any q d z _ RD.out (by omega)).mono ?_
        rintro e V6 ⟨rfl, h1, h2⟩
        have FR6 := Lib.hid (FR.out.only h2.out (by omega))
        have ZR6 := Lib.hid (ZR.out.only h2.out (by omega))
        have BB6 := Lib.hid (only_trans BB.out h2.out)
        clear FR ZR BB RD h2 HXS hzl'
        obtain ⟨z0, z1, z2, z3, z4, z5, z6, z7, z8, z9⟩ := FR6.out.box
        have fz := FR6.out.thaw 4
        generalize hx : (rUint z).1 = x at *
        generalize hz : (rUint z).2 = z' at *
        have hO : Only (fun k => k = fb) V6 (V6.setCell ⟨fb, 4, none⟩ (.int .u64 (x : Int))) := (Only.refl (fun k => k = fb) V6).setCell (p := ⟨fb, 4, none⟩) (.inl rfl) _
        have RD := Lib.hid (h1.out.keep hO (by omega) (fun k hk => by have := HDQ.out k hk; omega))
        have FR := Lib.hid (FR6.out.set4 (x : Int))
        have ZR := Lib.hid (ZR6.out.only hO (by omega))
        have BB := Lib.hid (BB6.out.trans hO fun j hj e => by omega)
        clear hO h1 hx hz
        go_wp2
        go_roundw
        case rel => exact ⟨2, _, _, by omega, by go_num, HUS, FR, RD, BB, ZR⟩
        case measure => simp [intOf]
      · have FR : Hid (FRow fb c0 c1 c2 (a0 : Int) (a1 : Int) 0 0 0 0 none 0 0 25 wr) := FR
        have hix := X2.out
        clear hm hm6 hxl
        have HUS := Lib.hid (uints_step HXS.out)
        go_wp2_with fail
        refine (uint_any q d z _ RD.out (by omega)).mono ?_
        rintro e V6 ⟨rfl, h1, h2⟩
        have FR6 := Lib.hid (FR.out.only h2.out (by omega))
        have ZR6 := Lib.hid (ZR.out.only h2.out (by omega))
        have BB6 := Lib.hid (only_trans BB.out h2.out)
        clear FR ZR BB RD h2 HXS hzl'
        obtain ⟨z0, z1, z2, z3, z4, z5, z6, z7, z8, z9⟩ := FR6.out.box
        have fz := FR6.out.thaw 5
        generalize hx : (rUint z).1 = x at *
        generalize hz : (rUint z).2 = z' at *
        have hO : Only (fun k => k = fb) V6 (V6.setCell ⟨fb, 5, none⟩ (.int .u64 (x : Int))) := (Only.refl (fun k => k = fb) V6).setCell (p := ⟨fb, 5, none⟩) (.inl rfl) _
        have RD := Lib.hid (h1.out.keep hO (by omega) (fun k hk => by have := HDQ.out k hk; omega))
        have FR := Lib.hid (FR6.out.set5 (x : Int))
        have ZR := Lib.hid (ZR6.out.only hO (by omega))
        have BB := Lib.hid (BB6.out.trans hO fun j hj e => by omega)
        clear hO h1 hx hz
        go_wp2
        go_roundw
        case rel => exact ⟨3, _, _, by omega, by go_num, HUS, FR, RD, BB, ZR⟩
        case measure => simp [intOf]
      · have FR : Hid (FRow fb c0 c1 c2 (a0 : Int) (a1 : Int) (a2 : Int) 0 0 0 none 0 0 25 wr) := FR
        have hix := X3.out
        clear hm hm6 hxl
        have HUS := Lib.hid (uints_step HXS.out)
        go_wp2_with fail
        refine (uint_any q d z _ RD.out (by omega)).mono ?_
        rintro e V6 ⟨rfl, h1, h2⟩
        have FR6 := Lib.hid (FR.out.only h2.out (by omega))
        have ZR6 := Lib.hid (ZR.out.only h2.out (by omega))
        have BB6 := Lib.hid (only_trans BB.out h2.out)
        clear FR ZR BB RD h2 HXS hzl'
        obtain ⟨z0, z1, z2, z3, z4, z5, z6, z7, z8, z9⟩ := FR6.out.box
        have fz := FR6.out.thaw 6
        generalize hx : (rUint z).1 = x at *
        generalize hz : (rUint z).2 = z' at *
        have hO : Only (fun k => k = fb) V6 (V6.setCell ⟨fb, 6, none⟩ (.int .u64 (x : Int))) := (Only.refl (fun k => k = fb) V6).setCell (p := ⟨fb, 6, none⟩) (.inl rfl) _
        have RD := Lib.hid (h1.out.keep hO (by omega) (fun k hk => by have := HDQ.out k hk; omega))
        have FR := Lib.hid (FR6.out.set6 (x : Int))
        have ZR := Lib.hid (ZR6.out.only hO (by omega))
        have BB := Lib.hid (BB6.out.trans hO fun j hj e => by omega)
        clear hO h1 hx hz
        go_wp2
        go_roundw
        case rel => exact ⟨4, _, _, by omega, by go_num, HUS, FR, RD, BB, ZR⟩
        case measure => simp [intOf]
      · have FR : Hid (FRow fb c0 c1 c2 (a0 : Int) (a1 : Int) (a2 : Int) (a3 : Int) 0 0 none 0 0 25 wr) := FR
        have hix := X4.out
        clear hm hm6 hxl
        have HUS := Lib.hid (uints_step HXS.out)
        go_wp2_with fail
        refine (uint_any q d z _ RD.out (by omega)).mono ?_
        rintro e V6 ⟨rfl, h1, h2⟩
        have FR6 := Lib.hid (FR.out.only h2.out (by omega))
        have ZR6 := Lib.hid (ZR.out.only h2.out (by omega))
        have BB6 := Lib.hid (only_trans BB.out h2.out)
        clear FR ZR BB RD h2 HXS hzl'
        obtain ⟨z0, z1, z2, z3, z4, z5, z6, z7, z8, z9⟩ := FR6.out.box
        have fz := FR6.out.thaw 7
        generalize hx : (rUint z).1 = x at *
        generalize hz : (rUint z).2 = z' at *
        have hO : Only (fun k => k = fb) V6 (V6.setCell ⟨fb, 7, none⟩ (.int .u64 (x : Int))) := (Only.refl (fun k => k = fb) V6).setCell (p := ⟨fb, 7, none⟩) (.inl rfl) _
        have RD := Lib.hid (h1.out.keep hO (by omega) (fun k hk => by have := HDQ.out k hk; omega))
        have FR := Lib.hid (FR6.out.set7 (x : Int))
        have ZR := Lib.hid (ZR6.out.only hO (by omega))
        have BB := Lib.hid (BB6.out.trans hO fun j hj e => by omega)
        clear hO h1 hx hz
        go_wp2
        go_roundw
        case rel => exact ⟨5, _, _, by omega, by go_num, HUS, FR, RD, BB, ZR⟩
        case measure => simp [intOf]
      · have FR : Hid (FRow fb c0 c1 c2 (a0 : Int) (a1 : Int) (a2 : Int) (a3 : Int) (a4 : Int) 0 none 0 0 25 wr) := FR
        have hix := X5.out
        clear hm hm6 hxl
        have HUS := Lib.hid (uints_step HXS.out)
        go_wp2_with fail
        refine (uint_any q d z _ RD.out (by omega)).mono ?_
        rintro e V6 ⟨rfl, h1, h2⟩
        have FR6 := Lib.hid (FR.out.only h2.out (by omega))
        have ZR6 := Lib.hid (ZR.out.only h2.out (by omega))
        have BB6 := Lib.hid (only_trans BB.out h2.out)
        clear FR ZR BB RD h2 HXS hzl'
        obtain ⟨z0, z1, z2, z3, z4, z5, z6, z7, z8, z9⟩ := FR6.out.box
        have fz := FR6.out.thaw 8
        generalize hx : (rUint z).1 = x at *
        generalize hz : (rUint z).2 = z' at *
        have hO : Only (fun k => k = fb) V6 (V6.setCell ⟨fb, 8, none⟩ (.int .u64 (x : Int))) := (Only.refl (fun k => k = fb) V6).setCell (p := ⟨fb, 8, none⟩) (.inl rfl) _
        have RD := Lib.hid (h1.out.keep hO (by omega) (fun k hk => by have := HDQ.out k hk; omega))
        have FR := Lib.hid (FR6.out.set8 (x : Int))
        have ZR := Lib.hid (ZR6.out.only hO (by omega))
        have BB := Lib.hid (BB6.out.trans hO fun j hj e => by omega)
        clear hO h1 hx hz
        go_wp2
        go_roundw
        case rel => exact ⟨6, _, _, by omega, by go_num, HUS, FR, RD, BB, ZR⟩
        case measure => simp [intOf]
    · obtain rfl : m = 6 := by omega
      clear hm hm6
      rw [HXS.out] at HG2
      clear HXS
      have HGU1 := Lib.hid (congrArg Prod.fst HG2.out)
      have HGU2 := Lib.hid (congrArg Prod.snd HG2.out)
      simp only at HGU1 HGU2
      have HF := Lib.hid (show getF l = ⟨c0, c1, c2, xs.getD 0 0, xs.getD 1 0, xs.getD 2 0, xs.getD 3 0, xs.getD 4 0, xs.getD 5 0, (gb l).1⟩ from by
        unfold getF
        rw [HC0.out, HC1.out, HC2.out, HGU1.out])
      clear HGU1 HG2 HC1 HC2 hxl X0 X1 X2 X3 X4 X5
      generalize xs.getD 0 0 = v0 at FR HF
      generalize xs.getD 1 0 = v1 at FR HF
      generalize xs.getD 2 0 = v2 at FR HF
      generalize xs.getD 3 0 = v3 at FR HF
      generalize xs.getD 4 0 = v4 at FR HF
      generalize xs.getD 5 0 = v5 at FR HF
      obtain ⟨z0, z1, z2, z3, z4, z5, z6, z7, z8, z9⟩ := FR.out.box
      by_cases hk : (g0 l).1 = 2
      · have hkb : (c0 == 2) = true := by rw [← HC0.out, hk]; rfl
        obtain ⟨tx, s7, hx⟩ : ∃ t s, rText z 448 = (t, s) := ⟨_, _, rfl⟩
        have HGB := Lib.hid (show gb l = (tx, s7) from by unfold gb; rw [if_pos hk, HGU2.out, hx])
        clear hk HC0 HGU2
        go_wp2_with fail
        refine (text_any q d z 448 _ (by omega) (by omega) RD.out (by omega)).mono ?_
        rintro e V8 ⟨rfl, h1, h2⟩
        rw [hx] at h1 ⊢
        simp only at h1 ⊢
        clear hx
        have FR8 := Lib.hid (FR.out.only h2.out (by omega))
        have ZR8 := Lib.hid (ZR.out.only h2.out (by omega))
        have BB8 := Lib.hid (only_trans BB.out h2.out)
        clear FR ZR BB RD h2 z0 z1 z2 z3 z4 z5 z6 z7 z8 z9
        obtain ⟨V9, c9, C, hby, hno⟩ := conv_wbl ⟨tx.toArray⟩ V8
        have hsz : (⟨tx.toArray⟩ : ByteArray).size = tx.length := by simp [ByteArray.size]
        have hst : strL ⟨tx.toArray⟩ = tx := by simp [strL]
        rw [hst] at hby
        rw [hsz] at C
        clear hst hsz
        generalize (⟨tx.toArray⟩ : ByteArray) = sx at C ⊢
        have FR9 := Lib.hid (FR8.out.only hno.out (fun h => h))
        have ZR9 := Lib.hid (ZR8.out.only hno.out (fun h => h))
        have RD9 := Lib.hid (h1.out.keep hno.out (fun h => h) (fun _ _ h => h))
        have BB9 := Lib.hid (BB8.out.trans hno.out fun _ _ h => h.elim)
        have hb8 : fb < V8.heap.size := lt_of_heap FR8.out
        clear FR8 ZR8 h1 hno BB8
        generalize V8.heap.size = nb at C hby hb8
        obtain ⟨u0, u1, u2, u3, u4, u5, u6, u7, u8, u9⟩ := FR9.out.box
        have f9 := FR9.out.thaw 9
        have FR10 := FR9.out.set9 (some ⟨nb, 0, none⟩) tx.length c9
        obtain ⟨x0, x1, x2, x3, x4, x5, x6, x7, x8, x9⟩ := FR10.box
        obtain ⟨y0, y1, y2, y3, y4, y5, y6, y7, y8, y9⟩ := ZR9.out.box
        have g0 := ZR9.out.thaw 0
        have g1 := ZR9.out.thaw 1
        have g2 := ZR9.out.thaw 2
        have g3 := ZR9.out.thaw 3
        have g4 := ZR9.out.thaw 4
        have g5 := ZR9.out.thaw 5
        have g6 := ZR9.out.thaw 6
        have g7 := ZR9.out.thaw 7
        have g8 := ZR9.out.thaw 8
        have g9 := ZR9.out.thaw 9
        have hO9 : Only (fun k => k = fb) V9 (V9.setCell ⟨fb, 9, none⟩ (.slice (some ⟨nb, 0, none⟩) tx.length c9)) := (Only.refl (fun k => k = fb) V9).setCell (p := ⟨fb, 9, none⟩) (.inl rfl) _
        have hT := only_ten (V9.setCell ⟨fb, 9, none⟩ (.slice (some ⟨nb, 0, none⟩) tx.length c9)) w.heap.size (.int .i64 c0) (.int .i64 c1) (.int .i64 c2) (.int .u64 (v0 : Int)) (.int .u64 (v1 : Int)) (.int .u64 (v2 : Int)) (.int .u64 (v3 : Int)) (.int .u64 (v4 : Int)) (.int .u64 (v5 : Int)) (.slice (some ⟨nb, 0, none⟩) tx.length c9)
        have R1 := Lib.hid ((ZR9.out.only hO9 (by omega)).set c0 c1 c2 (v0 : Int) (v1 : Int) (v2 : Int) (v3 : Int) (v4 : Int) (v5 : Int) (some ⟨nb, 0, none⟩) tx.length c9)
        have R2 := Lib.hid ((hby.out.keep hO9 (fun k hk => by have : nb = k := Option.some.inj hk; omega)).keep hT (fun k hk => by have : nb = k := Option.some.inj hk; omega))
        have R3 := Lib.hid ((RD9.out.keep hO9 (by omega) (fun k hk => by have := HDQ.out k hk; omega)).keep hT (by omega) (fun k hk => by have := HDQ.out k hk; omega))
        have R4 := Lib.hid ((BB9.out.trans hO9 fun j hj e => by omega).trans hT fun j hj e => by omega)
        clear FR9 ZR9 RD9 BB9 hby hO9 hT FR10
        go_wp2
        refine bodyPost_ret (results_cell_row rfl _ _ w.heap.size 25 #[.int .i64 c0, .int .i64 c1, .int .i64 c2, .int .u64 (v0 : Int), .int .u64 (v1 : Int), .int .u64 (v2 : Int), .int .u64 (v3 : Int), .int .u64 (v4 : Int), .int .u64 (v5 : Int), .slice (some ⟨nb, 0, none⟩) tx.length c9] (0, 0) _ rfl R1.out Tryd.underlying25 rfl (by kernel_rfl)) rfl ?_
        refine ⟨some ⟨nb, 0, none⟩, c9, ?_, ?_, ?_, R4⟩
        · rw [HF.out, HGB.out]
          rfl
        · rw [HGB.out]
          exact Lib.hid (R2.out.lower (by omega))
        · rw [HGB.out]
          exact R3
      · have hkb : (c0 == 2) = false := by rw [← HC0.out, beq_eq_false_iff_ne]; intro h; omega
        have HGB := Lib.hid (show gb l = ([], z) from by unfold gb; rw [if_neg hk, HGU2.out])
        clear hk HC0 HGU2
        obtain ⟨y0, y1, y2, y3, y4, y5, y6, y7, y8, y9⟩ := ZR.out.box
        have g0 := ZR.out.thaw 0
        have g1 := ZR.out.thaw 1
        have g2 := ZR.out.thaw 2
        have g3 := ZR.out.thaw 3
        have g4 := ZR.out.thaw 4
        have g5 := ZR.out.thaw 5
        have g6 := ZR.out.thaw 6
        have g7 := ZR.out.thaw 7
        have g8 := ZR.out.thaw 8
        have g9 := ZR.out.thaw 9
        have hT := only_ten wr w.heap.size (.int .i64 c0) (.int .i64 c1) (.int .i64 c2) (.int .u64 (v0 : Int)) (.int .u64 (v1 : Int)) (.int .u64 (v2 : Int)) (.int .u64 (v3 : Int)) (.int .u64 (v4 : Int)) (.int .u64 (v5 : Int)) (.slice none 0 0)
        have R1 := Lib.hid (ZR.out.set c0 c1 c2 (v0 : Int) (v1 : Int) (v2 : Int) (v3 : Int) (v4 : Int) (v5 : Int) none 0 0)
        have R3 := Lib.hid (RD.out.keep hT (by omega) (fun k hk => by have := HDQ.out k hk; omega))
        have R4 := Lib.hid (BB.out.trans hT fun j hj e => by omega)
        clear FR ZR RD BB hT
        go_wp2
        refine bodyPost_ret (results_cell_row rfl _ _ w.heap.size 25 #[.int .i64 c0, .int .i64 c1, .int .i64 c2, .int .u64 (v0 : Int), .int .u64 (v1 : Int), .int .u64 (v2 : Int), .int .u64 (v3 : Int), .int .u64 (v4 : Int), .int .u64 (v5 : Int), .slice none 0 0] (0, 0) _ rfl R1.out Tryd.underlying25 rfl (by kernel_rfl)) rfl ?_
        refine ⟨none, 0, ?_, ?_, ?_, R4⟩
        · rw [HF.out, HGB.out]
          rfl
        · rw [HGB.out]
          exact Lib.hid Wbl.nil_
        · rw [HGB.out]
          exact R3
end Go.Proofs.YtelbhlkojpnmgaaDoor
