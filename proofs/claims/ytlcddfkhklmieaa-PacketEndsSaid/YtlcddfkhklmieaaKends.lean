/-
  The statement PacketEnds's walk: whatever packet, cut and byte, it answers true, and leaves all that was there as it was. No condition.
-/
import Derived.Test.YtlcddfkhklmieaaKback
import Derived.Test.YtlcddfkhklmieaaGb
namespace Go.Proofs.Ytlcddfkhklmieaa
set_option maxRecDepth 20000
open Go.RowKit

theorem i64_andK (n : Int) : bits .and .i64 n 65535 = n % 65536 := by
  have h3 : (BitVec.ofInt 64 65535).toNat = 2 ^ 16 - 1 := by decide
  have key : (BitVec.ofInt 64 n &&& BitVec.ofInt 64 65535).toNat = (n % ((2 ^ 64 : Nat) : Int)).toNat % 2 ^ 16 := by
    rw [BitVec.toNat_and, BitVec.toNat_ofInt, h3, Nat.and_two_pow_sub_one_eq_mod]
  show IntKind.i64.wrap ((BitVec.ofInt 64 n &&& BitVec.ofInt 64 65535).toNat : Nat) = n % 65536
  rw [key, IntKind.wrap_i64]
  omega
set_option maxHeartbeats 8000000 in
theorem kends_int (k s t h x y : Int) (z : Nat) (H A P : Option Addr) (nh ch n cap np cp : Nat) (hs : List Hd) (bd : List UInt8) (ps : List Life) (cut : Int) (mb : UInt8) (w : World) (hi : PIn w w.heap.size hs bd ps H nh A n cap P np cp) (ht : 0 ≤ t) (hy : 0 ≤ y) :
    Calls Try.prog 9 #[.agg #[.int .i64 k, .int .i64 s, .int .u64 t, .int .i64 h, .slice H nh ch, .slice A n cap, .int .i64 x, .int .u64 y, .int .u64 (z : Int), .slice P np cp], .int .i64 cut, .int .u8 ((mb.toNat : Nat) : Int)] w fun e w' => e = .returned (.bool true) ∧ Hid (Below w.heap.size w w') := by
  have K1 := Lib.hid (kbox_new (k := k) (s := s) (t := t) (h := h) (x := x) (y := y) (z := (z : Int)) (H := H) (A := A) (P := P) (nh := nh) (ch := ch) (n := n) (cap := cap) (np := np) (cp := cp) (w := w) 31)
  have B1 := Lib.hid (kbelow_box w (.cells #[.int .i64 k, .int .i64 s, .int .u64 t, .int .i64 h, .slice H nh ch, .slice A n cap, .int .i64 x, .int .u64 y, .int .u64 (z : Int), .slice P np cp] 31))
  have HI0 := Lib.hid hi
  clear hi
  go_enter Try.func9, Try.ntmps9
  obtain ⟨k0, k1, k2, k3, k4, k5, k6, k7, k8, k9⟩ := K1.out
  go_wp2_with fail
  generalize w.alloc (.cells #[.int .i64 k, .int .i64 s, .int .u64 t, .int .i64 h, .slice H nh ch, .slice A n cap, .int .i64 x, .int .u64 y, .int .u64 (z : Int), .slice P np cp] 31) = W1 at *
  clear k0 k1 k2 k3 k4 k5 k6 k7 k8 k9
  refine (long_any k s t h x y z H A P nh ch n cap np cp W1).mono ?_
  rintro en W2 ⟨rfl, hb⟩
  have K2 := Lib.hid (K1.out.below hb.out)
  have B2 := Lib.hid (ktr B1.out hb.out)
  clear K1
  by_cases hlg : 1000 < nh ∨ 300 < np ∨ 65536 < n
  · rw [decide_eq_true hlg]
    clear hlg
    go_wp2_with fail
    refine (awake6_any _).mono ?_
    rintro en W3 ⟨rfl, hb⟩
    have K3 := Lib.hid (K2.out.below hb.out)
    have B3 := Lib.hid (ktr B2.out hb.out)
    clear K2
    go_wp2
    go_ret
    exact ⟨rfl, B3⟩
  rw [decide_eq_false hlg]
  have HX := Lib.hid (show nh ≤ 1000 ∧ np ≤ 300 ∧ n ≤ 65536 by omega)
  clear hlg
  obtain ⟨k0, k1, k2, k3, k4, k5, k6, k7, k8, k9⟩ := K2.out
  go_wp2_with fail
  clear k0 k1 k2 k3 k4 k5 k6 k7 k8 k9
  refine (enc_at (k := k) (s := s) (t := t) (h := h) (x := x) (y := y) (z := z) (ch := ch) ((HI0.out.below B2.out).more B2.out.size) (Nat.le_refl _) ht hy (by have := HX.out; omega) (by have := HX.out; omega)).mono ?_
  rintro en W3 ⟨hb, h⟩
  have K3 := Lib.hid (K2.out.below hb.out)
  have B3 := Lib.hid (ktr B2.out hb.out)
  clear K2
  clear K3
  clear hb
  rcases h with ⟨hm, rfl⟩ | ⟨hm, A5, c5, rfl, ho⟩
  · clear hm
    go_wp2_with fail
    refine (awake6_any _).mono ?_
    rintro en W4 ⟨rfl, hb⟩
    have B4 := Lib.hid (ktr B3.out hb.out)
    go_wp2
    go_ret
    exact ⟨rfl, B4⟩
  · have H448 := Lib.hid (packetL_le hm)
    have HPOS := Lib.hid (show 0 < (packetL ((⟨k, (s, t), h, hs, bd, (x, y), z, ps⟩) : Pk)).length by unfold packetL; simp)
    have HCUT := Lib.hid (fun (j : Nat) (hj : j < (packetL ((⟨k, (s, t), h, hs, bd, (x, y), z, ps⟩) : Pk)).length) => show readK ((packetL ((⟨k, (s, t), h, hs, bd, (x, y), z, ps⟩) : Pk)).take j) = none from by
      cases hr : readK ((packetL ((⟨k, (s, t), h, hs, bd, (x, y), z, ps⟩) : Pk)).take j) with
      | none => rfl
      | some q =>
        obtain ⟨hq, e⟩ := readK_some hr
        have ht2 := packetL_ends hm hq (t := (packetL ((⟨k, (s, t), h, hs, bd, (x, y), z, ps⟩) : Pk)).drop j) (by rw [e, List.take_append_drop])
        have := congrArg List.length ht2
        rw [List.length_drop, List.length_nil] at this
        omega)
    have HMORE := Lib.hid (fun (xm : UInt8) => show readK (packetL ((⟨k, (s, t), h, hs, bd, (x, y), z, ps⟩) : Pk) ++ [xm]) = none from by
      cases hr : readK (packetL ((⟨k, (s, t), h, hs, bd, (x, y), z, ps⟩) : Pk) ++ [xm]) with
      | none => rfl
      | some q =>
        obtain ⟨hq, e⟩ := readK_some hr
        have ht2 := packetL_ends hq hm (t := [xm]) e
        cases ht2)
    clear hm
    have O3 := Lib.hid ho.out
    clear ho
    generalize packetL ((⟨k, (s, t), h, hs, bd, (x, y), z, ps⟩) : Pk) = res at *
    generalize hm : res.length = m at *
    have HML := Lib.hid hm
    clear hm
    have hm0 := HPOS.out
    have hmi : ¬ (m : Int) = 0 := by omega
    have hmb : ((m : Int) == 0) = false := by rw [beq_eq_false_iff_ne]; exact hmi
    clear hm0
    obtain ⟨j, hj, hjm⟩ : ∃ j : Nat, (cut % 65536).tmod (m : Int) = (j : Int) ∧ j < m := by
      have h0 : 0 ≤ cut % 65536 := Int.emod_nonneg _ (by decide)
      have hp := HPOS.out
      have h1 := Int.tmod_nonneg (m : Int) h0
      have h2 := Int.tmod_lt_of_pos (cut % 65536) (show (0 : Int) < (m : Int) by omega)
      exact ⟨((cut % 65536).tmod (m : Int)).toNat, by omega, by omega⟩
    have ec : bits .and .i64 cut 65535 = cut % 65536 := i64_andK cut
    have g1 : (j : Int) ≤ (c5 : Int) := by have := O3.out.cap_le; omega
    have g0 : (0 : Int) ≤ (j : Int) := by omega
    have HT1 := Lib.hid (HCUT.out j hjm)
    have HTB := Lib.hid (show Bytes W3 W3.heap.size A5 (res.take j) from O3.out.bytes.front j)
    have HTL := Lib.hid (show (res.take j).length = j by rw [List.length_take, HML.out]; omega)
    have HJM := Lib.hid hjm
    clear hjm HCUT
    go_wp2_with fail
    refine (kdec_any A5 (res.take j) j c5 W3 HTL.out HTB.out O3.out.none_cap (by have := H448.out; have := HJM.out; omega)).mono ?_
    rintro en W4 h
    obtain ⟨H7, ch7, A7, cb7, P7, cp7, rfl, hm7, hb⟩ := decK_no HT1.out h
    have O4 := Lib.hid (own8_on O3.out hb.out)
    have B4 := Lib.hid (ktr B3.out hb.out)
    clear O3
    clear hb h hm7 HTB HT1
    have E7 : pkA noK H7 ch7 A7 cb7 P7 cp7 = #[.int .i64 0, .int .i64 0, .int .u64 0, .int .i64 0, .slice H7 0 ch7, .slice A7 0 cb7, .int .i64 0, .int .u64 0, .int .u64 0, .slice P7 0 cp7] := rfl
    rw [E7]
    clear E7 hj ec g1 g0 hmb hmi
    have hbx := kbelow_box W4 (.cells #[.int .i64 0, .int .i64 0, .int .u64 0, .int .i64 0, .slice H7 0 ch7, .slice A7 0 cb7, .int .i64 0, .int .u64 0, .int .u64 0, .slice P7 0 cp7] 31)
    have O5 := Lib.hid (own8_on O4.out hbx)
    have B5 := Lib.hid (ktr B4.out hbx)
    have X5 := Lib.hid (kbox_new (k := 0) (s := 0) (t := 0) (h := 0) (x := 0) (y := 0) (z := 0) (H := H7) (A := A7) (P := P7) (nh := 0) (ch := ch7) (n := 0) (cap := cb7) (np := 0) (cp := cp7) (w := W4) 31)
    clear O4
    clear hbx
    have hz0 : (W4.alloc (.cells #[.int .i64 0, .int .i64 0, .int .u64 0, .int .i64 0, .slice H7 0 ch7, .slice A7 0 cb7, .int .i64 0, .int .u64 0, .int .u64 0, .slice P7 0 cp7] 31)).heap.size = W4.heap.size + 1 := by simp
    have C1 := Lib.hid (World.ownsRow_made (base := 0) (e := 5) (size := 1) (W4.alloc (.cells #[.int .i64 0, .int .i64 0, .int .u64 0, .int .i64 0, .slice H7 0 ch7, .slice A7 0 cb7, .int .i64 0, .int .u64 0, .int .u64 0, .slice P7 0 cp7] 31)) #[] 0 (Nat.zero_le _) (by unfold maxLen; omega) rfl)
    rw [hz0] at C1
    have hbe := kbelow_box (W4.alloc (.cells #[.int .i64 0, .int .i64 0, .int .u64 0, .int .i64 0, .slice H7 0 ch7, .slice A7 0 cb7, .int .i64 0, .int .u64 0, .int .u64 0, .slice P7 0 cp7] 31)) (.cells #[] 5)
    have OB := Lib.hid (own8_on O5.out hbe)
    have BE := Lib.hid (ktr B5.out hbe)
    have HZZ := Lib.hid (show w.heap.size ≤ W4.heap.size from B4.out.size)
    clear hz0 hbe
    go_wp2_with (at_builtin; refine wpList_append8 rfl (.tmp 40) (.tmp 41) rfl (some ⟨W4.heap.size + 1, 0, none⟩) 0 0 [] rfl C1.out A5 m c5 _ res rfl HML.out OB.out.none_cap OB.out.bytes (by have := H448.out; omega) ?_)
    intro A8 c8 V1 hO ho hn
    have BV1 := Lib.hid (ho.out.below BE.out (fun j hj => by simp [blockOf] at hj; have := HZZ.out; omega) BE.out.size)
    have hge := hn.out.ge (B := w.heap.size) BE.out.size (fun j hj => by simp [blockOf] at hj; have := HZZ.out; omega)
    have OV1 : Hid (Own8 V1 0 A8 m c8 res) := Lib.hid (by have h := hO.out; simpa using h)
    have HGE := Lib.hid hge
    clear hO ho hn hge C1 OB BE
    have hbf := kbelow_box V1 (.cells #[.int .u8 ((mb.toNat : Nat) : Int)] 5)
    have C2 := Lib.hid ((own8_on OV1.out hbf).lower (Nat.zero_le _))
    have C3 : Hid (Bytes (V1.alloc (.cells #[.int .u8 ((mb.toNat : Nat) : Int)] 5)) (V1.heap.size + 1) (some ⟨V1.heap.size, 0, none⟩) [mb]) := Lib.hid (bytes_new V1 [mb])
    have C4 := Lib.hid (show some (⟨V1.heap.size, 0, none⟩ : Addr) = none → 1 = 0 from fun e => by cases e)
    have BV2 := Lib.hid (ktr BV1.out hbf)
    clear hbf OV1 BV1
    go_wp2_with (at_builtin; refine wpList_append8 rfl (.tmp 42) (.tmp 44) rfl A8 m c8 res rfl C2.out (some ⟨V1.heap.size, 0, none⟩) 1 1 _ [mb] rfl rfl C4.out C3.out (by have := H448.out; omega) ?_)
    intro A9 c9 V2 hO ho hn
    have BV3 := Lib.hid (ho.out.below BV2.out (fun j hj => HGE.out j hj) BV2.out.size)
    have OV3 := Lib.hid hO.out
    have HR2 := Lib.hid (HMORE.out mb)
    have HL2 := Lib.hid (show (res ++ [mb]).length = m + 1 by rw [List.length_append, HML.out]; rfl)
    clear hO ho hn C2 C3 C4 BV2 HGE
    go_wp2_with fail
    refine (kdec_any A9 (res ++ [mb]) (m + 1) c9 V2 HL2.out OV3.out.bytes OV3.out.none_cap (by have := H448.out; omega)).mono ?_
    rintro en V3 h
    obtain ⟨H6, ch6, A6, cb6, P6, cp6, rfl, hm6, hb⟩ := decK_no HR2.out h
    have BV4 := Lib.hid (ktr BV3.out hb.out)
    have E6 : pkA noK H6 ch6 A6 cb6 P6 cp6 = #[.int .i64 0, .int .i64 0, .int .u64 0, .int .i64 0, .slice H6 0 ch6, .slice A6 0 cb6, .int .i64 0, .int .u64 0, .int .u64 0, .slice P6 0 cp6] := rfl
    rw [E6]
    have BV5 := Lib.hid (ktr BV4.out (kbelow_box V3 (.cells #[.int .i64 0, .int .i64 0, .int .u64 0, .int .i64 0, .slice H6 0 ch6, .slice A6 0 cb6, .int .i64 0, .int .u64 0, .int .u64 0, .slice P6 0 cp6] 31)))
    clear h hm6 hb E6 OV3 HR2 BV3 BV4
    go_wp2_with fail
    refine (awake6_any _).mono ?_
    rintro en V4 ⟨rfl, hb⟩
    go_wp2
    go_ret
    exact ⟨rfl, Lib.hid (ktr BV5.out hb.out)⟩
section
open Go.ChangeShapes Go.WideShapes Go.ChangeAt Go.WideMaps Go.WideElems
theorem arg_u8 {H : Type} {enc : TypeId × Value → H} {W : World} {base : Nat} {v : Value} {d : DataW H} {p : List MemPlace} (hv : Value.okWide Try.prog W .any base 5 v) (h : DataW.Trod enc Try.prog W 0 (fun _ => true) true 5 v d p) : ∃ x : UInt8, v = .int .u8 ((x.toNat : Nat) : Int) ∧ True := by
  obtain ⟨n, rfl, _, _, hw⟩ := open_int Try.underlying5 hv h
  exact ⟨UInt8.ofNat n.toNat, by rw [← wf_u8_lt hw], trivial⟩
end
theorem kends_walk (p : Pk) (A0 : Option Addr) (c0 : Nat) (A1 : Option Addr) (c1 : Nat) (A2 : Option Addr) (c2 : Nat) (cut : Int) (mb : UInt8) (w : World) (hi : PkIn w w.heap.size p A0 c0 A1 c1 A2 c2) (hk : PkOk p) :
    Calls Try.prog 9 #[pkV p A0 c0 A1 c1 A2 c2, .int .i64 cut, .int .u8 ((mb.toNat : Nat) : Int)] w fun e w' => e = .returned (.bool true) ∧ Hid (Below w.heap.size w w') :=
  kends_int _ _ _ _ _ _ _ A0 A1 A2 _ c0 _ c1 _ c2 p.heads p.body p.peers cut mb w (hi.pin hk) hk.2.1.2.1 hk.2.2.2.2.1.2.1
end Go.Proofs.Ytlcddfkhklmieaa
