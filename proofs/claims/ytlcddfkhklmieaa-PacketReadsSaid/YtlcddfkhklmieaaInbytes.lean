/-
  The document's own writing (caucusref03): a short number, lives. For at most 1000 lives.
-/
import Derived.Test.YtlcddfkhklmieaaGa
import Derived.Test.YtlcddfkhklmieaaGb
import Derived.Test.YtlcddfkhklmieaaGc
namespace Go.Proofs.Ytlcddfkhklmieaa
set_option maxRecDepth 20000
open Go.RowKit

/-- Bytes under way: what stands below is as it was. -/
def UpW (w : World) (A : Option Addr) (n c : Nat) (l : List UInt8) (wr : World) : Prop := Own8 wr w.heap.size A n c l ∧ Below w.heap.size w wr
theorem UpW.byte {w wr : World} {A : Option Addr} {n c : Nat} {l : List UInt8} (h : UpW w A n c l wr) (x : UInt8) :
    Own8 (wr.alloc (.cells #[.int .u8 ((x.toNat : Nat) : Int)] 5)) 0 A n c l ∧ Bytes (wr.alloc (.cells #[.int .u8 ((x.toNat : Nat) : Int)] 5)) (wr.heap.size + 1) (some ⟨wr.heap.size, 0, none⟩) [x] ∧ Below w.heap.size w (wr.alloc (.cells #[.int .u8 ((x.toNat : Nat) : Int)] 5)) :=
  ⟨(h.1.alloc _).lower (Nat.zero_le _), bytes_one wr x, h.2.alloc h.2.size _⟩
theorem UpW.grown {w wr w2 w3 : World} {A A' : Option Addr} {n c n' c' : Nat} {l l' : List UInt8} (h : UpW w A n c l wr) (hb : Below w.heap.size w w2) (ho : Own8 w3 0 A' n' c' l') (hon : Only (fun k => blockOf A = some k) w2 w3) (hn : NewOr w2 (blockOf A) (blockOf A')) : UpW w A' n' c' l' w3 :=
  ⟨ho.raise (hn.ge hb.size (fun _ hk => (h.1.lt hk).1)), hon.below hb (fun _ hk => (h.1.lt hk).1) hb.size⟩
theorem byte_of_nat (y : Nat) : ((y : Int) % 256) = (((UInt8.ofNat y).toNat : Nat) : Int) := by simp [UInt8.toNat_ofNat']
set_option maxHeartbeats 1000000 in
theorem rsuint_any (x : Nat) (hx : x < 18446744073709551616) (w : World) :
    Calls Try.prog 60 #[.int .u64 (x : Int)] w (BytesE w (shortL x)) := by
  go_enter Try.func60, Try.ntmps60
  go_wp2
  go_loopw [0, 3] (fun xv ov wr => ∃ (y n c : Nat) (A : Option Addr) (l : List UInt8), xv = .int .u64 (y : Int) ∧ ov = .slice A n c ∧ y ≤ x ∧ Hid (l ++ shortL y = shortL x) ∧ Hid (n + (shortL y).length = (shortL x).length) ∧ Hid (UpW w A n c l wr)) (fun xv _ _ => (intOf xv).toNat)
  case atStart => exact ⟨x, 0, 0, none, [], rfl, rfl, Nat.le_refl _, Lib.hid (by simp), Lib.hid (by simp), Lib.hid ⟨Own8.nil_, Below.refl _ _⟩⟩
  case round =>
    obtain ⟨y, n, c, A, l, rfl, rfl, hyx, hl, hnl, hup⟩ := hrel
    have hle := shortL_le 9 x (by have : (18446744073709551616 : Nat) ≤ 128 ^ (9 + 1) := by decide
                                  omega)
    have hn10 : n ≤ 10 := by have := hnl.out; omega
    by_cases h128 : 128 ≤ y
    · have hge : (128 : Int) ≤ (y : Int) := by omega
      have HM := Lib.hid (shortL_more (x := y) (by omega))
      have eb : (y : Int) % 128 + 128 = (((UInt8.ofNat (y % 128 + 128)).toNat : Nat) : Int) := by
        rw [← byte_of_nat]
        omega
      generalize UInt8.ofNat (y % 128 + 128) = b at HM eb
      obtain ⟨u1, u2, u3⟩ := hup.out.byte b
      rw [← eb] at u1 u2 u3
      clear eb
      have U1 := Lib.hid u1
      have U2 := Lib.hid u2
      have U3 := Lib.hid u3
      clear u1 u2 u3
      have hl2 : Hid (l ++ [b] ++ shortL (y / 128) = shortL x) := Lib.hid (by rw [← hl.out, HM.out]; simp)
      have hn2 : Hid (n + 1 + (shortL (y / 128)).length = (shortL x).length) := Lib.hid (by have h1 := congrArg List.length HM.out; have h2 := hnl.out; rw [List.length_cons] at h1; omega)
      clear hl hnl HM
      go_wp2_with (at_builtin; refine wpList_append8 rfl (.tmp 6) (.tmp 11) rfl A n c l rfl U1.out (some ⟨wr.heap.size, 0, none⟩) 1 1 _ [b] rfl rfl (fun e => by cases e) U2.out (by omega) ?_)
      intro A9 c9 w9 hO ho hn
      have HU := Lib.hid (hup.out.grown U3.out hO.out ho.out hn.out)
      clear hO ho hn U1 U2 U3 hup
      go_wp2
      go_roundw
      case rel => exact ⟨y / 128, n + 1, c9, A9, l ++ [b], by go_num, rfl, by omega, hl2, hn2, HU⟩
      case measure => simp [intOf]; omega
    · have hge : ¬ (128 : Int) ≤ (y : Int) := by omega
      have HM := Lib.hid (shortL_last (x := y) (by omega))
      have eb : (y : Int) = (((UInt8.ofNat y).toNat : Nat) : Int) := by
        rw [← byte_of_nat]
        omega
      generalize UInt8.ofNat y = b at HM eb
      obtain ⟨u1, u2, u3⟩ := hup.out.byte b
      rw [← eb] at u1 u2 u3
      clear eb
      have U1 := Lib.hid u1
      have U2 := Lib.hid u2
      have U3 := Lib.hid u3
      clear u1 u2 u3
      have hl2 : Hid (shortL x = l ++ [b]) := Lib.hid (by rw [← hl.out, HM.out])
      have hn2 : Hid ((shortL x).length = n + 1) := Lib.hid (by have h1 := congrArg List.length HM.out; have h2 := hnl.out; rw [List.length_singleton] at h1; omega)
      clear hl hnl HM
      go_wp2_with (at_builtin; refine wpList_append8 rfl (.tmp 15) (.tmp 18) rfl A n c l rfl U1.out (some ⟨wr.heap.size, 0, none⟩) 1 1 _ [b] rfl rfl (fun e => by cases e) U2.out (by omega) ?_)
      intro A9 c9 w9 hO ho hn
      have HU := Lib.hid (hup.out.grown U3.out hO.out ho.out hn.out)
      clear hO ho hn U1 U2 U3 hup
      go_wp2
      go_ret
      refine ⟨A9, c9, ?_, ?_, Lib.hid HU.out.2⟩
      · rw [hn2.out]
        rfl
      · rw [hn2.out, hl2.out]
        exact Lib.hid HU.out.1
theorem own8_on {w w' : World} {base n cap : Nat} {A : Option Addr} {l : List UInt8} (h : Own8 w base A n cap l) (hb : Below w.heap.size w w') : Own8 w' base A n cap l :=
  h.keep (S := fun _ => False) ⟨hb.os, hb.tape, hb.output, hb.size, fun j hj _ => hb.block j hj⟩ (fun _ _ h => h)
theorem UpW.on {w wr w2 : World} {A : Option Addr} {n c : Nat} {l : List UInt8} (h : UpW w A n c l wr) (hb : Below wr.heap.size wr w2) : UpW w A n c l w2 := ⟨own8_on h.1 hb, h.2.trans (hb.mono h.2.size)⟩
def BysRel (w : World) (l : List Life) (n : Nat) (ov iv : Value) (wr : World) : Prop :=
  ∃ (k m c : Nat) (A : Option Addr), k ≤ n ∧ iv = .int .i64 (k : Nat) ∧ ov = .slice A m c ∧ Hid (UpW w A m c (putsL (l.take k)) wr) ∧ Hid ((putsL (l.take k)).length = m)
set_option maxHeartbeats 2000000 in
theorem rsbytes_any (A0 : Option Addr) (l : List Life) (n c0 B : Nat) (w : World) (h : Lives w B A0 l) (hB : B ≤ w.heap.size) (hn : l.length = n) (hb : n ≤ 1000) (hu : Unsigned l) (hs : ∀ q ∈ l, 0 ≤ q.1 ∧ q.1 < 256) :
    Calls Try.prog 32 #[.slice A0 n c0] w (BytesE w (putsL l)) := by
  have HL := Lib.hid h
  have HN := Lib.hid hn
  have HU := Lib.hid hu
  have HS := Lib.hid hs
  clear h hn hu hs
  go_enter Try.func32, Try.ntmps32
  go_wp2
  go_loopw [3, 4] (fun ov iv wr => BysRel w l n ov iv wr) (fun _ iv _ => n - (intOf iv).toNat)
  case atStart => exact ⟨0, 0, 0, none, by omega, rfl, rfl, Lib.hid ⟨Own8.nil_, Below.refl _ _⟩, Lib.hid rfl⟩
  case round =>
    obtain ⟨k, m, c, A, hk, rfl, rfl, hup, hm⟩ := hrel
    by_cases hlt : k < n
    · have hkl : k < l.length := by rw [HN.out]; exact hlt
      have g0 : (0 : Int) ≤ (k : Int) := by omega
      have g1 : (k : Int) < (n : Int) := by omega
      have HT := Lib.hid (putsL_take_succ l k hkl)
      have hmem := atL_mem (l := l) (k := k) hkl
      have hux := HU.out _ hmem
      have hsx := HS.out _ hmem
      have hm11 := putsL_le (l.take k) (fun q hq => HU.out q (List.mem_of_mem_take hq))
      rw [hm.out, List.length_take] at hm11
      have hat := Lib.hid (fun W (hb : Below w.heap.size w W) => (HL.out.below (hb.mono hB)).at_ (k := k) hkl)
      have hlow : lowB (atL l k) = (atL l k).1.toNat := by unfold lowB; omega
      rw [hlow] at HT
      clear hmem hlow
      generalize atL l k = p at *
      obtain ⟨x, y⟩ := p
      simp only at HT hux hsx hat
      have eb : x = (((UInt8.ofNat x.toNat).toNat : Nat) : Int) := by
        rw [← byte_of_nat]
        omega
      have e8 : wideL x.toNat 1 = [UInt8.ofNat x.toNat] := by simp [wideL, Nat.mod_eq_of_lt (show x.toNat < 256 by omega)]
      rw [e8] at HT
      clear e8
      generalize UInt8.ofNat x.toNat = bb at HT eb
      obtain ⟨b, off, rfl, hbb, h1, h2⟩ := hat.out wr hup.out.2
      obtain ⟨u1, u2, u3⟩ := hup.out.byte bb
      rw [← eb] at u1 u2 u3
      clear eb
      have U1 := Lib.hid u1
      have U2 := Lib.hid u2
      have U3 := Lib.hid u3
      clear u1 u2 u3 h2
      go_wp2_with (at_builtin; refine wpList_append8 rfl (.tmp 11) (.tmp 19) rfl A m c _ rfl U1.out (some ⟨wr.heap.size, 0, none⟩) 1 1 _ [bb] rfl rfl (fun e => by cases e) U2.out (by omega) ?_)
      intro A9 c9 w9 hO ho hn
      have HW9 := Lib.hid (hup.out.grown U3.out hO.out ho.out hn.out)
      clear hO ho hn U1 U2 U3 hup h1
      obtain ⟨b', off', hbo, hbb', h1, h2⟩ := hat.out w9 HW9.out.2
      obtain ⟨rfl, rfl⟩ : b = b' ∧ off = off' := by simpa using hbo
      obtain ⟨yn, rfl⟩ := Int.eq_ofNat_of_zero_le hux.1
      clear hbo h1
      go_wp2_with fail
      refine (rsuint_any yn (by omega) w9).mono ?_
      rintro e w10 ⟨A10, c10, rfl, ho10, hb10⟩
      rw [Int.toNat_natCast] at HT
      have hs10 : (shortL yn).length ≤ 10 := shortL_le 9 yn (by have : (18446744073709551616 : Nat) ≤ 128 ^ (9 + 1) := by decide
                                                                omega)
      have HW10 := Lib.hid (HW9.out.on hb10.out)
      have HX10 := Lib.hid (HW10.out.1.lower (Nat.zero_le _))
      have HY10 := Lib.hid ho10.out.bytes
      have HZ10 := Lib.hid ho10.out.none_cap
      clear HW9 ho10 hb10
      go_wp2_with (at_builtin; refine wpList_append8 rfl (.tmp 21) (.tmp 27) rfl A9 (m + 1) c9 _ rfl HX10.out A10 (shortL yn).length c10 w10.heap.size (shortL yn) rfl rfl HZ10.out HY10.out (by omega) ?_)
      intro A11 c11 w11 hO ho hn
      have HW11 : Hid (UpW w A11 (m + 1 + (shortL yn).length) c11 (putsL (l.take (k + 1))) w11) := Lib.hid (by rw [HT.out]; exact HW10.out.grown HW10.out.2 (by have h := hO.out; simpa using h) ho.out hn.out)
      have HM11 : Hid ((putsL (l.take (k + 1))).length = m + 1 + (shortL yn).length) := Lib.hid (by rw [HT.out, List.length_append, List.length_append, hm.out]; rfl)
      clear hO ho hn HX10 HY10 HZ10 HW10 hm HT
      go_wp2
      go_roundw
      case rel => exact ⟨k + 1, _, c11, A11, by omega, by go_num, rfl, HW11, HM11⟩
      case measure => simp [intOf]; omega
    · obtain rfl : k = n := by omega
      have g1 : ¬ (k : Int) < (k : Int) := by omega
      have HE := Lib.hid (show l.take k = l from by rw [List.take_of_length_le (by rw [HN.out]; omega)])
      rw [HE.out] at hup hm
      go_wp2
      go_ret
      refine ⟨A, c, by rw [hm.out]; rfl, ?_, Lib.hid hup.out.2⟩
      rw [hm.out]
      exact Lib.hid hup.out.1
end Go.Proofs.Ytlcddfkhklmieaa
