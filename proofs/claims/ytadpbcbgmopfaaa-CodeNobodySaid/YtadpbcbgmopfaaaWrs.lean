/-
  What a Writer's calls do, all of them: the document's bytes, behind what was there; Bytes in new memory. For at most 2^46 bytes.
-/
import Derived.Test.YtadpbcbgmopfaaaWr
import Derived.Test.YtadpbcbgmopfaaaNum
namespace Go.Proofs.Ytadpbcbgmopfaaa
open Go.RowKit

theorem add_byte (p : Nat) (g : Option Nat) (l : List UInt8) (x : UInt8) (w : World) (hw : Wr w p g l) (hr : l.length + 1 ≤ 70368744177664) :
    Calls Try.prog 68 #[.pointer (some ⟨p, 0, none⟩), .slice (some ⟨w.heap.size, 0, none⟩) 1 1] (w.alloc (.cells #[.int .u8 ((x.toNat : Nat) : Int)] 5)) (WroteE w p g l [x]) := by
  have hb := bytes_one w x
  have hk : Wr (w.alloc (.cells #[.int .u8 ((x.toNat : Nat) : Int)] 5)) p g l := hw.keep (S := fun _ => False) ((Only.refl _ _).alloc _) (fun h => h) (fun _ _ h => h)
  refine (add_any p g l (some ⟨w.heap.size, 0, none⟩) [x] 1 1 _ _ hk rfl (fun h => by cases h) hb hr).mono ?_
  rintro e w' ⟨he, g', h1, h2, h3⟩
  refine ⟨he, g', h1, ?_, ?_⟩
  · rcases h2 with h2 | ⟨k, h2, h4⟩
    · exact .inl h2
    · exact .inr ⟨k, h2, by simp at h4; omega⟩
  · exact ((Only.refl _ _).alloc _).trans h3 fun k _ h => h

theorem add_num (p : Nat) (g : Option Nat) (l : List UInt8) (y : Nat) (w : World) (hy : y < 256) (hw : Wr w p g l) (hr : l.length + 1 ≤ 70368744177664) :
    Calls Try.prog 68 #[.pointer (some ⟨p, 0, none⟩), .slice (some ⟨w.heap.size, 0, none⟩) 1 1] (w.alloc (.cells #[.int .u8 (y : Int)] 5)) (WroteE w p g l [UInt8.ofNat y]) := by
  have h := add_byte p g l (UInt8.ofNat y) w hw hr
  rwa [show (UInt8.ofNat y).toNat = y by rw [UInt8.toNat_ofNat']; omega] at h

theorem byte_lo (x : Nat) : (x : Int) % 256 = (((UInt8.ofNat x).toNat : Nat) : Int) := by simp [UInt8.toNat_ofNat']
theorem pow256 (i : Nat) : (2 : Int) ^ (8 * i) = ((256 ^ i : Nat) : Int) := by
  have h : (2 : Nat) ^ (8 * i) = 256 ^ i := by rw [Nat.pow_mul]
  rw [← h]
  simp
theorem byte_at (x i : Nat) : (x : Int) / 2 ^ (8 * i) % 256 = (((UInt8.ofNat (x / 256 ^ i % 256)).toNat : Nat) : Int) := by
  rw [pow256]
  simp only [UInt8.toNat_ofNat']
  omega

def WideRel (w : World) (p : Nat) (g : Option Nat) (l : List UInt8) (x n : Nat) (i : Value) (wr : World) : Prop :=
  ∃ k, k ≤ n ∧ i = .int .i64 (k : Nat) ∧ Hid (Wrote w p g l (wideL x k) wr)
set_option maxHeartbeats 400000 in
theorem wwide_any (p : Nat) (g : Option Nat) (l : List UInt8) (x n : Nat) (w : World) (hw : Wr w p g l) (hn : n ≤ 8) (hr : l.length + 8 ≤ 70368744177664) :
    Calls Try.prog 79 #[.pointer (some ⟨p, 0, none⟩), .int .u64 (x : Int), .int .i64 (n : Int)] w (WroteE w p g l (wideL x n)) := by
  have HW := Lib.hid hw
  clear hw
  go_enter Try.func79, Try.ntmps79
  go_wp2
  go_loopw [8] (fun i wr => WideRel w p g l x n i wr) (fun i _ => n - (intOf i).toNat)
  case atStart => exact ⟨0, by omega, rfl, Wrote.same HW.out⟩
  case round =>
    obtain ⟨k, hk, rfl, hwr⟩ := hrel
    by_cases hlt : k < n
    · obtain ⟨g1, h1, h2, h3⟩ := hwr.out
      have H1 := Lib.hid h1
      have H2 := Lib.hid h2
      have H3 := Lib.hid h3
      have hlen : (l ++ wideL x k).length + 1 ≤ 70368744177664 := by rw [List.length_append, wideL_length]; omega
      have HL := Lib.hid hlen
      have e1 := byte_at x k
      have HS := Lib.hid (show wideL x k ++ [UInt8.ofNat (x / 256 ^ k % 256)] = wideL x (k + 1) from rfl)
      clear h1 h2 h3 hwr hlen
      generalize UInt8.ofNat (x / 256 ^ k % 256) = c at e1 HS
      go_wp2_with fail
      refine (add_byte p g1 _ c wr H1.out HL.out).mono ?_
      rintro e w2 ⟨rfl, h4⟩
      have H4 : Hid (Wrote w p g l (wideL x (k + 1)) w2) := Lib.hid (by rw [← HS.out]; exact Wrote.trans H2.out H3.out h4)
      clear h4
      go_wp2
      go_roundw
      case rel => exact ⟨k + 1, by omega, by go_num, H4⟩
      case measure => simp [intOf]; omega
    · obtain rfl : k = n := by omega
      go_wp2
      go_end0
      exact ⟨rfl, hwr.out⟩

/-- The byte of a group that is not the last, in the walk's own spelling. -/
theorem group_byte (x : Nat) : bits .or .u8 ((x : Int) % 256) 128 = (((UInt8.ofNat (x % 128 + 128)).toNat : Nat) : Int) := by
  have h := u8_or_nat (x % 256) 128 (by omega) (by omega)
  have d : ∀ y < 256, y ||| 128 = y % 128 + 128 := by decide +kernel
  rw [d _ (by omega)] at h
  rw [Int.natCast_emod] at h
  simp only [UInt8.toNat_ofNat']
  rw [show ((256 : Nat) : Int) = 256 from rfl, show ((128 : Nat) : Int) = 128 from rfl] at h
  rw [h]
  omega
def UintRel (w : World) (p : Nat) (g : Option Nat) (l : List UInt8) (x : Nat) (v : Value) (wr : World) : Prop :=
  ∃ y pre, v = .int .u64 ((y : Nat) : Int) ∧ y ≤ x ∧ Hid (pre ++ shortL y = shortL x) ∧ Hid (Wrote w p g l pre wr)
set_option maxHeartbeats 400000 in
theorem wuint_any (p : Nat) (g : Option Nat) (l : List UInt8) (x : Nat) (w : World) (hw : Wr w p g l) (hx : x < 18446744073709551616) (hr : l.length + 10 ≤ 70368744177664) :
    Calls Try.prog 22 #[.pointer (some ⟨p, 0, none⟩), .int .u64 (x : Int)] w (WroteE w p g l (shortL x)) := by
  have HW := Lib.hid hw
  have HT := Lib.hid (shortL_ten hx)
  clear hw hx
  go_enter Try.func22, Try.ntmps22
  go_wp2
  go_loopw [1] (fun v wr => UintRel w p g l x v wr) (fun v _ => (intOf v).toNat)
  case atStart => exact ⟨x, [], rfl, Nat.le_refl _, rfl, Wrote.same HW.out⟩
  case round =>
    obtain ⟨y, pre, rfl, hyx, hpre, hwr⟩ := hrel
    obtain ⟨g1, h1, h2, h3⟩ := hwr.out
    have H1 := Lib.hid h1
    have H2 := Lib.hid h2
    have H3 := Lib.hid h3
    have HL : Hid ((l ++ pre).length + 1 ≤ 70368744177664) := Lib.hid (by
      have h5 := congrArg List.length hpre.out
      have h6 := HT.out
      have h7 := shortL_pos y
      rw [List.length_append] at h5 ⊢
      omega)
    clear h1 h2 h3 hwr
    by_cases hlt : y < 128
    · have HS := Lib.hid (show pre ++ [UInt8.ofNat y] = shortL x by rw [← shortL_last hlt]; exact hpre.out)
      have hA := Lib.hid (fun (h : Wr wr p g1 (l ++ pre)) h2 => add_num p g1 (l ++ pre) y wr (by omega) h h2)
      have hlt' : ¬ (128 : Int) ≤ (y : Int) := by omega
      have e1 : (y : Int) % 256 = (y : Int) := by omega
      clear hpre hyx hlt
      go_wp2_with fail
      refine (hA.out H1.out HL.out).mono ?_
      rintro e w2 ⟨rfl, h4⟩
      have H4 : Hid (Wrote w p g l (shortL x) w2) := Lib.hid (by rw [← HS.out]; exact Wrote.trans H2.out H3.out h4)
      clear h4
      go_wp2
      go_end0
      exact ⟨rfl, H4.out⟩
    · have e1 := group_byte y
      have HS := Lib.hid (show (pre ++ [UInt8.ofNat (y % 128 + 128)]) ++ shortL (y / 128) = shortL x by rw [← hpre.out, shortL_more hlt]; simp)
      have hlt' : (128 : Int) ≤ (y : Int) := by omega
      clear hpre
      generalize UInt8.ofNat (y % 128 + 128) = c at e1 HS
      go_wp2_with fail
      refine (add_byte p g1 _ c wr H1.out HL.out).mono ?_
      rintro e w2 ⟨rfl, h4⟩
      have H4 : Hid (Wrote w p g l (pre ++ [c]) w2) := Lib.hid (Wrote.trans H2.out H3.out h4)
      clear h4
      go_wp2
      go_roundw
      case rel => exact ⟨y / 128, pre ++ [c], by go_num, by omega, HS, H4⟩
      case measure => simp [intOf]; omega

set_option maxHeartbeats 400000 in
theorem wraw_any (p : Nat) (g : Option Nat) (l : List UInt8) (A : Option Addr) (xs : List UInt8) (n cap B : Nat) (w : World) (hw : Wr w p g l) (hn : xs.length = n) (hA : A = none → cap = 0) (hb : Bytes w B A xs) (hr : l.length + n ≤ 70368744177664) :
    Calls Try.prog 25 #[.pointer (some ⟨p, 0, none⟩), .slice A n cap] w (WroteE w p g l xs) := by
  have H := Lib.hid (add_any p g l A xs n cap B w hw hn hA hb hr)
  clear hw hn hA hb
  go_enter Try.func25, Try.ntmps25
  go_wp2_with fail
  refine H.out.mono ?_
  rintro e w1 ⟨rfl, h⟩
  have H1 := Lib.hid h
  clear h
  go_wp2
  go_end0
  exact ⟨rfl, H1.out⟩

/-- A string's bytes. -/
def strL (s : ByteArray) : List UInt8 := s.data.toList
/-- '[]byte(s)': new memory. -/
theorem conv_bytes (s : ByteArray) (w : World) : ∃ W cap, Sem.run Try.prog (convert 9 27 (.string s)) w = .ok (.slice (some ⟨w.heap.size, 0, none⟩) s.size cap) W ∧
    Hid (Bytes W W.heap.size (some ⟨w.heap.size, 0, none⟩) (strL s)) ∧ Hid (Only (fun _ => False) w W) := by
  have C := run_bytes_of_string (P := Try.prog) w 9 27 5 s Try.underlying9 Try.underlying27 Try.underlying5
  refine ⟨_, _, C, Lib.hid fun hn => ⟨_, 0, rfl, by simp, fun k hk => ?_⟩, Lib.hid (((Only.refl _ _).drew).alloc _)⟩
  have h := World.cell?_alloc_mark w.drew (bytesRow s (grownCap w s.size 0 5)) 5 ((bytesRow s (grownCap w s.size 0 5)).size, (bytesRow s (grownCap w s.size 0 5)).size + 1) k
  rw [Nat.zero_add]
  refine Eq.trans h ?_
  have hk' : k < s.data.size := hk
  unfold bytesRow
  rw [Array.getElem?_append_left (by simpa using hk')]
  simp [at8, strL, List.getD, Array.getElem?_eq_getElem hk']
set_option maxHeartbeats 400000 in
theorem wtext_any (p : Nat) (g : Option Nat) (l : List UInt8) (s : ByteArray) (w : World) (hw : Wr w p g l) (hs : s.size ≤ 35184372088832) (hr : l.length + s.size + 10 ≤ 70368744177664) :
    Calls Try.prog 24 #[.pointer (some ⟨p, 0, none⟩), .string s] w (WroteE w p g l (shortL s.size ++ strL s)) := by
  have H := Lib.hid (wuint_any p g l s.size w hw (by omega) (by omega))
  clear hw
  go_enter Try.func24, Try.ntmps24
  go_wp2_with fail
  refine H.out.mono ?_
  rintro e w1 ⟨rfl, g1, h1, h2, h3⟩
  have H1 := Lib.hid h1
  have H2 := Lib.hid h2
  have H3 := Lib.hid h3
  obtain ⟨W2, cap, C, hb, ho⟩ := conv_bytes s w1
  have H4 : Hid (Wr W2 p g1 (l ++ shortL s.size)) := Lib.hid (H1.out.keep ho.out (fun h => h) (fun _ _ h => h))
  have hl10 := shortL_ten (x := s.size) (by omega)
  have HL := Lib.hid (show (l ++ shortL s.size).length + s.size ≤ 70368744177664 by rw [List.length_append]; omega)
  have HS := Lib.hid (show (strL s).length = s.size from rfl)
  clear h1 h2 h3 hl10 H
  go_wp2_with fail
  refine (add_any p g1 _ (some ⟨w1.heap.size, 0, none⟩) (strL s) s.size cap _ W2 H4.out HS.out (fun h => by cases h) hb.out HL.out).mono ?_
  rintro e w3 ⟨rfl, g3, h5, h6, h7⟩
  have H5 : Hid (Wrote w p g l (shortL s.size ++ strL s) w3) := Lib.hid (Wrote.trans H2.out H3.out ⟨g3, h5, h6.older ho.out.size, (ho.out.weak (S := fun k => k = p ∨ g1 = some k) fun _ _ h => h.elim).trans h7 fun _ _ h => h⟩)
  clear h5 h6 h7 C
  go_wp2
  go_end0
  exact ⟨rfl, H5.out⟩

/-- What Bytes answers: new memory. -/
def BytesE (w : World) (l : List UInt8) (e : Ending) (w' : World) : Prop := ∃ A cap, e = .returned (.slice A l.length cap) ∧ Hid (Own8 w' w.heap.size A l.length cap l) ∧ Hid (Below w.heap.size w w')

set_option maxHeartbeats 400000 in
theorem clone_any (A : Option Addr) (l : List UInt8) (n cap B : Nat) (w : World) (hn : l.length = n) (hA : A = none → cap = 0) (hb : Bytes w B A l) (hB : B ≤ w.heap.size) (hr : n ≤ 70368744177664) :
    Calls Try.prog 67 #[.slice A n cap] w (BytesE w l) := by
  subst hn
  rcases A with _ | ad
  · obtain rfl := hA rfl
    obtain rfl := hb.none_
    have C := Lib.run_eql_slice_nil (P := Try.prog) w 27 5 none 0 0 0 0 Try.underlying27
    clear hb hA
    go_enter Try.func67, Try.ntmps67
    go_wp2
    go_ret
    exact ⟨none, 0, rfl, Own8.nil_, Below.refl _ _⟩
  · have C := Lib.run_eql_slice_nil (P := Try.prog) w 27 5 (some ad) l.length cap 0 0 Try.underlying27
    have C1 := Lib.hid (World.ownsRow_made (base := 0) (e := 5) (size := 1) w #[] 0 (Nat.zero_le _) (by unfold maxLen; omega) rfl)
    have C3 := Lib.hid (hb.alloc hB (.cells #[] 5))
    have HA := Lib.hid hA
    clear hb hA
    generalize hn : l.length = n at hr C ⊢
    have HN := Lib.hid hn
    clear hn
    go_enter Try.func67, Try.ntmps67
    go_wp2_with (at_builtin; refine wpList_append8 rfl (.tmp 5) (.tmp 6) rfl (some ⟨w.heap.size, 0, none⟩) 0 0 [] rfl C1.out (some ad) n cap B l rfl HN.out HA.out C3.out (by omega) ?_)
    intro A' cap' w1 hO1 ho1 hn1
    have hge := Lib.hid (hn1.out.ge (B := w.heap.size) (by simp) (fun k hk => by cases hk; exact Nat.le_refl _))
    clear C C1 C3
    go_wp2
    go_ret
    refine ⟨A', cap', by rw [HN.out]; simp, ?_, ?_⟩
    · rw [HN.out]
      have h1 : Own8 w1 0 A' n cap' l := by simpa using hO1.out
      refine ⟨h1.1, ?_⟩
      rcases h1.2 with h2 | ⟨g, c, cur, hv, hg, hrest⟩
      · exact .inl h2
      · have hv' : A' = some ⟨g, 0, none⟩ ∧ cap' = c := by simpa using hv
        exact .inr ⟨g, c, cur, hv, hge.out g (by rw [hv'.1]; rfl), hrest⟩
    · exact ho1.out.below ((Below.refl _ _).alloc (Nat.le_refl _) _) (fun k hk => by cases hk; exact Nat.le_refl _) (by simp)

set_option maxHeartbeats 400000 in
theorem wbytes_any (p : Nat) (g : Option Nat) (l : List UInt8) (w : World) (hw : Wr w p g l) (hr : l.length ≤ 70368744177664) :
    Calls Try.prog 19 #[.pointer (some ⟨p, 0, none⟩)] w (BytesE w l) := by
  obtain ⟨A0, c0, h1, h2, h3⟩ := hw
  have HC := cell_plain h1 0
  simp only [List.getElem?_toArray, List.getElem?_cons_zero] at HC
  have HB := Lib.hid (clone_any A0 l l.length c0 w.heap.size w rfl h2.none_cap h2.bytes (Nat.le_refl _) hr)
  clear h1 h2 h3
  generalize hn : l.length = n at hr HC HB
  have HN := Lib.hid hn
  clear hn
  go_enter Try.func19, Try.ntmps19
  go_wp2_with fail
  refine HB.out.mono ?_
  rintro e w1 ⟨A, cap, rfl, ho, hb⟩
  go_wp2
  go_ret
  exact ⟨A, cap, rfl, ho, hb⟩

set_option maxHeartbeats 400000 in
theorem wlen_any (p : Nat) (g : Option Nat) (l : List UInt8) (n : Nat) (w : World) (hw : Wr w p g l) (hn : l.length = n) :
    Calls Try.prog 20 #[.pointer (some ⟨p, 0, none⟩)] w fun e w' => e = .returned (.int .i64 (n : Int)) ∧ w = w' := by
  obtain ⟨A0, c0, h1, h2, h3⟩ := hw
  have HC := cell_plain h1 0
  simp only [List.getElem?_toArray, List.getElem?_cons_zero] at HC
  rw [hn] at HC
  clear h1 h2 h3 hn
  go_enter Try.func20, Try.ntmps20
  go_wp2
  go_ret
  exact ⟨rfl, rfl⟩

/-- A new Writer. -/
def NewE (w : World) (e : Ending) (w' : World) : Prop := e = .returned (.pointer (some ⟨w.heap.size, 0, none⟩)) ∧ Wr w' w.heap.size none [] ∧ Below w.heap.size w w' ∧ w'.heap.size = w.heap.size + 1
theorem wr_zero (w : World) : Wr (w.alloc (.cells #[.slice none 0 0] 35)) w.heap.size none [] := ⟨none, 0, heap_alloc_new w _, Own8.nil_, rfl⟩
set_option maxHeartbeats 400000 in
theorem wnew_any (w : World) : Calls Try.prog 16 #[] w (NewE w) := by
  go_enter Try.func16, Try.ntmps16
  go_wp2
  go_ret
  exact ⟨rfl, wr_zero w, (Below.refl _ _).alloc (Nat.le_refl _) _, by simp⟩

set_option maxHeartbeats 400000 in
theorem wu8_any (p : Nat) (g : Option Nat) (l : List UInt8) (x : Nat) (w : World) (hx : x < 256) (hw : Wr w p g l) (hr : l.length + 8 ≤ 70368744177664) :
    Calls Try.prog 59 #[.pointer (some ⟨p, 0, none⟩), .int .u8 (x : Int)] w (WroteE w p g l (wideL x 1)) := by
  have H := Lib.hid (wwide_any p g l x 1 w hw (by omega) hr)
  clear hw
  go_enter Try.func59, Try.ntmps59
  go_wp2_with fail
  refine H.out.mono ?_
  rintro e w1 ⟨rfl, h⟩
  have H1 := Lib.hid h
  clear h
  go_wp2
  go_end0
  exact ⟨rfl, H1.out⟩

set_option maxHeartbeats 400000 in
theorem wu16_any (p : Nat) (g : Option Nat) (l : List UInt8) (x : Nat) (w : World) (hx : x < 65536) (hw : Wr w p g l) (hr : l.length + 8 ≤ 70368744177664) :
    Calls Try.prog 63 #[.pointer (some ⟨p, 0, none⟩), .int .u16 (x : Int)] w (WroteE w p g l (wideL x 2)) := by
  have H := Lib.hid (wwide_any p g l x 2 w hw (by omega) hr)
  clear hw
  go_enter Try.func63, Try.ntmps63
  go_wp2_with fail
  refine H.out.mono ?_
  rintro e w1 ⟨rfl, h⟩
  have H1 := Lib.hid h
  clear h
  go_wp2
  go_end0
  exact ⟨rfl, H1.out⟩

set_option maxHeartbeats 400000 in
theorem wu32_any (p : Nat) (g : Option Nat) (l : List UInt8) (x : Nat) (w : World) (hx : x < 4294967296) (hw : Wr w p g l) (hr : l.length + 8 ≤ 70368744177664) :
    Calls Try.prog 65 #[.pointer (some ⟨p, 0, none⟩), .int .u32 (x : Int)] w (WroteE w p g l (wideL x 4)) := by
  have H := Lib.hid (wwide_any p g l x 4 w hw (by omega) hr)
  clear hw
  go_enter Try.func65, Try.ntmps65
  go_wp2_with fail
  refine H.out.mono ?_
  rintro e w1 ⟨rfl, h⟩
  have H1 := Lib.hid h
  clear h
  go_wp2
  go_end0
  exact ⟨rfl, H1.out⟩

set_option maxHeartbeats 400000 in
theorem wu64_any (p : Nat) (g : Option Nat) (l : List UInt8) (x : Nat) (w : World) (hw : Wr w p g l) (hr : l.length + 8 ≤ 70368744177664) :
    Calls Try.prog 33 #[.pointer (some ⟨p, 0, none⟩), .int .u64 (x : Int)] w (WroteE w p g l (wideL x 8)) := by
  have H := Lib.hid (wwide_any p g l x 8 w hw (by omega) hr)
  clear hw
  go_enter Try.func33, Try.ntmps33
  go_wp2_with fail
  refine H.out.mono ?_
  rintro e w1 ⟨rfl, h⟩
  have H1 := Lib.hid h
  clear h
  go_wp2
  go_end0
  exact ⟨rfl, H1.out⟩

/-- A slice's address under which the numbers ns lie, in a block below B. -/
def Nums (w : World) (B : Nat) (A : Option Addr) (ns : List Nat) : Prop :=
  0 < ns.length → ∃ b off, A = some ⟨b, off, none⟩ ∧ b < B ∧ ∀ k, k < ns.length → w.cell? ⟨b, off + k, none⟩ = some (.int .u64 ((ns.getD k 0 : Nat) : Int))
theorem Nums.keep {w w' : World} {B : Nat} {A : Option Addr} {ns : List Nat} (h : Nums w B A ns) (hk : ∀ b o, b < B → w'.cell? ⟨b, o, none⟩ = w.cell? ⟨b, o, none⟩) : Nums w' B A ns := fun hn => by
  obtain ⟨b, off, e, hb, hc⟩ := h hn
  exact ⟨b, off, e, hb, fun k hk' => (hk _ _ hb).trans (hc k hk')⟩
theorem Nums.below {w w' : World} {B : Nat} {A : Option Addr} {ns : List Nat} (h : Nums w B A ns) (hb : Below B w w') : Nums w' B A ns := h.keep fun b o hp => hb.cell (p := ⟨b, o, none⟩) hp
theorem Nums.more {w : World} {B B' : Nat} {A : Option Addr} {ns : List Nat} (h : Nums w B A ns) (hB : B ≤ B') : Nums w B' A ns := fun hn => by
  obtain ⟨b, off, e, hb, hc⟩ := h hn
  exact ⟨b, off, e, by omega, hc⟩
theorem getD_mem_lt {ns : List Nat} {M k : Nat} (h : ∀ x ∈ ns, x < M) (hk : k < ns.length) : ns.getD k 0 < M := by
  have := h ns[k] (List.getElem_mem hk)
  simpa [List.getD, hk] using this
def PutRel (w : World) (p : Nat) (g : Option Nat) (l : List UInt8) (ns : List Nat) (i : Value) (wr : World) : Prop :=
  ∃ k, k ≤ ns.length ∧ i = .int .i64 (k : Nat) ∧ Hid (Wrote w p g l (shortsL (ns.take k)) wr)
def AllU64 (ns : List Nat) : Prop := ∀ x ∈ ns, x < 18446744073709551616

set_option maxHeartbeats 400000 in
theorem wput_any (p : Nat) (g : Option Nat) (l : List UInt8) (A : Option Addr) (ns : List Nat) (cap : Nat) (w : World) (hw : Wr w p g l) (hb : Nums w w.heap.size A ns) (hp : 0 < ns.length → ∀ b, blockOf A = some b → b ≠ p ∧ g ≠ some b) (hns : AllU64 ns) (hl : ns.length ≤ 4611686018427) (hr : l.length + 10 * ns.length ≤ 70368744177664) :
    Calls Try.prog 21 #[.pointer (some ⟨p, 0, none⟩), .slice A ns.length cap] w (WroteE w p g l (shortsL ns)) := by
  have HW := Lib.hid hw
  have HB := Lib.hid hb
  have HN := Lib.hid hns
  have HPB := Lib.hid hp
  have HR := Lib.hid hr
  clear hw hb hns hp hr
  go_enter Try.func21, Try.ntmps21
  go_wp2
  go_loopw [8] (fun i wr => PutRel w p g l ns i wr) (fun i _ => ns.length - (intOf i).toNat)
  case atStart => exact ⟨0, by omega, rfl, Wrote.same HW.out⟩
  case round =>
    obtain ⟨k, hk, rfl, hwr⟩ := hrel
    by_cases hlt : k < ns.length
    · obtain ⟨g1, h1, h2, h3⟩ := hwr.out
      have H1 := Lib.hid h1
      have H2 := Lib.hid h2
      have H3 := Lib.hid h3
      obtain ⟨b, off, rfl, hbB, hc⟩ := HB.out (by omega)
      have hcell := (h3.cell (p := ⟨b, off + k, none⟩) hbB (fun e => by
        have e1 := HPB.out (by omega) b rfl
        rcases e with e | e
        · exact e1.1 e
        · exact e1.2 e)).trans (hc k hlt)
      have HS := Lib.hid (shortsL_take ns k hlt)
      have hxm := Lib.hid (getD_mem_lt HN.out hlt)
      have hlen : Hid ((l ++ shortsL (ns.take k)).length + 10 ≤ 70368744177664) := Lib.hid (by
        have h5 := shortsL_le (ns.take k) (fun x hx => HN.out x (List.mem_of_mem_take hx))
        have h6 := HR.out
        rw [List.length_take] at h5
        rw [List.length_append]
        omega)
      clear h1 h2 h3 hwr hc hbB
      generalize ns.getD k 0 = x at hcell HS hxm
      have hU := Lib.hid (wuint_any p g1 _ x wr H1.out hxm.out hlen.out)
      go_wp2_with fail
      refine hU.out.mono ?_
      rintro e w2 ⟨rfl, h4⟩
      have H4 : Hid (Wrote w p g l (shortsL (ns.take (k + 1))) w2) := Lib.hid (by rw [HS.out]; exact Wrote.trans H2.out H3.out h4)
      clear h4 hU
      go_wp2
      go_roundw
      case rel => exact ⟨k + 1, by omega, by go_num, H4⟩
      case measure => simp [intOf]; omega
    · have HT := Lib.hid (show ns.take k = ns from List.take_of_length_le (by omega))
      go_wp2
      go_end0
      have h := hwr.out
      rw [HT.out] at h
      exact ⟨rfl, h⟩
end Go.Proofs.Ytadpbcbgmopfaaa
