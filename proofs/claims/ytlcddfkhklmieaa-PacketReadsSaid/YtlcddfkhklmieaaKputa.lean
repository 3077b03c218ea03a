/-
  Package packet's putHeads and putAckHeads: heads, behind what a Writer has. For Writers of at most 2^21 bytes, lists of at most 1000 heads whose numbers are bytes and uint64's.
-/
import Derived.Test.YtlcddfkhklmieaaKmayd
import Derived.Test.YtlcddfkhklmieaaGp
namespace Go.Proofs.Ytlcddfkhklmieaa
set_option maxRecDepth 20000
open Go.RowKit

/-- A head whose numbers can be written. -/
def okH (h : Hd) : Prop := 0 ≤ h.dst ∧ h.dst < 256 ∧ h.conn < 18446744073709551616 ∧ h.seq < 18446744073709551616 ∧ h.inc < 18446744073709551616
theorem Hds.wrote {w w' : World} {p : Nat} {g : Option Nat} {A : Option Addr} {l : List Hd} (h : Hds w w.heap.size A l) (hf : 0 < l.length → ∀ b, blockOf A = some b → Off b p g) (ho : Only (fun k => k = p ∨ g = some k) w w') : Hds w' w'.heap.size A l := fun hl => by
  obtain ⟨b, off, e, hlt, hc⟩ := h hl
  have hb := hf hl b (by rw [e]; rfl)
  refine ⟨b, off, e, Nat.lt_of_lt_of_le hlt ho.size, fun k hk => ?_⟩
  obtain ⟨c0, c1, c2, c3⟩ := hc k hk
  exact ⟨(hb.cell hlt ho _).trans c0, (hb.cell hlt ho _).trans c1, (hb.cell hlt ho _).trans c2, (hb.cell hlt ho _).trans c3⟩
theorem Hds.on {w w' : World} {A : Option Addr} {l : List Hd} (h : Hds w w.heap.size A l) (hb : Below w.heap.size w w') : Hds w' w'.heap.size A l := (h.below hb).more hb.size
theorem headsL_take_succ (k3 : Bool) (s : List Hd) (k : Nat) (hk : k < s.length) : headsL k3 (s.take (k + 1)) = headsL k3 (s.take k) ++ headL k3 (atH s k) := by
  have ht : s.take (k + 1) = s.take k ++ [s[k]] := by rw [List.take_add_one, List.getElem?_eq_getElem hk]; rfl
  unfold headsL
  rw [ht, List.flatMap_append]
  simp [atH, List.getD, hk]
theorem okL_le {k3 : Bool} {h : Hd} (ho : okH h) : (headL k3 h).length ≤ 31 := by
  obtain ⟨_, _, a, b, c⟩ := ho
  have h1 := shortL_ten a
  have h2 := shortL_ten b
  have h3 := shortL_ten c
  unfold headL
  cases k3 <;> simp only [Bool.false_eq_true, if_false, if_true, List.length_cons, List.length_append, List.length_nil] <;> omega
theorem take_ok_le {k3 : Bool} {s : List Hd} {k n : Nat} (hn : s.length = n) (hk : k ≤ n) (ho : ∀ h ∈ s, okH h) : (headsL k3 (s.take k)).length ≤ 31 * n := by
  have h1 := headsL_le (k3 := k3) (m := 31) (s.take k) (fun h hm => okL_le (ho h (List.mem_of_mem_take hm)))
  rw [List.length_take, hn] at h1
  have : 31 * min k n ≤ 31 * n := Nat.mul_le_mul_left _ (by omega)
  omega
theorem atH_in {l : List Hd} {k : Nat} (h : k < l.length) : atH l k ∈ l := by
  unfold atH
  rw [List.getD_eq_getElem?_getD, List.getElem?_eq_getElem h]
  exact List.getElem_mem h
theorem byte_wrap (x : Int) (h0 : 0 ≤ x) (h : x < 256) : x % 256 = (((byteI x).toNat : Nat) : Int) := by rw [byteI_back h0 h]; omega
theorem headL_eq (d : Int) (c q i : Nat) : headL false ⟨d, c, q, i⟩ = wideL (byteI d).toNat 1 ++ shortsL [c, q] := by
  have hw : wideL (byteI d).toNat 1 = [byteI d] := by simp [wideL]
  rw [hw]
  simp [headL, shortsL]
theorem headL_ack (d : Int) (c q i : Nat) : headL true ⟨d, c, q, i⟩ = headsL false [⟨d, c, q, i⟩] ++ shortL i := by
  simp [headL, headsL]
set_option maxHeartbeats 4000000 in
theorem puthd_any (p : Nat) (g : Option Nat) (L : List UInt8) (A : Option Addr) (s : List Hd) (n c : Nat) (W : World) (h : Wr W p g L) (hl : Hds W W.heap.size A s) (hf : 0 < s.length → ∀ b, blockOf A = some b → Off b p g) (hn : s.length = n) (hu : ∀ h ∈ s, okH h) (hb : n ≤ 1000) (hr : L.length ≤ 2097152) :
    Calls Try.prog 78 #[.pointer (some ⟨p, 0, none⟩), .slice A n c] W (WroteE W p g L (headsL false s)) := by
  have HL := Lib.hid hl
  have HN := Lib.hid hn
  have HU := Lib.hid hu
  have HW := Lib.hid h
  have HF := Lib.hid hf
  clear hl hn hu h hf
  go_enter Try.func78, Try.ntmps78
  go_wp2
  go_loopw [8] (fun i wr => ∃ k : Nat, k ≤ n ∧ i = .int .i64 k ∧ Hid (Wrote W p g L (headsL false (s.take k)) wr)) (fun i _ => n - (intOf i).toNat)
  case atStart => exact ⟨0, Nat.zero_le _, rfl, Lib.hid (by simpa [headsL] using Wrote.same HW.out)⟩
  case round =>
    obtain ⟨k, hk, rfl, hwr⟩ := hrel
    by_cases hlt : k < n
    · obtain ⟨g1, h1, h2, h3⟩ := hwr.out
      have hpos : 0 < s.length := by rw [HN.out]; omega
      have HLr := HL.out.wrote HF.out h3
      obtain ⟨b, off, rfl, hbb, c0, c1, c2, c3⟩ := HLr.at_ (k := k) (by rw [HN.out]; exact hlt)
      have H1 := Lib.hid h1
      have H23 := Lib.hid (And.intro h2 h3)
      have g0 : (0 : Int) ≤ (k : Int) := by omega
      have g2 : (k : Int) < (n : Int) := by omega
      have HT := Lib.hid (headsL_take_succ false s k (by rw [HN.out]; exact hlt))
      have hux := HU.out _ (atH_in (l := s) (k := k) (by rw [HN.out]; exact hlt))
      have hlen : (L ++ headsL false (s.take k)).length ≤ 4194304 := by
        have h3 := take_ok_le (k3 := false) HN.out hk HU.out
        rw [List.length_append]
        omega
      generalize hx : atH s k = x at *
      obtain ⟨d, cc, q, i⟩ := x
      obtain ⟨d0, d1, u1, u2, u3⟩ := hux
      simp only at c0 c1 c2 c3 d0 d1 u1 u2 u3
      have ew := byte_wrap d d0 d1
      rw [headL_eq] at HT
      have hbl := UInt8.toNat_lt (byteI d)
      generalize (byteI d).toNat = lb at *
      have J1 := Lib.hid (hbox_new wr d cc q i 51)
      have B3 := Lib.hid (wbelow_box wr (.cells #[.int .i64 d, .int .u64 (cc : Int), .int .u64 (q : Int), .int .u64 (i : Int)] 51))
      have hw2 := Lib.hid (H1.out.on B3.out)
      have HLn := Lib.hid hlen
      have HOf := Lib.hid (H1.out.off (Nat.le_refl wr.heap.size))
      obtain ⟨j0, j1, j2, j3⟩ := J1.out
      have HB2 := Lib.hid (World.block_lt_of_cell? _ _ j0)
      have HU64 := Lib.hid (show AllU64 [cc, q] from by intro y hy; simp at hy; omega)
      clear hwr h1 h2 h3 hlen hx HLr hpos u1 u2 u3 d0 d1
      go_wp2_with fail
      generalize wr.alloc (.cells #[.int .i64 d, .int .u64 (cc : Int), .int .u64 (q : Int), .int .u64 (i : Int)] 51) = W2 at *
      generalize hB : wr.heap.size = B2 at J1 HOf HB2 ⊢
      have HB := Lib.hid hB
      clear hB c0 c1 c2 c3 j0 j1 j2 j3
      refine (wu8_any p g1 _ lb W2 hbl hw2.out (by have := HLn.out; omega)).mono ?_
      rintro e W3 ⟨rfl, h4⟩
      have H4 := Lib.hid h4
      obtain ⟨g3, q1, q2, q3⟩ := h4
      have k1 := (HOf.out.cell HB2.out q3 1).trans J1.out.2.1
      have k2 := (HOf.out.cell HB2.out q3 2).trans J1.out.2.2.1
      have Q := Lib.hid (And.intro q1 (And.intro q2 q3))
      have B4 := Lib.hid (wbelow_box W3 (.cells #[.int .u64 (cc : Int), .int .u64 (q : Int)] 22))
      have HW4 := Lib.hid (q1.on B4.out)
      have HOf4 := Lib.hid (q1.off (Nat.le_refl W3.heap.size))
      have HNm := Lib.hid (nums_two W3 cc q)
      clear q1 q2 q3
      go_wp2_with fail
      refine (wput_any p g3 _ (some ⟨W3.heap.size, 0, none⟩) [cc, q] 2 _ HW4.out HNm.out ?_ HU64.out (by simp) ?_).mono ?_
      · intro _ b e
        obtain rfl : W3.heap.size = b := by simpa [blockOf] using e
        exact HOf4.out
      · have h6 := HLn.out
        rw [List.length_append, wideL_length, List.length_cons, List.length_cons, List.length_nil]
        omega
      rintro e W5 ⟨rfl, h5⟩
      have H6 := Lib.hid (show Wrote W p g L (headsL false (s.take (k + 1))) W5 by
        rw [HT.out]
        exact Wrote.trans H23.out.1 H23.out.2 (Wrote.after B3.out (Wrote.join Q.out (Wrote.after B4.out h5))))
      clear h5
      go_wp2
      go_roundw
      case rel => exact ⟨k + 1, by omega, by go_num, H6⟩
      case measure => simp [intOf]; omega
    · obtain rfl : k = n := by omega
      have g2 : ¬ (k : Int) < (k : Int) := by omega
      have HTk := Lib.hid (show s.take k = s by rw [← HN.out, List.take_length])
      go_wp2
      go_end0
      exact ⟨rfl, by have := hwr.out; rw [HTk.out] at this; exact this⟩
theorem hds_one (w : World) (h : Hd) : Hds (w.alloc (.cells #[.int .i64 h.dst, .int .u64 (h.conn : Int), .int .u64 (h.seq : Int), .int .u64 (h.inc : Int)] 51)) (w.alloc (.cells #[.int .i64 h.dst, .int .u64 (h.conn : Int), .int .u64 (h.seq : Int), .int .u64 (h.inc : Int)] 51)).heap.size (some ⟨w.heap.size, 0, none⟩) [h] := fun _ => by
  obtain ⟨j0, j1, j2, j3⟩ := hbox_new w h.dst h.conn h.seq h.inc 51
  refine ⟨_, 0, rfl, by simp, fun k hk => ?_⟩
  obtain rfl : k = 0 := by simp at hk; omega
  exact ⟨j0, j1, j2, j3⟩
set_option maxHeartbeats 4000000 in
theorem putack_any (p : Nat) (g : Option Nat) (L : List UInt8) (A : Option Addr) (s : List Hd) (n c : Nat) (W : World) (h : Wr W p g L) (hl : Hds W W.heap.size A s) (hf : 0 < s.length → ∀ b, blockOf A = some b → Off b p g) (hn : s.length = n) (hu : ∀ h ∈ s, okH h) (hb : n ≤ 1000) (hr : L.length ≤ 1048576) :
    Calls Try.prog 80 #[.pointer (some ⟨p, 0, none⟩), .slice A n c] W (WroteE W p g L (headsL true s)) := by
  have HL := Lib.hid hl
  have HN := Lib.hid hn
  have HU := Lib.hid hu
  have HW := Lib.hid h
  have HF := Lib.hid hf
  clear hl hn hu h hf
  go_enter Try.func80, Try.ntmps80
  go_wp2
  go_loopw [8] (fun i wr => ∃ k : Nat, k ≤ n ∧ i = .int .i64 k ∧ Hid (Wrote W p g L (headsL true (s.take k)) wr)) (fun i _ => n - (intOf i).toNat)
  case atStart => exact ⟨0, Nat.zero_le _, rfl, Lib.hid (by simpa [headsL] using Wrote.same HW.out)⟩
  case round =>
    obtain ⟨k, hk, rfl, hwr⟩ := hrel
    by_cases hlt : k < n
    · obtain ⟨g1, h1, h2, h3⟩ := hwr.out
      have hpos : 0 < s.length := by rw [HN.out]; omega
      have HLr := HL.out.wrote HF.out h3
      obtain ⟨b, off, rfl, hbb, c0, c1, c2, c3⟩ := HLr.at_ (k := k) (by rw [HN.out]; exact hlt)
      have H1 := Lib.hid h1
      have H23 := Lib.hid (And.intro h2 h3)
      have g0 : (0 : Int) ≤ (k : Int) := by omega
      have g2 : (k : Int) < (n : Int) := by omega
      have HT := Lib.hid (headsL_take_succ true s k (by rw [HN.out]; exact hlt))
      have hux := HU.out _ (atH_in (l := s) (k := k) (by rw [HN.out]; exact hlt))
      have hlen : (L ++ headsL true (s.take k)).length ≤ 1090000 := by
        have h3 := take_ok_le (k3 := true) HN.out hk HU.out
        rw [List.length_append]
        omega
      have HSm := Lib.hid (okL_le (k3 := true) hux)
      generalize hx : atH s k = x at *
      obtain ⟨d, cc, q, i⟩ := x
      have HUx := Lib.hid (show ∀ h ∈ [(⟨d, cc, q, i⟩ : Hd)], okH h from fun h hm => by rw [List.mem_singleton.1 hm]; exact hux)
      have hu3 : i < 18446744073709551616 := hux.2.2.2.2
      simp only at c0 c1 c2 c3
      rw [headL_ack] at HT HSm
      have J1 := Lib.hid (hbox_new wr d cc q i 51)
      have B3 := Lib.hid (wbelow_box wr (.cells #[.int .i64 d, .int .u64 (cc : Int), .int .u64 (q : Int), .int .u64 (i : Int)] 51))
      have hw2 := Lib.hid (H1.out.on B3.out)
      have HLn := Lib.hid hlen
      have HOf := Lib.hid (H1.out.off (Nat.le_refl wr.heap.size))
      obtain ⟨j0, j1, j2, j3⟩ := J1.out
      have HB2 := Lib.hid (World.block_lt_of_cell? _ _ j0)
      have HZ := Lib.hid (show (wr.alloc (.cells #[.int .i64 d, .int .u64 (cc : Int), .int .u64 (q : Int), .int .u64 (i : Int)] 51)).heap.size = wr.heap.size + 1 by simp)
      clear hwr h1 h2 h3 hlen hx HLr hpos hux
      go_wp2_with fail
      generalize wr.alloc (.cells #[.int .i64 d, .int .u64 (cc : Int), .int .u64 (q : Int), .int .u64 (i : Int)] 51) = W2 at *
      have HH := Lib.hid (hds_one W2 ⟨d, cc, q, i⟩)
      have B4 := Lib.hid (wbelow_box W2 (.cells #[.int .i64 d, .int .u64 (cc : Int), .int .u64 (q : Int), .int .u64 (i : Int)] 51))
      have hw3 := Lib.hid (hw2.out.on B4.out)
      have HOf3 := Lib.hid (hw2.out.off (Nat.le_refl W2.heap.size))
      have J2 := Lib.hid (J1.out.below B4.out)
      have HB3 := Lib.hid (Nat.lt_of_lt_of_le HB2.out B4.out.size)
      simp only at HH
      generalize W2.alloc (.cells #[.int .i64 d, .int .u64 (cc : Int), .int .u64 (q : Int), .int .u64 (i : Int)] 51) = W3 at *
      clear c0 c1 c2 c3 j0 j1 j2 j3
      have HH2 := HH.out
      have HO2 := HOf3.out
      rw [HZ.out] at HH2 HO2
      refine (puthd_any p g1 _ (some ⟨wr.heap.size + 1, 0, none⟩) [⟨d, cc, q, i⟩] 1 1 W3 hw3.out HH2 ?_ rfl HUx.out (by omega) (by have := HLn.out; omega)).mono ?_
      · intro _ b e
        obtain rfl : wr.heap.size + 1 = b := by simpa [blockOf] using e
        exact HO2
      rintro e W4 ⟨rfl, h4⟩
      have H4 := Lib.hid h4
      obtain ⟨g3, q1, q2, q3⟩ := h4
      have k1 := (HOf.out.cell HB3.out q3 3).trans J2.out.2.2.2
      have Q := Lib.hid (And.intro q1 (And.intro q2 q3))
      clear q1 q2 q3
      have HLm := Lib.hid (show (L ++ headsL true (s.take k) ++ headsL false [⟨d, cc, q, i⟩]).length + 10 ≤ 70368744177664 from by
        have h5 := HLn.out
        have h6 := HSm.out
        rw [List.length_append] at h6
        rw [List.length_append]
        omega)
      go_wp2_with fail
      refine (wuint_any p g3 _ i W4 Q.out.1 hu3 HLm.out).mono ?_
      rintro e W5 ⟨rfl, h5⟩
      have H6 := Lib.hid (show Wrote W p g L (headsL true (s.take (k + 1))) W5 by
        rw [HT.out]
        exact Wrote.trans H23.out.1 H23.out.2 (Wrote.after B3.out (Wrote.after B4.out (Wrote.join Q.out h5))))
      clear h5
      go_wp2
      go_roundw
      case rel => exact ⟨k + 1, by omega, by go_num, H6⟩
      case measure => simp [intOf]; omega
    · obtain rfl : k = n := by omega
      have g2 : ¬ (k : Int) < (k : Int) := by omega
      have HTk := Lib.hid (show s.take k = s by rw [← HN.out, List.take_length])
      go_wp2
      go_end0
      exact ⟨rfl, by have := hwr.out; rw [HTk.out] at this; exact this⟩
end Go.Proofs.Ytlcddfkhklmieaa
