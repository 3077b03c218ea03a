/-
  A sender copied, by package window's copied and by the document's Own. For rows of at most 2000 bodies of at most 1,000,000 bytes.
-/
import Derived.Test.YtmkkhknbokfciaaQmem
namespace Go.Proofs.Ytmkkhknbokfciaa
set_option maxRecDepth 20000
open Go.RowKit

/-- What a copy answers. -/
def CopyE (w : World) (base : Int) (n : Nat) (ls : List (List UInt8)) (e : Ending) (w' : World) : Prop := ∃ A c, e = .returned (.agg #[.int .u64 base, .slice A n c]) ∧ Hid (ORws w' w.heap.size A n c ls) ∧ Hid (Below w.heap.size w w')

set_option maxHeartbeats 4000000 in
theorem copied_any (base : Int) (A : Option Addr) (n c : Nat) (ls : List (List UInt8)) (w : World) (hl : ls.length = n) (hi : Rws w w.heap.size A ls) (hr : n ≤ 2000) (hb : ∀ k, k < n → (bodK ls k).length ≤ 1000000) :
    Calls Try.prog 31 #[.agg #[.int .u64 base, .slice A n c]] w (CopyE w base n ls) := by
  have X1 := Lib.hid (sbox_new w base A n c 25)
  have B1 := Lib.hid (qbox w (.cells #[.int .u64 base, .slice A n c] 25))
  have HI := Lib.hid hi
  have HR := Lib.hid hr
  have HB := Lib.hid hb
  have HL := Lib.hid hl
  clear hi hb hl
  go_enter Try.func31, Try.ntmps31
  obtain ⟨k0, k1⟩ := X1.out
  generalize hW : w.alloc (.cells #[.int .u64 base, .slice A n c] 25) = W1 at *
  have R2 := Lib.hid (show SRow W1.heap.size 0 none 0 0 (W1.alloc (.cells #[.int .u64 0, .slice none 0 0] 25)) from qnew W1 _ _)
  have b2 := qbox W1 (.cells #[.int .u64 0, .slice none 0 0] 25)
  have B2 := Lib.hid (qtr B1.out b2)
  have k2 := qold k0 b2
  have k3 := qold k1 b2
  have R3 := Lib.hid (show SRow (W1.alloc (.cells #[.int .u64 0, .slice none 0 0] 25)).heap.size base none 0 0 ((W1.alloc (.cells #[.int .u64 0, .slice none 0 0] 25)).alloc (.cells #[.int .u64 base, .slice none 0 0] 25)) from qnew _ _ _)
  have b3 := qbox (W1.alloc (.cells #[.int .u64 0, .slice none 0 0] 25)) (.cells #[.int .u64 base, .slice none 0 0] 25)
  have B3 := Lib.hid (qtr B2.out b3)
  have k4 := qold k2 b3
  have k5 := qold k3 b3
  have R2' := Lib.hid (R2.out.below b3)
  clear R2 b2 b3
  go_wp2_with fail
  generalize hW3 : (W1.alloc (.cells #[.int .u64 0, .slice none 0 0] 25)).alloc (.cells #[.int .u64 base, .slice none 0 0] 25) = W3 at *
  have e3 : (W1.alloc (.cells #[.int .u64 0, .slice none 0 0] 25)).heap.size = W1.heap.size + 1 := by simp
  rw [e3] at R3
  generalize hG : W1.heap.size + 1 = G at *
  have HwG := Lib.hid (show w.heap.size < G by have := B2.out.size; have := k0; have h1 := World.block_lt_of_cell? _ _ k2; simp only at h1; omega)
  have HGW := Lib.hid (show W3.heap.size = G + 1 by rw [← hW3, ← hG]; simp)
  have HRG := Lib.hid (show W1.heap.size < G by omega)
  have I3 := Lib.hid (HI.out.below B3.out)
  have HW1 := Lib.hid (show w.heap.size < W1.heap.size by rw [← hW]; simp)
  clear hW hW3 hG e3 k0 k1 k2 k3 k4 k5 B1 B2 X1
  go_loopw [12] (fun i wr => ∃ k A0 c0, k ≤ n ∧ i = .int .i64 (k : Nat) ∧ Hid (SRow G base A0 k c0 wr) ∧ Hid (ORws wr (G + 1) A0 k c0 (ls.take k)) ∧ Hid (Only (fun j => j = G) W3 wr)) (fun i _ => n - (intOf i).toNat)
  case atStart => exact ⟨0, none, 0, Nat.zero_le _, rfl, R3, Lib.hid (by simpa using ORws.nil_), Lib.hid (Only.refl _ _)⟩
  case round =>
    obtain ⟨k, A0, c0, hk, rfl, HX, HU, HO⟩ := hrel
    by_cases hlt : k < n
    · have g1 : (k : Int) < (n : Int) := by omega
      have hk4 : k + 1 ≤ 1000000 := by omega
      have HT := Lib.hid (take_bodK (ls := ls) (k := k) (by rw [HL.out]; exact hlt))
      have HBk := Lib.hid (HB.out k hlt)
      obtain ⟨b, off, rfl, hbl, hc⟩ := I3.out (by rw [HL.out]; omega)
      obtain ⟨A', c', hcell, hn', hby⟩ := hc k (by rw [HL.out]; exact hlt)
      have hs1 : wr.cell? ⟨b, off + k, none⟩ = some (.slice A' (bodK ls k).length c') := (HO.out.cell (p := ⟨b, off + k, none⟩) (by simp only; have := B3.out.size; omega) (by simp only; have := HwG.out; omega)).trans hcell
      have HY : Hid (Bytes wr.drew w.heap.size A' (bodK ls k)) := Lib.hid (fun hp => by
        obtain ⟨b2, o2, e2, hl2, hc2⟩ := hby hp
        exact ⟨b2, o2, e2, hl2, fun j hj => (HO.out.cell (p := ⟨b2, o2 + j, none⟩) (by simp only; have := B3.out.size; omega) (by simp only; have := HwG.out; omega)).trans (hc2 j hj)⟩)
      have HN := Lib.hid hn'
      have HS : Hid (w.heap.size ≤ wr.drew.heap.size) := Lib.hid (show w.heap.size ≤ wr.heap.size by have := HO.out.size; have := B3.out.size; omega)
      have HSd : Hid (G + 1 ≤ wr.drew.heap.size) := Lib.hid (show G + 1 ≤ wr.heap.size by rw [← HGW.out]; exact HO.out.size)
      have HXd : Hid (SRow G base A0 k c0 wr.drew) := HX
      have HUd : Hid (ORws wr.drew (G + 1) A0 k c0 (ls.take k)) := HU
      have kx := HXd.out.box.2
      clear hbl hc hcell hn' hby
      generalize hlk : bodK ls k = l at *
      generalize hm : l.length = m at *
      have HM := Lib.hid hm
      generalize ls.take k = lk at *
      clear hlk hm
      go_wp2_with fail
      go_region_law (first
        | (refine step_free rfl ?_; unfold Oper.wp; simp only [execOp]; go_simp; go_at_call 32; refine (clone_any A' l m c' w.heap.size _ HM.out HN.out HY.out HS.out (by have := HBk.out; omega)).mono ?_; rintro e V1 ⟨A1, c1, rfl, o1, b1⟩; have X1 := Lib.hid (HXd.out.below b1.out); have k41 := X1.out.box.2; have k42 := fun o => qold k41 (qbox _ o); have U1 := Lib.hid (HUd.out.on b1.out); have S1 := Lib.hid (Nat.le_trans HSd.out b1.out.size))
        | (refine step_appendR rfl rfl (.tmp 17) (.tmp 20) rfl (G + 1) A0 k c0 lk rfl (Nat.le_trans S1.out (qbox _ _).size) (U1.out.on (qbox _ _)) V1.heap.size A1 l.length c1 l rfl ((cell_of_row _ _ 0 _ _ (0, 0) (qnew V1 #[.slice A1 l.length c1] 26)).trans rfl) rfl ((o1.out.lower HSd.out).keep (S := fun _ => False) (Only.ofBelow (qbox _ _)) (fun _ _ h => h)) (fun g hg e => by have h1 := (o1.out.lt hg).1; have h2 := (HUd.out.bs g e).2; omega) hk4 ?_; intro A6 c6 V6 e61 e62 e63; have X6 := Lib.hid ((X1.out.below (qbox _ _)).keep e62.out (fun e => by have := (U1.out.bs _ e).1; omega)); have z6 := X6.out.box.2; have f6 := frozen_plain X6.out 1))
      all_goals
        have O7 := Lib.hid (show Only (fun k => k = G) V6 (V6.setCell ⟨G, 1, none⟩ (.slice A6 (k + 1) c6)) from (Only.refl (fun k => k = G) V6).setCell (p := ⟨G, 1, none⟩) (.inl rfl) _)
        have X7 := Lib.hid (X6.out.set1 A6 (k + 1) c6)
        have U7 := Lib.hid (e61.out.keep O7.out (fun k e e2 => by omega))
        have Q7 := Lib.hid (show Only (fun j => j = G) W3 (V6.setCell ⟨G, 1, none⟩ (.slice A6 (k + 1) c6)) from by
          have t1 : Only (fun j => j = G) W3 V1 := HO.out.trans (Only.undrew (Only.ofBelow (S := fun k => k = G) b1.out)) fun _ _ h => h
          have t2 := t1.trans (Only.ofBelow (S := fun k => k = G) (qbox V1 (.cells #[.slice A1 l.length c1] 26))) fun _ _ h => h
          have t3 := t2.trans e62.out fun j hj e => by have := (U1.out.bs _ e).1; have := HGW.out; omega
          exact t3.trans O7.out fun _ _ h => h)
        clear e61 e62 e63 X6 z6 f6 X1 k41 k42 U1 S1 o1 b1 O7
        go_wp2
        go_roundw
        case rel => exact ⟨k + 1, A6, c6, by omega, by go_num, X7, Lib.hid (by rw [HT.out]; exact U7.out), Q7⟩
        case measure => simp [intOf]; omega
    · obtain rfl : k = n := by omega
      have g1 : ¬ (k : Int) < (k : Int) := by omega
      have hfull : ls.take k = ls := by rw [← HL.out]; exact List.take_length
      rw [hfull] at HU
      have R8 := Lib.hid (R2'.out.keep HO.out (fun e => by have := HRG.out; omega))
      have HUW0 : w.heap.size < W1.heap.size := HW1.out
      obtain ⟨k0, k1⟩ := HX.out.box
      obtain ⟨z0, z1⟩ := R8.out.box
      have f0 := frozen_plain R8.out 0
      have f1 := frozen_plain R8.out 1
      have HS8 := Lib.hid (R8.out.set2 base A0 k c0)
      have O8 := Lib.hid (only_two wr W1.heap.size (.int .u64 base) (.slice A0 k c0))
      have HUW := Lib.hid HUW0
      clear HI HR HB HL hr hk hfull I3 HGW R3 HUW0
      go_wp2
      (try simp only [Exit.inBlock, Exit.then])
      refine bodyPost_ret (results_cell_row rfl _ _ W1.heap.size 25 #[.int .u64 base, .slice A0 k c0] (0, 0) _ rfl HS8.out Try.underlying25 rfl (by kernel_rfl)) rfl ?_
      refine ⟨A0, c0, rfl, Lib.hid ((HU.out.keep O8.out (fun j hj e => by have := HRG.out; omega)).lower (by have := HwG.out; omega)), Lib.hid ?_⟩
      exact O8.out.below (HO.out.below B3.out (fun j e => by have := HwG.out; omega) (by have := B3.out.size; omega)) (fun j e => by have := HUW.out; omega) (by have := HO.out.size; have := B3.out.size; omega)
end Go.Proofs.Ytmkkhknbokfciaa
