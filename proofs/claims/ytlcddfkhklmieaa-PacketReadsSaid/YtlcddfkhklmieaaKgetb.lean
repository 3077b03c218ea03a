/-
  What package packet's getList reads: as many lives, heads or acks' heads as the byte ahead tells. For Readers of at most 2^46 bytes.
-/
import Derived.Test.YtlcddfkhklmieaaKgeta
import Derived.Test.YtlcddfkhklmieaaInprocs
namespace Go.Proofs.Ytlcddfkhklmieaa
set_option maxRecDepth 20000
open Go.RowKit

set_option maxHeartbeats 4000000 in
theorem getlp_any (q : Nat) (d : Option Nat) (s : RS) (w : World) (h : Rd RdT w q d s.l s.bad) (hr : s.l.length ≤ 70368744177664) :
    Calls Try.prog 84 #[.pointer (some ⟨q, 0, none⟩), .func (.func 82) #[] #[]] w fun e w' => ∃ A c, e = .returned (.slice A (rWide s 1).1 c) ∧ Hid (OwnP w' w.heap.size A (rWide s 1).1 c (gets (rWide s 1).1 (rWide s 1).2).1) ∧ Hid (Rd RdT w' q d (gets (rWide s 1).1 (rWide s 1).2).2.l (gets (rWide s 1).1 (rWide s 1).2).2.bad) ∧ Hid (Only (fun k => k = q) w w') := by
  have hlt1 := rWide_lt s 1
  have HQ := Lib.hid h.lt
  have HDL := Lib.hid h.dlt
  have HLE := Lib.hid (fun k => Nat.le_trans (gets_le k (rWide s 1).2) (Nat.le_trans (rWide_le s 1) hr))
  have HH := Lib.hid h
  obtain ⟨⟨n, s1⟩, hrw⟩ : ∃ y, rWide s 1 = y := ⟨_, rfl⟩
  simp only [hrw] at hlt1 HLE ⊢
  have HRW := Lib.hid hrw
  clear h hr hrw
  go_enter Try.func84, Try.ntmps84
  go_wp2_with fail
  refine (ru8_any q d s w HH.out).mono ?_
  rintro e W1 ⟨rfl, r1, o1⟩
  rw [HRW.out] at r1 ⊢
  simp only at r1 ⊢
  have hn : n < 256 := by simpa using hlt1
  have hz1 := o1.out.size
  clear hlt1 HH
  go_wp2
  go_loopw [5, 8] (fun sl i wr => ∃ k : Nat, ∃ A' c', k ≤ n ∧ sl = .slice A' k c' ∧ i = .int .u8 (k : Nat) ∧ Hid (OwnP wr W1.heap.size A' k c' (gets k s1).1) ∧ Hid (Rd RdT wr q d (gets k s1).2.l (gets k s1).2.bad) ∧ Hid (Only (fun k => k = q) W1 wr)) (fun _ i _ => n - (intOf i).toNat)
  case atStart => exact ⟨0, none, 0, Nat.zero_le _, rfl, rfl, Lib.hid OwnP.nil_, r1, Lib.hid (Only.refl _ _)⟩
  case round =>
    obtain ⟨k, A2, c2, hk, rfl, rfl, ho2, r2, o2⟩ := hrel
    have hqlt := r1.out.lt
    have hdlt := Lib.hid r1.out.dlt
    by_cases hlt : k < n
    · have g1 : (k : Int) < (n : Int) := by omega
      have HGk := Lib.hid (show gets (k + 1) s1 = ((gets k s1).1 ++ [(gotL (gets k s1).2).1], (gotL (gets k s1).2).2) from rfl)
      have HGet := Lib.hid (get_any q d (gets k s1).2 wr r2.out (HLE.out k))
      generalize gotL (gets k s1).2 = y at *
      obtain ⟨⟨y1, y2⟩, y3⟩ := y
      simp only at HGet HGk
      go_wp2_with fail
      refine HGet.out.mono ?_
      rintro e W3 ⟨rfl, r3, o3⟩
      have ho3 := Lib.hid (ho2.out.keep o3.out (fun k e e2 => by have := ownP_base ho2.out k e; omega))
      have o4 := Lib.hid (only_trans o2.out o3.out)
      have HN := Lib.hid (lives_new W3 [(y1, y2)])
      have B5 := Lib.hid (wbelow_box W3 (.cells (flatP [(y1, y2)]).toArray 24))
      have ho5 := Lib.hid (ho3.out.on B5.out)
      have o5 := Lib.hid (only_trans o4.out (Only.ofBelow (S := fun k => k = q) B5.out))
      have r5 := Lib.hid (r3.out.on2 B5.out)
      clear HGet r2 r3 ho2 ho3 o2 o3 o4
      go_wp2_with (at_builtin; refine wpList_appendP rfl _ _ rfl W1.heap.size A2 k c2 _ rfl ?qc0 ho5.out (some ⟨W3.heap.size, 0, none⟩) 1 1 _ [(y1, y2)] rfl rfl (fun e => by cases e) HN.out (by omega) ?_)
      case qc0 => exact o5.out.size
      intro A6 c6 W6 e1 e2 e3
      have hk1 : (k : Int) + 1 < 256 := by omega
      go_wp2
      go_roundw
      case rel => exact ⟨k + 1, A6, c6, by omega, rfl, by go_num, Lib.hid (by rw [HGk.out]; exact e1.out), Lib.hid (by rw [HGk.out]; exact r5.out.keep e2.out (fun e => by have := ownP_base ho5.out _ e; omega) (fun k hk e => by have := ownP_base ho5.out _ e; have := hdlt.out k hk; omega)), Lib.hid (o5.out.trans e2.out (fun k hk e => by have := ownP_base ho5.out _ e; omega))⟩
      case measure => simp [intOf]; omega
    · obtain rfl : k = n := by omega
      have g1 : ¬ (k : Int) < (k : Int) := by omega
      go_wp2
      go_ret
      exact ⟨A2, c2, rfl, Lib.hid (ho2.out.lower hz1), r2, Lib.hid (only_trans o1.out o2.out)⟩
set_option maxHeartbeats 4000000 in
theorem getlh_any (q : Nat) (d : Option Nat) (s : RS) (w : World) (h : Rd RdT w q d s.l s.bad) (hr : s.l.length ≤ 70368744177664) :
    Calls Try.prog 86 #[.pointer (some ⟨q, 0, none⟩), .func (.func 87) #[] #[]] w fun e w' => ∃ A c, e = .returned (.slice A (rWide s 1).1 c) ∧ Hid (OwnH w' w.heap.size A (rWide s 1).1 c (getHs false (rWide s 1).1 (rWide s 1).2).1) ∧ Hid (Rd RdT w' q d (getHs false (rWide s 1).1 (rWide s 1).2).2.l (getHs false (rWide s 1).1 (rWide s 1).2).2.bad) ∧ Hid (Only (fun k => k = q) w w') := by
  have hlt1 := rWide_lt s 1
  have HQ := Lib.hid h.lt
  have HDL := Lib.hid h.dlt
  have HLE := Lib.hid (fun k => Nat.le_trans (getHs_le false k (rWide s 1).2) (Nat.le_trans (rWide_le s 1) hr))
  have HH := Lib.hid h
  obtain ⟨⟨n, s1⟩, hrw⟩ : ∃ y, rWide s 1 = y := ⟨_, rfl⟩
  simp only [hrw] at hlt1 HLE ⊢
  have HRW := Lib.hid hrw
  clear h hr hrw
  go_enter Try.func86, Try.ntmps86
  go_wp2_with fail
  refine (ru8_any q d s w HH.out).mono ?_
  rintro e W1 ⟨rfl, r1, o1⟩
  rw [HRW.out] at r1 ⊢
  simp only at r1 ⊢
  have hn : n < 256 := by simpa using hlt1
  have hz1 := o1.out.size
  clear hlt1 HH
  go_wp2
  go_loopw [5, 8] (fun sl i wr => ∃ k : Nat, ∃ A' c', k ≤ n ∧ sl = .slice A' k c' ∧ i = .int .u8 (k : Nat) ∧ Hid (OwnH wr W1.heap.size A' k c' (getHs false k s1).1) ∧ Hid (Rd RdT wr q d (getHs false k s1).2.l (getHs false k s1).2.bad) ∧ Hid (Only (fun k => k = q) W1 wr)) (fun _ i _ => n - (intOf i).toNat)
  case atStart => exact ⟨0, none, 0, Nat.zero_le _, rfl, rfl, Lib.hid OwnH.nil_, r1, Lib.hid (Only.refl _ _)⟩
  case round =>
    obtain ⟨k, A2, c2, hk, rfl, rfl, ho2, r2, o2⟩ := hrel
    have hqlt := r1.out.lt
    have hdlt := Lib.hid r1.out.dlt
    by_cases hlt : k < n
    · have g1 : (k : Int) < (n : Int) := by omega
      have HGk := Lib.hid (show getHs false (k + 1) s1 = ((getHs false k s1).1 ++ [(getH false (getHs false k s1).2).1], (getH false (getHs false k s1).2).2) from rfl)
      have HGet := Lib.hid (gethd_any q d (getHs false k s1).2 wr r2.out (HLE.out k))
      unfold GotH at HGet
      generalize getH false (getHs false k s1).2 = y at *
      obtain ⟨⟨yd, yc, yq, yi⟩, y3⟩ := y
      simp only [hdV] at HGet HGk
      go_wp2_with fail
      refine HGet.out.mono ?_
      rintro e W3 ⟨rfl, r3, o3⟩
      have ho3 := Lib.hid (ho2.out.keep o3.out (fun k e e2 => by have := ownH_base ho2.out k e; omega))
      have o4 := Lib.hid (only_trans o2.out o3.out)
      have HN := Lib.hid (heads_new W3 [⟨yd, yc, yq, yi⟩])
      have B5 := Lib.hid (wbelow_box W3 (.cells (flatH [⟨yd, yc, yq, yi⟩]).toArray 51))
      have ho5 := Lib.hid (ho3.out.on B5.out)
      have o5 := Lib.hid (only_trans o4.out (Only.ofBelow (S := fun k => k = q) B5.out))
      have r5 := Lib.hid (r3.out.on2 B5.out)
      clear HGet r2 r3 ho2 ho3 o2 o3 o4
      go_wp2_with (at_builtin; refine wpList_appendH rfl _ _ rfl W1.heap.size A2 k c2 _ rfl ?qc0 ho5.out (some ⟨W3.heap.size, 0, none⟩) 1 1 _ [⟨yd, yc, yq, yi⟩] rfl rfl (fun e => by cases e) HN.out (by omega) ?_)
      case qc0 => exact o5.out.size
      intro A6 c6 W6 e1 e2 e3
      have hk1 : (k : Int) + 1 < 256 := by omega
      go_wp2
      go_roundw
      case rel => exact ⟨k + 1, A6, c6, by omega, rfl, by go_num, Lib.hid (by rw [HGk.out]; exact e1.out), Lib.hid (by rw [HGk.out]; exact r5.out.keep e2.out (fun e => by have := ownH_base ho5.out _ e; omega) (fun k hk e => by have := ownH_base ho5.out _ e; have := hdlt.out k hk; omega)), Lib.hid (o5.out.trans e2.out (fun k hk e => by have := ownH_base ho5.out _ e; omega))⟩
      case measure => simp [intOf]; omega
    · obtain rfl : k = n := by omega
      have g1 : ¬ (k : Int) < (k : Int) := by omega
      go_wp2
      go_ret
      exact ⟨A2, c2, rfl, Lib.hid (ho2.out.lower hz1), r2, Lib.hid (only_trans o1.out o2.out)⟩
set_option maxHeartbeats 4000000 in
theorem getla_any (q : Nat) (d : Option Nat) (s : RS) (w : World) (h : Rd RdT w q d s.l s.bad) (hr : s.l.length ≤ 70368744177664) :
    Calls Try.prog 86 #[.pointer (some ⟨q, 0, none⟩), .func (.func 89) #[] #[]] w fun e w' => ∃ A c, e = .returned (.slice A (rWide s 1).1 c) ∧ Hid (OwnH w' w.heap.size A (rWide s 1).1 c (getHs true (rWide s 1).1 (rWide s 1).2).1) ∧ Hid (Rd RdT w' q d (getHs true (rWide s 1).1 (rWide s 1).2).2.l (getHs true (rWide s 1).1 (rWide s 1).2).2.bad) ∧ Hid (Only (fun k => k = q) w w') := by
  have hlt1 := rWide_lt s 1
  have HQ := Lib.hid h.lt
  have HDL := Lib.hid h.dlt
  have HLE := Lib.hid (fun k => Nat.le_trans (getHs_le true k (rWide s 1).2) (Nat.le_trans (rWide_le s 1) hr))
  have HH := Lib.hid h
  obtain ⟨⟨n, s1⟩, hrw⟩ : ∃ y, rWide s 1 = y := ⟨_, rfl⟩
  simp only [hrw] at hlt1 HLE ⊢
  have HRW := Lib.hid hrw
  clear h hr hrw
  go_enter Try.func86, Try.ntmps86
  go_wp2_with fail
  refine (ru8_any q d s w HH.out).mono ?_
  rintro e W1 ⟨rfl, r1, o1⟩
  rw [HRW.out] at r1 ⊢
  simp only at r1 ⊢
  have hn : n < 256 := by simpa using hlt1
  have hz1 := o1.out.size
  clear hlt1 HH
  go_wp2
  go_loopw [5, 8] (fun sl i wr => ∃ k : Nat, ∃ A' c', k ≤ n ∧ sl = .slice A' k c' ∧ i = .int .u8 (k : Nat) ∧ Hid (OwnH wr W1.heap.size A' k c' (getHs true k s1).1) ∧ Hid (Rd RdT wr q d (getHs true k s1).2.l (getHs true k s1).2.bad) ∧ Hid (Only (fun k => k = q) W1 wr)) (fun _ i _ => n - (intOf i).toNat)
  case atStart => exact ⟨0, none, 0, Nat.zero_le _, rfl, rfl, Lib.hid OwnH.nil_, r1, Lib.hid (Only.refl _ _)⟩
  case round =>
    obtain ⟨k, A2, c2, hk, rfl, rfl, ho2, r2, o2⟩ := hrel
    have hqlt := r1.out.lt
    have hdlt := Lib.hid r1.out.dlt
    by_cases hlt : k < n
    · have g1 : (k : Int) < (n : Int) := by omega
      have HGk := Lib.hid (show getHs true (k + 1) s1 = ((getHs true k s1).1 ++ [(getH true (getHs true k s1).2).1], (getH true (getHs true k s1).2).2) from rfl)
      have HGet := Lib.hid (getack_any q d (getHs true k s1).2 wr r2.out (HLE.out k))
      unfold GotH at HGet
      generalize getH true (getHs true k s1).2 = y at *
      obtain ⟨⟨yd, yc, yq, yi⟩, y3⟩ := y
      simp only [hdV] at HGet HGk
      go_wp2_with fail
      refine HGet.out.mono ?_
      rintro e W3 ⟨rfl, r3, o3⟩
      have ho3 := Lib.hid (ho2.out.keep o3.out (fun k e e2 => by have := ownH_base ho2.out k e; omega))
      have o4 := Lib.hid (only_trans o2.out o3.out)
      have HN := Lib.hid (heads_new W3 [⟨yd, yc, yq, yi⟩])
      have B5 := Lib.hid (wbelow_box W3 (.cells (flatH [⟨yd, yc, yq, yi⟩]).toArray 51))
      have ho5 := Lib.hid (ho3.out.on B5.out)
      have o5 := Lib.hid (only_trans o4.out (Only.ofBelow (S := fun k => k = q) B5.out))
      have r5 := Lib.hid (r3.out.on2 B5.out)
      clear HGet r2 r3 ho2 ho3 o2 o3 o4
      go_wp2_with (at_builtin; refine wpList_appendH rfl _ _ rfl W1.heap.size A2 k c2 _ rfl ?qc0 ho5.out (some ⟨W3.heap.size, 0, none⟩) 1 1 _ [⟨yd, yc, yq, yi⟩] rfl rfl (fun e => by cases e) HN.out (by omega) ?_)
      case qc0 => exact o5.out.size
      intro A6 c6 W6 e1 e2 e3
      have hk1 : (k : Int) + 1 < 256 := by omega
      go_wp2
      go_roundw
      case rel => exact ⟨k + 1, A6, c6, by omega, rfl, by go_num, Lib.hid (by rw [HGk.out]; exact e1.out), Lib.hid (by rw [HGk.out]; exact r5.out.keep e2.out (fun e => by have := ownH_base ho5.out _ e; omega) (fun k hk e => by have := ownH_base ho5.out _ e; have := hdlt.out k hk; omega)), Lib.hid (o5.out.trans e2.out (fun k hk e => by have := ownH_base ho5.out _ e; omega))⟩
      case measure => simp [intOf]; omega
    · obtain rfl : k = n := by omega
      have g1 : ¬ (k : Int) < (k : Int) := by omega
      go_wp2
      go_ret
      exact ⟨A2, c2, rfl, Lib.hid (ho2.out.lower hz1), r2, Lib.hid (only_trans o1.out o2.out)⟩
end Go.Proofs.Ytlcddfkhklmieaa
