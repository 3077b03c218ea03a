/-
  The document's Both and Kept. For lists of at most 2^36 lives.
-/
import Derived.Test.YtadpbcbgmopfaaaPlst
import Derived.Test.YtadpbcbgmopfaaaPrsort
namespace Go.Proofs.Ytadpbcbgmopfaaa
set_option maxRecDepth 20000
open Go.RowKit

theorem requal_true' {W : World} {A1 A2 : Option Addr} {a : List Life} {n1 c1 n2 c2 : Nat} (h1 : Lives W W.heap.size A1 a) (h2 : Lives W W.heap.size A2 a) (hn1 : a.length = n1) (hn2 : a.length = n2) (hb : n1 ≤ 1099511627776) :
    Calls Try.prog 44 #[.slice A1 n1 c1, .slice A2 n2 c2] W fun e w' => e = .returned (.bool true) ∧ Hid (Below W.heap.size W w') := by
  have h := requal_any A1 a n1 c1 A2 a n2 c2 W h1 h2 hn1 hn2 hb (by omega)
  rwa [decide_eq_true rfl] at h
theorem rsorted_lst' {W : World} {N1 n1 c1 : Nat} {A1 : Option Addr} {a : List Life} (h1 : Lst W N1 A1 n1 c1 a) (hN : N1 ≤ 274877906944) :
    Calls Try.prog 45 #[.slice A1 n1 c1] W fun e w' => ∃ A' c' m, e = .returned (.slice A' m c') ∧ Hid (Lst w' N1 A' m c' (setL a)) ∧ Hid (Below W.heap.size W w') := by
  refine (rsorted_any A1 a n1 c1 W h1.lives h1.len (Nat.le_trans h1.le hN)).mono ?_
  rintro e w' ⟨A', c', m, rfl, ho, hm, hb⟩
  exact ⟨A', c', m, rfl, Lib.hid ⟨ho.out.lives, ho.out.len, Nat.le_trans hm.out h1.le, ho.out.none_cap⟩, hb⟩
set_option maxHeartbeats 1000000 in
theorem rboth_lst {W : World} {N1 N2 n1 c1 n2 c2 : Nat} {A1 A2 : Option Addr} {a b : List Life} (h1 : Lst W N1 A1 n1 c1 a) (h2 : Lst W N2 A2 n2 c2 b) (hN : N1 + N2 ≤ 1099511627776) :
    Calls Try.prog 54 #[.slice A1 n1 c1, .slice A2 n2 c2] W fun e w' => ∃ A' c' m, e = .returned (.slice A' m c') ∧ Hid (Lst w' (N1 + N2) A' m c' (a ++ b)) ∧ Hid (Below W.heap.size W w') := by
  have H1 := Lib.hid h1
  have H2 := Lib.hid h2
  have hle1 := h1.le
  have hle2 := h2.le
  clear h1 h2
  go_enter Try.func54, Try.ntmps54
  have E0 := Lib.hid ((Below.refl W.heap.size W).alloc (Nat.le_refl _) (.cells #[] 70))
  go_wp2_with (at_builtin; refine wpList_appendP rfl _ _ rfl W.heap.size _ 0 _ [] rfl (by simp) (World.ownsRow_made W #[] 0 (Nat.le_refl _) (Nat.zero_le _) (by simp)) A1 n1 c1 W.heap.size a rfl H1.out.len H1.out.cap (H1.out.lives.below E0.out) (by omega) ?_)
  intro A5 c5 W5 r1 r2 r3
  have B5 := Lib.hid (r2.out.below E0.out (by rintro k e; simp [blockOf] at e; omega) E0.out.size)
  have r1 := Lib.hid (show OwnP W5 W.heap.size A5 n1 c5 a from by simpa using r1.out)
  clear r2 r3
  go_wp2_with (at_builtin; refine wpList_appendP rfl _ _ rfl W.heap.size A5 n1 c5 a rfl B5.out.size r1.out A2 n2 c2 _ b rfl H2.out.len H2.out.cap (H2.out.on B5.out).lives (by omega) ?_)
  intro A6 c6 W6 s1 s2 s3
  go_wp2
  go_ret
  exact ⟨A6, c6, n1 + n2, rfl, Lib.hid ⟨(show OwnP W6 W.heap.size A6 (n1 + n2) c6 (a ++ b) from s1.out).lives, by rw [List.length_append, H1.out.len, H2.out.len], by omega, (show OwnP W6 W.heap.size A6 (n1 + n2) c6 (a ++ b) from s1.out).none_cap⟩, Lib.hid (s2.out.below B5.out r1.out.base0 B5.out.size)⟩
set_option maxHeartbeats 2000000 in
theorem rkept_any {W : World} {N1 N2 n1 c1 n2 c2 : Nat} {A1 A2 : Option Addr} {a b : List Life} (v : Bool) (h1 : Lst W N1 A1 n1 c1 a) (h2 : Lst W N2 A2 n2 c2 b) (hN1 : N1 ≤ 68719476736) (hN2 : N2 ≤ 68719476736) :
    Calls Try.prog 56 #[.slice A1 n1 c1, .slice A2 n2 c2, .bool v] W fun e w' => ∃ A' c' m, e = .returned (.slice A' m c') ∧ Hid (Lst w' N1 A' m c' (setL (a.filter fun p => decide (p ∈ b) == v))) ∧ Hid (Below W.heap.size W w') := by
  have H1 := Lib.hid h1
  have H2 := Lib.hid h2
  have hle1 := h1.le
  have hle2 := h2.le
  have HLen := Lib.hid h1.len
  clear h1 h2
  go_enter Try.func56, Try.ntmps56
  go_wp2
  go_loopw [7, 8] (fun s i wr => ∃ k : Nat, ∃ A' c' t, k ≤ n1 ∧ t ≤ k ∧ s = .slice A' t c' ∧ i = .int .i64 k ∧ Hid (OwnP wr W.heap.size A' t c' ((a.take k).filter fun p => decide (p ∈ b) == v)) ∧ Hid (Below W.heap.size W wr)) (fun _ i _ => n1 - (intOf i).toNat)
  case atStart => exact ⟨0, none, 0, 0, Nat.zero_le _, Nat.le_refl _, rfl, rfl, Lib.hid OwnP.nil_, Lib.hid (Below.refl _ _)⟩
  case round =>
    obtain ⟨k, A3, c3, t, hk, htk, rfl, rfl, ho, hb⟩ := hrel
    by_cases hlt : k < n1
    · obtain ⟨g, off, rfl, hgb, e1, e2⟩ := (H1.out.lives.below hb.out).at_ (k := k) (by rw [HLen.out]; exact hlt)
      have g0 : (0 : Int) ≤ (k : Int) := by omega
      have g1 : (k : Int) < (n1 : Int) := by omega
      have HT := Lib.hid (show (a.take (k + 1)).filter (fun p => decide (p ∈ b) == v) = (a.take k).filter (fun p => decide (p ∈ b) == v) ++ (if (decide (atL a k ∈ b) == v) = true then [atL a k] else []) from by
        rw [List.take_add_one, List.getElem?_eq_getElem (by rw [HLen.out]; exact hlt), List.filter_append, atL_lt (by rw [HLen.out]; exact hlt)]
        simp only [Option.toList, List.filter_cons, List.filter_nil])
      have HHas := Lib.hid (rhas_any A2 b n2 c2 (atL a k) wr (H2.out.on hb.out).lives H2.out.len (by omega))
      generalize atL a k = x at *
      obtain ⟨x1, x2⟩ := x
      simp only at e1 e2
      generalize decide (((x1, x2) : Life) ∈ b) = r at *
      go_wp2_with fail
      refine HHas.out.mono ?_
      rintro e W3 ⟨rfl, hb3⟩
      have B3 := Lib.hid (btr hb.out hb3.out)
      have ho3 := Lib.hid (ho.out.on hb3.out)
      have k1 := cell_below e1 hb3.out
      have k2 := cell_below e2 hb3.out
      clear e1 e2 HHas ho hb hb3 hgb
      by_cases hr : (r == v) = true
      · have hr' := hr
        rw [hr, if_pos rfl] at HT
        have HN := Lib.hid (lives_new W3 [(x1, x2)])
        have E5 := Lib.hid ((Below.refl W3.heap.size W3).alloc (Nat.le_refl _) (.cells (flatP [(x1, x2)]).toArray 70))
        have ho5 := Lib.hid (ho3.out.on E5.out)
        have BB := Lib.hid (btr B3.out E5.out)
        go_wp2_with (at_builtin; refine wpList_appendP rfl _ _ rfl W.heap.size A3 t c3 _ rfl BB.out.size ho5.out (some ⟨W3.heap.size, 0, none⟩) 1 1 _ [(x1, x2)] rfl rfl (fun e => by cases e) HN.out (by omega) ?_)
        intro A6 c6 W6 s1 s2 s3
        go_wp2
        go_roundw
        case rel => exact ⟨k + 1, A6, c6, t + 1, by omega, by omega, rfl, by go_num, Lib.hid (by rw [HT.out]; exact s1.out), Lib.hid (s2.out.below BB.out ho5.out.base0 BB.out.size)⟩
        case measure => simp [intOf]; omega
      · have hr' : (r == v) = false := by simpa using hr
        rw [hr'] at HT
        clear hr
        go_wp2
        go_roundw
        case rel => exact ⟨k + 1, A3, c3, t, by omega, by omega, rfl, by go_num, Lib.hid (by rw [HT.out]; simpa using ho3.out), B3⟩
        case measure => simp [intOf]; omega
    · obtain rfl : k = n1 := by omega
      have g1 : ¬ (k : Int) < (k : Int) := by omega
      have HTk := Lib.hid (show a.take k = a by rw [← HLen.out, List.take_length])
      have ho2 := ho.out
      rw [HTk.out] at ho2
      have HS := Lib.hid (rsorted_lst' (N1 := N1) (show Lst wr N1 A3 t c3 _ from ⟨ho2.lives, ho2.len, by omega, ho2.none_cap⟩) (by omega))
      clear ho2
      go_wp2_with fail
      refine HS.out.mono ?_
      rintro e W4 ⟨A4, c4, m4, rfl, hl4, hb4⟩
      go_wp2
      go_ret
      exact ⟨A4, c4, m4, rfl, hl4, Lib.hid (btr hb.out hb4.out)⟩
end Go.Proofs.Ytadpbcbgmopfaaa
