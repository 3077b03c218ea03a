/-
  The program's GetSet: a set's number, and so many lives. For Readers of at most 2^46 bytes.
-/
import Derived.Test.YtadpbcbgmopfaaaPget
import Derived.Test.YtadpbcbgmopfaaaPkept
namespace Go.Proofs.Ytadpbcbgmopfaaa
set_option maxRecDepth 20000
open Go.RowKit

set_option maxHeartbeats 2000000 in
theorem getset_any (q : Nat) (d : Option Nat) (s : RS) (m : Int) (w : World) (h : Rd RdT w q d s.l s.bad) (hr : s.l.length ≤ 70368744177664) :
    Calls Try.prog 61 #[.pointer (some ⟨q, 0, none⟩), .int .i64 m] w fun e w' => ∃ A c, e = .returned (.slice A (getSetL s m).1.length c) ∧ Hid (Lives w' w'.heap.size A (getSetL s m).1) ∧ Hid (A = none → c = 0) ∧ Hid (Rd RdT w' q d (getSetL s m).2.l (getSetL s m).2.bad) ∧ Hid (Only (fun k => k = q) w w') := by
  have H := Lib.hid h
  have HRl := Lib.hid (Nat.le_trans (rWide_le s 1) hr)
  have HG := Lib.hid (show getSetL s m = if m < ((rWide s 1).1 : Int) then ([], ⟨(rWide s 1).2.l, true⟩) else if setUpTo (gets (rWide s 1).1 (rWide s 1).2).1 (rWide s 1).1 then gets (rWide s 1).1 (rWide s 1).2 else ([], ⟨(gets (rWide s 1).1 (rWide s 1).2).2.l, true⟩) from rfl)
  generalize getSetL s m = gs at *
  clear h hr
  go_enter Try.func61, Try.ntmps61
  go_wp2_with fail
  refine (ru8_any q d s _ H.out).mono ?_
  rintro e W1 ⟨rfl, r1, o1⟩
  have hlt1 := rWide_lt s 1
  generalize (rWide s 1).1 = x at *
  generalize (rWide s 1).2 = s1 at *
  have hx : x < 256 := by simpa using hlt1
  have e1 : IntKind.i64.wrap (x : Int) = (x : Int) := by simp [IntKind.wrap, IntKind.bits, IntKind.signed]; omega
  clear H hlt1
  by_cases hm : m < (x : Int)
  · have HG2 := HG.out
    rw [if_pos hm] at HG2
    subst HG2
    clear HG
    go_wp2_with fail
    refine (fail_any q d s1.l s1.bad W1 r1.out).mono ?_
    rintro e W5 ⟨rfl, r5, o5⟩
    go_wp2
    go_ret
    exact ⟨none, 0, rfl, Lib.hid Lives.nil_, Lib.hid (fun _ => rfl), r5, Lib.hid (o1.out.trans o5.out fun _ _ h => h)⟩
  · have HG2 := HG.out
    rw [if_neg hm] at HG2
    have HG3 := Lib.hid HG2
    clear HG HG2
    go_wp2
    go_loopw [6, 16] (fun sl i wr => ∃ k : Nat, ∃ A' c', k ≤ x ∧ sl = .slice A' k c' ∧ i = .int .i64 k ∧ Hid (OwnP wr W1.heap.size A' k c' (gets k s1).1) ∧ Hid (Rd RdT wr q d (gets k s1).2.l (gets k s1).2.bad) ∧ Hid (Only (fun k => k = q) W1 wr)) (fun _ i _ => x - (intOf i).toNat)
    case atStart => exact ⟨0, none, 0, Nat.zero_le _, rfl, rfl, Lib.hid OwnP.nil_, r1, Lib.hid (Only.refl _ _)⟩
    case round =>
      obtain ⟨k, A2, c2, hk, rfl, rfl, ho2, r2, o2⟩ := hrel
      by_cases hlt : k < x
      · have g1 : (k : Int) < (x : Int) := by omega
        have HGk := Lib.hid (show gets (k + 1) s1 = ((gets k s1).1 ++ [(gotL (gets k s1).2).1], (gotL (gets k s1).2).2) from rfl)
        have HL2 := Lib.hid (Nat.le_trans (gets_le k s1) HRl.out)
        have HGet := Lib.hid (get_any q d (gets k s1).2 wr r2.out HL2.out)
        have hqlt := r1.out.lt
        have hdlt := Lib.hid r1.out.dlt
        generalize gotL (gets k s1).2 = y at *
        obtain ⟨⟨y1, y2⟩, y3⟩ := y
        simp only at HGet HGk
        go_wp2_with fail
        refine HGet.out.mono ?_
        rintro e W3 ⟨rfl, r3, o3⟩
        have ho3 := Lib.hid (ho2.out.keep o3.out (fun k e e2 => by have := ho2.out.base' k e; omega))
        have o4 := Lib.hid (o2.out.trans o3.out fun _ _ h => h)
        have HN := Lib.hid (lives_new W3 [(y1, y2)])
        have B5 := Lib.hid ((Below.refl W3.heap.size W3).alloc (Nat.le_refl _) (.cells (flatP [(y1, y2)]).toArray 70))
        have ho5 := Lib.hid (ho3.out.on B5.out)
        have o5 := Lib.hid (o4.out.trans (Only.ofBelow (S := fun k => k = q) B5.out) fun _ _ h => h)
        have r5 := Lib.hid (r3.out.keep (S := fun _ => False) (Only.ofBelow B5.out) (fun h => h) (fun _ _ h => h))
        clear HGet r2 r3 ho2 ho3 o2 o3 o4
        go_wp2_with (at_builtin; refine wpList_appendP rfl _ _ rfl W1.heap.size A2 k c2 _ rfl ?qc0 ho5.out (some ⟨W3.heap.size, 0, none⟩) 1 1 _ [(y1, y2)] rfl rfl (fun e => by cases e) HN.out (by omega) ?_)
        case qc0 => exact o5.out.size
        intro A6 c6 W6 e1 e2 e3
        go_wp2
        go_roundw
        case rel => exact ⟨k + 1, A6, c6, by omega, rfl, by go_num, Lib.hid (by rw [HGk.out]; exact e1.out), Lib.hid (by rw [HGk.out]; exact r5.out.keep e2.out (fun e => by have := ho5.out.base' _ e; omega) (fun k hk e => by have := ho5.out.base' _ e; have := hdlt.out k hk; omega)), Lib.hid (o5.out.trans e2.out (fun k hk e => by have := ho5.out.base' _ e; omega))⟩
        case measure => simp [intOf]; omega
      · obtain rfl : k = x := by omega
        have g1 : ¬ (k : Int) < (k : Int) := by omega
        have HP := Lib.hid (gets_pos k s1)
        have HLn := Lib.hid (gets_length k s1)
        generalize gets k s1 = gk at *
        obtain ⟨Lk, sk⟩ := gk
        simp only at HG3 ho2 r2 HP HLn
        have HS := Lib.hid (set_any A2 Lk k c2 wr ho2.out.lives HLn.out (by omega) HP.out)
        by_cases hs : setUpTo Lk k
        · have HG4 := HG3.out
          rw [if_pos hs] at HG4
          subst HG4
          rw [decide_eq_true hs] at HS
          clear HG3 hs
          go_wp2_with fail
          refine HS.out.mono ?_
          rintro e W5 ⟨rfl, b5⟩
          go_wp2
          go_ret
          exact ⟨A2, c2, by simp only [HLn.out]; rfl, Lib.hid (ho2.out.on b5.out).lives, Lib.hid (ho2.out.none_cap), Lib.hid (r2.out.keep (S := fun _ => False) (Only.ofBelow b5.out) (fun h => h) (fun _ _ h => h)), Lib.hid ((o1.out.trans o2.out fun _ _ h => h).trans (Only.ofBelow (S := fun k => k = q) b5.out) fun _ _ h => h)⟩
        · have HG4 := HG3.out
          rw [if_neg hs] at HG4
          subst HG4
          rw [decide_eq_false hs] at HS
          clear HG3 hs
          go_wp2_with fail
          refine HS.out.mono ?_
          rintro e W5 ⟨rfl, b5⟩
          have r5 := Lib.hid (r2.out.keep (S := fun _ => False) (Only.ofBelow b5.out) (fun h => h) (fun _ _ h => h))
          have o5 := Lib.hid ((o1.out.trans o2.out fun _ _ h => h).trans (Only.ofBelow (S := fun k => k = q) b5.out) fun _ _ h => h)
          go_wp2_with fail
          refine (fail_any q d sk.l sk.bad W5 r5.out).mono ?_
          rintro e W6 ⟨rfl, r6, o6⟩
          go_wp2
          go_ret
          exact ⟨none, 0, rfl, Lib.hid Lives.nil_, Lib.hid (fun _ => rfl), r6, Lib.hid (o5.out.trans o6.out fun _ _ h => h)⟩
end Go.Proofs.Ytadpbcbgmopfaaa
