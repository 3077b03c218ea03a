/-
  The statement CodeNobody's walk: whatever calls and text, it answers true, and leaves all that was there as it was. No condition but that they are calls, and a text.
-/
import Derived.Test.YtadpbcbgmopfaaaNil
import Derived.Test.YtadpbcbgmopfaaaArgs
namespace Go.Proofs.Ytadpbcbgmopfaaa
set_option maxRecDepth 20000
open Go.RowKit

theorem ask_bad2 (l : List UInt8) (k : Nat) (n : Int) (hk : k < 9) : ask ⟨l, true⟩ k n = (if k = 8 then 3 else 0, [], ⟨l, true⟩) := by
  have hw : ∀ j, rWide ⟨l, true⟩ j = (0, ⟨l, true⟩) := fun j => if_pos (.inl rfl)
  have hu : rUint ⟨l, true⟩ = (0, ⟨l, true⟩) := if_pos (.inl rfl)
  have ht : rText ⟨l, true⟩ n = ([], ⟨l, true⟩) := if_pos (.inl rfl)
  have hr : rRaw ⟨l, true⟩ n = ([], ⟨l, true⟩) := if_pos (.inl rfl)
  have hcs : k = 0 ∨ k = 1 ∨ k = 2 ∨ k = 3 ∨ k = 4 ∨ k = 5 ∨ k = 6 ∨ k = 7 ∨ k = 8 := by omega
  rcases hcs with rfl | rfl | rfl | rfl | rfl | rfl | rfl | rfl | rfl <;> simp [ask, hw, hu, ht, hr, rEnd, errOf]
theorem meant_bad (q : Nat) (x n : Int) (w : World) (hn : I64 n) (h : Rd RfT w q none [] true) :
    Calls Try.prog 29 #[.pointer (some ⟨q, 0, none⟩), .agg #[.int .i64 x, .int .i64 n]] w fun e w' => e = .returned (.tuple #[.int .u64 (((if kind x = 8 then 3 else 0 : Nat)) : Int), .string ⟨#[]⟩]) ∧ Hid (Rd RfT w' q none [] true) ∧ Hid (Only (fun k => k = q) w w') := by
  have := meant_any q none ⟨[], true⟩ x n w hn h (by simp)
  rw [ask_bad2 _ _ _ (kind_lt x)] at this
  exact this
def NobodyRel (w : World) (q0 q1 q2 : Nat) (n : Nat) (i : Value) (wr : World) : Prop :=
  ∃ k s, k ≤ n ∧ i = .int .i64 (k : Nat) ∧ Hid (RdS RdT w.heap.size w wr q0 none s) ∧ Hid (RdS RfT w.heap.size w wr q1 none s) ∧ Hid (RdS RfT w.heap.size w wr q2 none ⟨[], true⟩) ∧ Hid (s.l.length ≤ 0)
theorem rd_new {T : TypeId} (w : World) (bad : Bool) : Rd T (w.alloc (.cells #[.slice none 0 0, .bool bad] T)) w.heap.size none [] bad :=
  ⟨none, 0, heap_alloc_new w _, ⟨by simp, by unfold maxLen; omega, .inl ⟨rfl, rfl⟩⟩, rfl⟩
set_option maxRecDepth 100000 in
set_option maxHeartbeats 4000000 in
theorem nobody_walk (A1 : Option Addr) (aks : List (Int × Int)) (c1 : Nat) (s : ByteArray) (w : World) (ha : AsksIn w A1 aks) (hi : ∀ a ∈ aks, I64 a.1 ∧ I64 a.2) :
    Calls Try.prog 7 #[.slice A1 aks.length c1, .string s] w fun e w' => e = .returned (.bool true) ∧ Hid (Below w.heap.size w w') := by
  have HK := Lib.hid ha
  have HI := Lib.hid hi
  clear ha hi
  generalize hn1 : aks.length = n1 at *
  have HN1 := Lib.hid hn1
  clear hn1
  have r0 := rd_new (T := RdT) w false
  have b0 := (Below.refl w.heap.size w).alloc (Nat.le_refl _) (.cells #[.slice none 0 0, .bool false] RdT)
  have r1 := rd_new (T := RfT) (w.alloc (.cells #[.slice none 0 0, .bool false] RdT)) false
  have b1 := (Below.refl (w.alloc (.cells #[.slice none 0 0, .bool false] RdT)).heap.size (w.alloc (.cells #[.slice none 0 0, .bool false] RdT))).alloc (Nat.le_refl _) (.cells #[.slice none 0 0, .bool false] RfT)
  have r2 := rd_new (T := RfT) ((w.alloc (.cells #[.slice none 0 0, .bool false] RdT)).alloc (.cells #[.slice none 0 0, .bool false] RfT)) true
  have b2 := (Below.refl ((w.alloc (.cells #[.slice none 0 0, .bool false] RdT)).alloc (.cells #[.slice none 0 0, .bool false] RfT)).heap.size ((w.alloc (.cells #[.slice none 0 0, .bool false] RdT)).alloc (.cells #[.slice none 0 0, .bool false] RfT))).alloc (Nat.le_refl _) (.cells #[.slice none 0 0, .bool true] RfT)
  have hb02 := btr2 b0 (btr2 b1 b2)
  have R0 := Lib.hid (show RdS RdT w.heap.size w _ w.heap.size none ⟨[], false⟩ from ⟨r0.keep (S := fun _ => False) (Only.ofBelow (btr2 b1 b2)) (fun h => h) (fun _ _ h => h), hb02, Nat.le_refl _, fun _ e => by cases e⟩)
  have R1 := Lib.hid (show RdS RfT w.heap.size w _ (w.alloc (.cells #[.slice none 0 0, .bool false] RdT)).heap.size none ⟨[], false⟩ from ⟨r1.keep (S := fun _ => False) (Only.ofBelow b2) (fun h => h) (fun _ _ h => h), hb02, by simp, fun _ e => by cases e⟩)
  have R2 := Lib.hid (show RdS RfT w.heap.size w _ ((w.alloc (.cells #[.slice none 0 0, .bool false] RdT)).alloc (.cells #[.slice none 0 0, .bool false] RfT)).heap.size none ⟨[], true⟩ from ⟨r2, hb02, by simp; omega, fun _ e => by cases e⟩)
  clear r0 r1 r2 b0 b1 b2 hb02
  simp only [World.size_alloc] at R1 R2
  go_enter Try.func7, Try.ntmps7
  by_cases hb1 : 1000 < n1
  · have hb1' : (1000 : Int) < (n1 : Int) := by omega
    go_wp2_with fail
    refine (awake_any w).mono ?_
    rintro e W1 ⟨rfl, hb⟩
    go_wp2
    go_ret
    exact ⟨rfl, hb⟩
  · have hb1' : ¬ (1000 : Int) < (n1 : Int) := by omega
    by_cases hb0 : 10000 < s.size
    · have hb0' : (10000 : Int) < (s.size : Int) := by omega
      go_wp2_with fail
      refine (awake_any w).mono ?_
      rintro e W1 ⟨rfl, hb⟩
      go_wp2
      go_ret
      exact ⟨rfl, hb⟩
    · have hb0' : ¬ (10000 : Int) < (s.size : Int) := by omega
      go_wp2_with fail
      generalize ((w.alloc (.cells #[.slice none 0 0, .bool false] RdT)).alloc (.cells #[.slice none 0 0, .bool false] RfT)).alloc (.cells #[.slice none 0 0, .bool true] RfT) = V at *
      generalize hq2 : w.heap.size + 1 + 1 = q2 at *
      generalize hq1 : w.heap.size + 1 = q1 at *
      have HD := Lib.hid (show w.heap.size < q1 ∧ q1 < q2 by omega)
      clear hq1 hq2
      go_loopw [9] (fun i wr => NobodyRel w w.heap.size q1 q2 n1 i wr) (fun i _ => n1 - (intOf i).toNat)
      case atStart => exact ⟨0, ⟨[], false⟩, Nat.zero_le _, rfl, R0, R1, R2, Lib.hid (Nat.le_refl _)⟩
      case round =>
        clear R0 R1 R2
        obtain ⟨k, t, hk, rfl, h0, h1, h2, ht⟩ := hrel
        by_cases hlt : k < n1
        · have g1 : (k : Int) < (n1 : Int) := by omega
          have g0 : (0 : Int) ≤ (k : Int) := by omega
          obtain ⟨b, off, rfl, hbB, hc⟩ := HK.out (by rw [HN1.out]; omega)
          obtain ⟨hc1, hc2⟩ := hc k (by rw [HN1.out]; exact hlt)
          have HC1 := Lib.hid hc1
          have HC2 := Lib.hid hc2
          have HX := Lib.hid (HI.out (aks.getD k (0, 0)) (by rw [show aks.getD k (0, 0) = aks[k]'(by rw [HN1.out]; exact hlt) by simp [List.getD, HN1.out, hlt]]; exact List.getElem_mem _))
          clear hc hc1 hc2
          generalize aks.getD k (0, 0) = a at *
          obtain ⟨x, n⟩ := a
          simp only at HX HC1 HC2
          have a1 := (h0.out.below.cell (p := ⟨b, off + k * 2, none⟩) hbB).trans HC1.out
          have a3 := (h0.out.below.cell (p := ⟨b, off + k * 2 + 1, none⟩) hbB).trans HC2.out
          have HLn := Lib.hid (Nat.le_trans (ask_len t (kind x) n) ht.out)
          have HNil := Lib.hid (asked_nil x n)
          have HMB := Lib.hid (meant_bad q2 x n)
          generalize (if kind x = 8 then 3 else 0 : Nat) = y1 at *
          go_wp2_with fail
          refine (HNil.out wr).mono ?_
          rintro e W1 ⟨rfl, hb1⟩
          have i0 := Lib.hid (h0.out.later hb1.out)
          have i1 := Lib.hid (h1.out.later hb1.out)
          have i2 := Lib.hid (h2.out.later hb1.out)
          clear h0 h1 h2 a1 a3 hb1
          have a1 := (i0.out.below.cell (p := ⟨b, off + k * 2, none⟩) hbB).trans HC1.out
          have a3 := (i0.out.below.cell (p := ⟨b, off + k * 2 + 1, none⟩) hbB).trans HC2.out
          go_wp2_with fail
          refine (HMB.out W1 HX.out.2 i2.out.rd).mono ?_
          rintro e W2 ⟨rfl, f1, f2⟩
          have j2 := Lib.hid (i2.out.step (s' := ⟨[], true⟩) f1 f2)
          have j0 := Lib.hid (i0.out.other f2.out (by rintro j rfl; exact i2.out.hq) (fun e => by have := HD.out; omega) (fun _ e => by cases e))
          have j1 := Lib.hid (i1.out.other f2.out (by rintro j rfl; exact i2.out.hq) (fun e => by have := HD.out; omega) (fun _ e => by cases e))
          clear i0 i1 i2 a1 a3 f1 f2
          have a1 := (j0.out.below.cell (p := ⟨b, off + k * 2, none⟩) hbB).trans HC1.out
          have a3 := (j0.out.below.cell (p := ⟨b, off + k * 2 + 1, none⟩) hbB).trans HC2.out
          go_wp2_with fail
          refine (asked_any w.heap.size none t x n W2 HX.out.2 j0.out.rd (by have := ht.out; omega)).mono ?_
          rintro e W3 ⟨rfl, f1, f2⟩
          have f3 := Lib.hid (show Only (fun k => k = w.heap.size) W2 W3 from f2.out.weak (fun j _ e => by rcases e with e | e; exact e; cases e))
          have m0 : Hid (RdS RdT w.heap.size w W3 w.heap.size none (ask t (kind x) n).2.2) := Lib.hid (j0.out.step f1 f3)
          have m1 := Lib.hid (j1.out.other f3.out (by rintro j rfl; exact Nat.le_refl _) (fun e => by have := HD.out; omega) (fun _ e => by cases e))
          have m2 := Lib.hid (j2.out.other f3.out (by rintro j rfl; exact Nat.le_refl _) (fun e => by have := HD.out; omega) (fun _ e => by cases e))
          clear j0 j1 j2 a1 a3 f1 f2 f3
          have a1 := (m0.out.below.cell (p := ⟨b, off + k * 2, none⟩) hbB).trans HC1.out
          have a3 := (m0.out.below.cell (p := ⟨b, off + k * 2 + 1, none⟩) hbB).trans HC2.out
          go_wp2_with fail
          refine (meant_any q1 none t x n W3 HX.out.2 m1.out.rd (by have := ht.out; omega)).mono ?_
          rintro e W4 ⟨rfl, f1, f2⟩
          have n1' := Lib.hid (m1.out.step f1 f2)
          have n0' := Lib.hid (m0.out.other f2.out (by rintro j rfl; exact m1.out.hq) (fun e => by have := HD.out; omega) (fun _ e => by cases e))
          have n2' := Lib.hid (m2.out.other f2.out (by rintro j rfl; exact m1.out.hq) (fun e => by have := HD.out; omega) (fun _ e => by cases e))
          clear m0 m1 m2 a1 a3 f1 f2
          generalize (ask t (kind x) n).2.2 = t2 at *
          generalize (ask t (kind x) n).1 = y at *
          generalize (⟨(ask t (kind x) n).2.1.toArray⟩ : ByteArray) = st at *
          go_wp2_with fail
          refine (stands_nil q2 none W4 n2'.out.rd).mono ?_
          rintro e W5 ⟨rfl, hb5⟩
          have p0 := Lib.hid (n0'.out.later hb5.out)
          have p1 := Lib.hid (n1'.out.later hb5.out)
          have p2 := Lib.hid (n2'.out.later hb5.out)
          clear n0' n1' n2' hb5
          go_wp2_with fail
          refine (stands_any w.heap.size q1 none none t2 W5 p0.out.rd p1.out.rd).mono ?_
          rintro e W6 ⟨rfl, hb6⟩
          go_wp2
          go_roundw
          case rel => exact ⟨k + 1, t2, by omega, by go_num, Lib.hid (p0.out.later hb6.out), Lib.hid (p1.out.later hb6.out), Lib.hid (p2.out.later hb6.out), HLn⟩
          case measure => simp [intOf]; omega
        · have g1 : ¬ (k : Int) < (n1 : Int) := by omega
          have B0 := Lib.hid h0.out.below
          clear h0 h1 h2 ht
          go_wp2_with fail
          refine (nwtext s wr (by omega)).mono ?_
          rintro e W1 ⟨rfl, c1⟩
          have B1 := Lib.hid (btr2 B0.out (by have := c1.out; exact this.mono (Nat.le_refl _)))
          go_wp2_with fail
          refine (nwu64 7 W1).mono ?_
          rintro e W2 ⟨rfl, c2⟩
          have B2 := Lib.hid (btr2 B1.out c2.out)
          have x1 := (show (W2.alloc (.cells #[.int .u64 1, .int .u64 2] 29)).cell? ⟨W2.heap.size, 0, none⟩ = some (.int .u64 1) by simp)
          have x2 := (show (W2.alloc (.cells #[.int .u64 1, .int .u64 2] 29)).cell? ⟨W2.heap.size, 1, none⟩ = some (.int .u64 2) by simp)
          have B3 := Lib.hid (btr2 B2.out ((Below.refl W2.heap.size W2).alloc (Nat.le_refl _) (.cells #[.int .u64 1, .int .u64 2] 29)))
          go_wp2_with fail
          refine (nwput W2.heap.size 2 _ x1 x2).mono ?_
          rintro e W4 ⟨rfl, c4⟩
          have B4 := Lib.hid (btr2 B3.out c4.out)
          clear x1 x2
          go_wp2_with fail
          refine (nwlen W4).mono ?_
          rintro e W5 ⟨rfl, rfl⟩
          go_wp2_with fail
          refine (nwbytes W4).mono ?_
          rintro e W5 ⟨rfl, rfl⟩
          go_wp2_with fail
          refine (awake_any W4).mono ?_
          rintro e W5 ⟨rfl, c5⟩
          go_wp2
          go_ret
          exact ⟨rfl, Lib.hid (btr2 B4.out c5.out)⟩
end Go.Proofs.Ytadpbcbgmopfaaa
