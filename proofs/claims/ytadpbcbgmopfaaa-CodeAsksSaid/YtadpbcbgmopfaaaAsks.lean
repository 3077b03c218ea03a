/-
  The statement CodeAsks' walk: whatever bytes and calls, it answers true, and leaves all that was there as it was. No condition but that they are bytes and calls.
-/
import Derived.Test.YtadpbcbgmopfaaaRmeant
import Derived.Test.YtadpbcbgmopfaaaReft
import Derived.Test.YtadpbcbgmopfaaaArgs
namespace Go.Proofs.Ytadpbcbgmopfaaa
set_option maxRecDepth 20000
open Go.RowKit

def AsksRel (w : World) (q q2 : Nat) (d d2 : Option Nat) (n : Nat) (i : Value) (wr : World) : Prop :=
  ∃ k s, k ≤ n ∧ i = .int .i64 (k : Nat) ∧ Hid (RdS RdT w.heap.size w wr q d s) ∧ Hid (RdS RfT w.heap.size w wr q2 d2 s) ∧ Hid (s.l.length ≤ 65536)
set_option maxRecDepth 100000 in
set_option maxHeartbeats 4000000 in
theorem asks_walk (A0 A1 : Option Addr) (L : List UInt8) (aks : List (Int × Int)) (c0 c1 : Nat) (w : World) (hA : A0 = none → c0 = 0) (h1 : Bytes w w.heap.size A0 L) (ha : AsksIn w A1 aks) (hi : ∀ a ∈ aks, I64 a.1 ∧ I64 a.2) :
    Calls Try.prog 6 #[.slice A0 L.length c0, .slice A1 aks.length c1] w fun e w' => e = .returned (.bool true) ∧ Hid (Below w.heap.size w w') := by
  have HB := Lib.hid h1
  have HA := Lib.hid hA
  have HK := Lib.hid ha
  have HI := Lib.hid hi
  clear h1 hA ha hi
  generalize hn0 : L.length = n0 at *
  generalize hn1 : aks.length = n1 at *
  have HN0 := Lib.hid hn0
  have HN1 := Lib.hid hn1
  clear hn0 hn1
  have C1 := Lib.hid (World.ownsRow_made (base := 0) (e := 5) (size := 1) w #[] 0 (Nat.zero_le _) (by unfold maxLen; omega) rfl)
  have B1 := Lib.hid ((Below.refl w.heap.size w).alloc (Nat.le_refl _) (.cells #[] 5))
  have T1 := Lib.hid (HB.out.alloc (Nat.le_refl _) (.cells #[] 5))
  go_enter Try.func6, Try.ntmps6
  by_cases hb1 : 1000 < n1
  · have hb1' : (1000 : Int) < (n1 : Int) := by omega
    go_wp2_with fail
    refine (awake_any w).mono ?_
    rintro e W1 ⟨rfl, hb⟩
    go_wp2
    go_ret
    exact ⟨rfl, hb⟩
  · have hb1' : ¬ (1000 : Int) < (n1 : Int) := by omega
    by_cases hb0 : 65536 < n0
    · have hb0' : (65536 : Int) < (n0 : Int) := by omega
      go_wp2_with fail
      refine (awake_any w).mono ?_
      rintro e W1 ⟨rfl, hb⟩
      go_wp2
      go_ret
      exact ⟨rfl, hb⟩
    · have hb0' : ¬ (65536 : Int) < (n0 : Int) := by omega
      go_wp2_with (at_builtin; refine wpList_append8 rfl _ _ rfl (some ⟨w.heap.size, 0, none⟩) 0 0 [] rfl C1.out A0 n0 c0 _ L rfl HN0.out HA.out T1.out (by omega) ?_)
      intro A2 c2 V2 e1 e2 e3
      have D2 := Lib.hid (e2.out.below B1.out (fun k hk => by cases hk; exact Nat.le_refl _) B1.out.size)
      have G2 := Lib.hid (e3.out.ge (B := w.heap.size) B1.out.size (fun k hk => by cases hk; exact Nat.le_refl _))
      have O2 : Hid (Own8 V2 0 A2 n0 c2 L) := Lib.hid (by simpa using e1.out)
      clear e1 e2 e3 C1 T1 B1 hb1' hb0'
      go_wp2_with fail
      refine (newr_at D2.out D2.out.size A2 L n0 c2 HN0.out O2.out.none_cap O2.out.bytes (by omega)).mono ?_
      rintro e V3 ⟨q, d, rfl, r3, b3, z3⟩
      have O3 := Lib.hid (show Own8 V3 0 A2 n0 c2 L from O2.out.keep (S := fun _ => False) (Only.ofBelow b3.out) (fun _ _ h => h))
      have P2 := Lib.hid (show ∀ k, blockOf A2 = some k → k < V2.heap.size from fun k hk => (O2.out.lt hk).2)
      have C3 := Lib.hid (World.ownsRow_made (base := 0) (e := 5) (size := 1) V3 #[] 0 (Nat.zero_le _) (by unfold maxLen; omega) rfl)
      have B3 := Lib.hid ((Below.refl V3.heap.size V3).alloc (Nat.le_refl _) (.cells #[] 5))
      have T3 := Lib.hid ((HB.out.below (r3.out.below.trans (B3.out.mono r3.out.size))))
      clear D2 O2 b3
      go_wp2_with (at_builtin; refine wpList_append8 rfl _ _ rfl (some ⟨V3.heap.size, 0, none⟩) 0 0 [] rfl C3.out A0 n0 c0 _ L rfl HN0.out HA.out T3.out (by omega) ?_)
      intro A4 c4 V4 e1 e2 e3
      have b4 := Lib.hid (e2.out.below B3.out (fun k hk => by cases hk; exact Nat.le_refl _) B3.out.size)
      have G4 := Lib.hid (e3.out.ge (B := V3.heap.size) B3.out.size (fun k hk => by cases hk; exact Nat.le_refl _))
      have O4 : Hid (Own8 V4 0 A4 n0 c4 L) := Lib.hid (by simpa using e1.out)
      have r4 := Lib.hid (r3.out.later b4.out)
      have O24 := Lib.hid (show Own8 V4 0 A2 n0 c2 L from O3.out.keep (S := fun _ => False) (Only.ofBelow b4.out) (fun _ _ h => h))
      have b5 := Lib.hid ((Below.refl V4.heap.size V4).alloc (Nat.le_refl _) (.cells #[.slice A4 n0 c4, .bool false] RfT))
      have r5 := Lib.hid (r4.out.later b5.out)
      have O25 := Lib.hid (show Own8 _ 0 A2 n0 c2 L from O24.out.keep (S := fun _ => False) (Only.ofBelow b5.out) (fun _ _ h => h))
      have m5 : Hid (RdS RfT w.heap.size w (V4.alloc (.cells #[.slice A4 n0 c4, .bool false] RfT)) V4.heap.size (blockOf A4) ⟨L, false⟩) := Lib.hid ⟨⟨A4, c4, by rw [HN0.out]; exact heap_alloc_new V4 _, (O4.out.keep (S := fun _ => False) (Only.ofBelow b5.out) (fun _ _ h => h)).bts, rfl⟩, r5.out.below, r4.out.size, fun k hk => Nat.le_trans r3.out.size (G4.out k hk)⟩
      have HAp := Lib.hid (show V4.heap.size ≠ q ∧ (∀ k, d = some k → k ≠ V4.heap.size) ∧ (∀ k, blockOf A4 = some k → k ≠ q) ∧ Ap d (blockOf A4) from ⟨by have := r4.out.rd.lt; omega, fun k hk => by have := r4.out.dlt k hk; omega, fun k hk e => by have := G4.out k hk; have := r3.out.rd.lt; omega, Ap.late (n := V3.heap.size) r3.out.dlt G4.out⟩)
      have HAc := Lib.hid (show (∀ k, blockOf A2 = some k → k ≠ q ∧ d ≠ some k ∧ k ≠ V4.heap.size ∧ blockOf A4 ≠ some k ∧ w.heap.size ≤ k) from fun k hk => by
        have h1 := P2.out k hk
        have h2 := z3.out.1
        have h3 := r3.out.below.size
        have h4 := r3.out.rd.lt
        have h5 := b4.out.size
        refine ⟨by omega, fun e => ?_, by omega, fun e => ?_, G2.out k hk⟩
        · have := z3.out.2 k e; omega
        · have := G4.out k e; omega)
      generalize hq2 : V4.heap.size = q2 at *
      have HQ2 := Lib.hid hq2
      generalize blockOf A4 = d2 at *
      generalize hV5 : V4.alloc (.cells #[.slice A4 n0 c4, .bool false] RfT) = V5 at *
      have HV5 := Lib.hid hV5
      obtain ⟨V6, hcl, hcd⟩ := clear_bts A2 n0 c2 L V5 HN0.out O25.out.bts
      have r6 := Lib.hid (r5.out.other hcd.out.only (fun k hk => (HAc.out k hk).2.2.2.2) (fun hk => (HAc.out _ hk).1 rfl) (fun k hk hk2 => (HAc.out k hk2).2.1 hk))
      have m6 := Lib.hid (m5.out.other hcd.out.only (fun k hk => (HAc.out k hk).2.2.2.2) (fun hk => (HAc.out _ hk).2.2.1 rfl) (fun k hk hk2 => (HAc.out k hk2).2.2.2.1 hk))
      clear e1 e2 e3 b4 b5 r3 r4 r5 O3 O24 O25 m5 O4 P2 C3 B3 T3 G2 G4 z3 hcd HAc hq2 hV5
      rw [← HV5.out] at hcl
      go_wp2_with fail
      rw [HQ2.out]
      clear hcl
      go_loopw [8] (fun i wr => AsksRel w q q2 d d2 n1 i wr) (fun i _ => n1 - (intOf i).toNat)
      case atStart => exact ⟨0, ⟨L, false⟩, Nat.zero_le _, rfl, r6, m6, Lib.hid (by simp only [HN0.out]; omega)⟩
      case round =>
        obtain ⟨k, s, hk, rfl, hr, hm, hs⟩ := hrel
        by_cases hlt : k < n1
        · have g1 : (k : Int) < (n1 : Int) := by omega
          have g0 : (0 : Int) ≤ (k : Int) := by omega
          obtain ⟨b, off, rfl, hbB, hc⟩ := HK.out (by rw [HN1.out]; omega)
          obtain ⟨hc1, hc2⟩ := hc k (by rw [HN1.out]; exact hlt)
          have HC1 := Lib.hid hc1
          have HC2 := Lib.hid hc2
          have HX := Lib.hid (HI.out (aks.getD k (0, 0)) (by rw [show aks.getD k (0, 0) = aks[k]'(by rw [HN1.out]; exact hlt) by simp [List.getD, HN1.out, hlt]]; exact List.getElem_mem _))
          have d1 := (hr.out.below.cell (p := ⟨b, off + k * 2, none⟩) hbB).trans hc1
          have d3 := (hr.out.below.cell (p := ⟨b, off + k * 2 + 1, none⟩) hbB).trans hc2
          clear hc hc1 hc2
          generalize aks.getD k (0, 0) = a at *
          obtain ⟨x, n⟩ := a
          simp only at HX d1 d3 HC1 HC2
          have HLn := Lib.hid (Nat.le_trans (ask_len s (kind x) n) hs.out)
          go_wp2_with fail
          refine (asked_any q d s x n wr HX.out.2 hr.out.rd (by have := hs.out; omega)).mono ?_
          rintro e W1 ⟨rfl, h1, h2⟩
          have hr1 : Hid (RdS RdT w.heap.size w W1 q d (ask s (kind x) n).2.2) := Lib.hid ⟨h1.out, h2.out.below hr.out.below (by rintro j (e | e); exact Nat.le_trans hr.out.hq (Nat.le_of_eq e.symm); exact hr.out.hd j e) hr.out.size, hr.out.hq, hr.out.hd⟩
          have hm1 := Lib.hid (hm.out.other h2.out (by rintro j (e | e); exact Nat.le_trans hr.out.hq (Nat.le_of_eq e.symm); exact hr.out.hd j e) (by rintro (e | e); exact HAp.out.1 e; exact HAp.out.2.1 _ e rfl) (by
            rintro j hj (e | e)
            · exact HAp.out.2.2.1 j hj e
            · exact HAp.out.2.2.2 j e hj))
          have f1 := (hm1.out.below.cell (p := ⟨b, off + k * 2, none⟩) hbB).trans HC1.out
          have f3 := (hm1.out.below.cell (p := ⟨b, off + k * 2 + 1, none⟩) hbB).trans HC2.out
          clear h1 h2 hr hm d1 d3
          go_wp2_with fail
          refine (meant_any q2 d2 s x n W1 HX.out.2 hm1.out.rd (by have := hs.out; omega)).mono ?_
          rintro e W2 ⟨rfl, h1, h2⟩
          have hm2 := Lib.hid (hm1.out.step h1 h2)
          have hr2 := Lib.hid (hr1.out.other h2.out (by rintro j rfl; exact hm1.out.hq) (fun e => HAp.out.1 e.symm) (fun j hj e => HAp.out.2.1 j hj e))
          clear h1 h2 hm1 hr1 f1 f3
          generalize (ask s (kind x) n).2.2 = s2 at *
          generalize (ask s (kind x) n).1 = y at *
          generalize (⟨(ask s (kind x) n).2.1.toArray⟩ : ByteArray) = st at *
          go_wp2_with fail
          refine (stands_any q q2 d d2 s2 W2 hr2.out.rd hm2.out.rd).mono ?_
          rintro e W3 ⟨rfl, hb3⟩
          go_wp2
          go_roundw
          case rel => exact ⟨k + 1, s2, by omega, by go_num, Lib.hid (hr2.out.later hb3.out), Lib.hid (hm2.out.later hb3.out), HLn⟩
          case measure => simp [intOf]; omega
        · have g1 : ¬ (k : Int) < (n1 : Int) := by omega
          have T7 := Lib.hid ((HB.out.below hr.out.below).more hr.out.below.size)
          go_wp2_with fail
          refine (newr_at hr.out.below hr.out.below.size A0 L n0 c0 HN0.out HA.out T7.out (by omega)).mono ?_
          rintro e V7 ⟨q3, d3, rfl, r7, _, _⟩
          clear hr hm T7
          have HRP := Lib.hid (show rRaw ⟨L, false⟩ (n0 : Int) = (L, ⟨[], false⟩) by have := rRaw_put L []; rw [List.append_nil, HN0.out] at this; exact this)
          go_wp2_with fail
          refine (raw_any q3 d3 ⟨L, false⟩ (n0 : Int) V7 r7.out.rd).mono ?_
          unfold RawE
          rw [HRP.out]
          rintro e V8 ⟨A8, c8, rfl, h1, _, _, h4⟩
          have r8 := Lib.hid (r7.out.step (s' := ⟨[], false⟩) h1 h4)
          clear h1 h4 r7
          go_wp2_with fail
          refine (end_any q3 d3 ⟨[], false⟩ V8 r8.out.rd).mono ?_
          rintro e V9 ⟨rfl, h1, h2⟩
          have r9 := Lib.hid (r8.out.step (s' := rEnd ⟨[], false⟩) h1 h2)
          clear h1 h2 r8
          go_wp2_with fail
          refine (awake_any V9).mono ?_
          rintro e V10 ⟨rfl, hb⟩
          go_wp2
          go_ret
          exact ⟨rfl, Lib.hid (r9.out.below.trans (hb.out.mono r9.out.size))⟩
end Go.Proofs.Ytadpbcbgmopfaaa
