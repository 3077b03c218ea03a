/-
  The document's own reading (caucusref03.In): a set of lives. For at most 1000 of them.
-/
import Derived.Test.YtlcddfkhklmieaaInproc
import Derived.Test.YtlcddfkhklmieaaGc
namespace Go.Proofs.Ytlcddfkhklmieaa
set_option maxRecDepth 20000
open Go.RowKit

theorem gotL_zero {s : RS} (h : (gotL s).2.bad = true) : (gotL s).1 = (0, 0) := by
  unfold gotL at *
  split at h
  · rename_i hm
    have := hm.2.2
    rw [uint_zero h] at this
    simp at this
  · rename_i hm
    rw [if_neg hm]
theorem wide_zero {s : RS} (h : (rWide s 1).2.bad = true) : (rWide s 1).1 = 0 := by
  unfold rWide at *
  split
  · rfl
  · rename_i hc
    rw [if_neg hc] at h
    cases h
theorem atL_left {a b : List Life} {i : Nat} (h : i < a.length) : atL (a ++ b) i = atL a i := by
  unfold atL
  simp [List.getD, List.getElem?_append_left h]
theorem gets_zero : ∀ (k : Nat) (s : RS), s.bad = false → (gets k s).2.bad = true → ∃ i, i < k ∧ atL (gets k s).1 i = (0, 0)
  | 0, s, h0, h => by simp only [gets] at h; rw [h0] at h; cases h
  | k + 1, s, h0, h => by
    have hl := gets_length k s
    cases hb : (gets k s).2.bad with
    | true =>
      obtain ⟨i, hi, e⟩ := gets_zero k s h0 hb
      exact ⟨i, by omega, by rw [gets, atL_left (by omega)]; exact e⟩
    | false =>
      have h' : (gotL (gets k s).2).2.bad = true := h
      refine ⟨k, by omega, ?_⟩
      rw [gets]
      unfold atL
      simp only [List.getD]
      rw [List.getElem?_append_right (by omega), hl]
      simp [gotL_zero h']
theorem gets_prefix (s : RS) (k : Nat) : ∀ (j i : Nat), i < k → atL (gets (k + j) s).1 i = atL (gets k s).1 i
  | 0, _, _ => rfl
  | j + 1, i, h => by
    rw [← Nat.add_assoc, gets, atL_left (by rw [gets_length]; omega)]
    exact gets_prefix s k j i h
theorem getSetL_bad {s : RS} {m k : Nat} (hk : k ≤ (rWide s 1).1) (hb : (gets k (rWide s 1).2).2.bad = true) : (getSetL s (m : Int)).1 = [] ∧ (getSetL s (m : Int)).2.bad = true := by
  unfold getSetL
  split
  · exact ⟨rfl, rfl⟩
  · split
    · rename_i _ hs
      cases h1 : (rWide s 1).2.bad with
      | true =>
        have h0 := wide_zero h1
        rw [h0]
        exact ⟨rfl, h1⟩
      | false =>
        obtain ⟨i, hi, e⟩ := gets_zero k _ h1 hb
        obtain ⟨j, hj⟩ : ∃ j, (rWide s 1).1 = k + j := ⟨(rWide s 1).1 - k, by omega⟩
        have h2 := (hs i (by omega)).1
        rw [hj, gets_prefix _ k j i hi, e] at h2
        have := h2.1
        simp at this
    · exact ⟨rfl, rfl⟩
theorem ownP_base {w : World} {base n cap : Nat} {A : Option Addr} {l : List Life} (h : OwnP w base A n cap l) : ∀ k, blockOf A = some k → base ≤ k := fun k e => by
  rcases h.form with ⟨rfl, _⟩ | ⟨g, rfl, hg, _⟩
  · cases e
  · cases e
    exact hg
def IPs (q : Nat) (d : Option Nat) (s : RS) (m : Nat) (w : World) (e : Ending) (w' : World) : Prop :=
  ∃ A c, e = .returned (.slice A (getSetL s (m : Int)).1.length c) ∧ Hid (OwnP w' w.heap.size A (getSetL s (m : Int)).1.length c (getSetL s (m : Int)).1) ∧ Hid (InR w' q d (getSetL s (m : Int)).2) ∧ Hid (Only (fun k => k = q) w w')
theorem ips_none {q : Nat} {d : Option Nat} {s : RS} {m : Nat} {w w' : World} {l : List UInt8} (h : (getSetL s (m : Int)).1 = [] ∧ (getSetL s (m : Int)).2.bad = true) (h1 : Hid (InR w' q d ⟨l, true⟩)) (h2 : Hid (Only (fun k => k = q) w w')) : IPs q d s m w (.returned (.slice none 0 0)) w' := by
  refine ⟨none, 0, by rw [h.1]; rfl, ?_, ?_, h2⟩
  · rw [h.1]
    exact Lib.hid OwnP.nil_
  · obtain ⟨l2, hr, _⟩ := h1.out
    refine Lib.hid ⟨l2, by rw [h.2]; exact hr, fun e => by rw [h.2] at e; cases e⟩
set_option maxHeartbeats 4000000 in
theorem iprocs_any (q : Nat) (d : Option Nat) (s : RS) (m : Nat) (hm : m ≤ 1000) (w : World) (h : InR w q d s) :
    Calls Try.prog 43 #[.pointer (some ⟨q, 0, none⟩), .int .i64 (m : Int)] w (IPs q d s m w) := by
  have H := Lib.hid h
  have hqw := h.lt
  have HDL := Lib.hid h.dlt
  have HB := Lib.hid (fun k h1 h2 => getSetL_bad (s := s) (m := m) (k := k) h1 h2)
  have HG := Lib.hid (show getSetL s (m : Int) = if (m : Int) < ((rWide s 1).1 : Int) then ([], ⟨(rWide s 1).2.l, true⟩) else if setUpTo (gets (rWide s 1).1 (rWide s 1).2).1 (rWide s 1).1 then gets (rWide s 1).1 (rWide s 1).2 else ([], ⟨(gets (rWide s 1).1 (rWide s 1).2).2.l, true⟩) from rfl)
  clear h
  go_enter Try.func43, Try.ntmps43
  go_wp2_with fail
  refine (iu8_any q d s _ H.out).mono ?_
  rintro e W1 ⟨rfl, r1, o1⟩
  have hlt1 := rWide_lt s 1
  generalize (rWide s 1).1 = x at *
  generalize (rWide s 1).2 = s1 at *
  have hx : x < 256 := by simpa using hlt1
  have hz1 := o1.out.size
  clear H hlt1
  have f1 := r1.out.thaw 1
  have c1 := r1.out.bad_cell
  by_cases hmx : m < x
  · have HN := Lib.hid (show (getSetL s (m : Int)).1 = [] ∧ (getSetL s (m : Int)).2.bad = true from by rw [HG.out, if_pos (by omega)]; exact ⟨rfl, rfl⟩)
    have r2 := Lib.hid (r1.out.fail s.l)
    have o2 := Lib.hid (only_two o1.out (only_q W1 q 1 (.bool true)))
    clear HB HG r1 o1
    go_wp2
    generalize W1.setCell ⟨q, 1, none⟩ (.bool true) = W2 at *
    clear c1 f1
    have f1 := r2.out.thaw 1
    have c1 : W2.cell? ⟨q, 1, none⟩ = some (.bool true) := r2.out.bad_cell
    go_loopw [6, 7] (fun sl i wr => sl = .slice none 0 0 ∧ i = .int .i64 0 ∧ wr = W2) (fun _ i _ => x - (intOf i).toNat)
    case atStart => exact ⟨rfl, rfl, rfl⟩
    case round =>
      obtain ⟨rfl, rfl, rfl⟩ := hrel
      have r3 := Lib.hid (r2.out.fail s.l)
      have o3 := Lib.hid (only_two o2.out (only_q _ q 1 (.bool true)))
      have x0 : (0 : Int) < (x : Int) := by omega
      go_wp2
      go_ret
      exact ips_none HN.out r3 o3
  · have HG2 := HG.out
    rw [if_neg (by omega)] at HG2
    have HG3 := Lib.hid HG2
    have r1' := r1
    clear HG HG2 c1 f1
    go_wp2
    go_loopw [6, 7] (fun sl i wr => ∃ k : Nat, ∃ A' c', k ≤ x ∧ sl = .slice A' k c' ∧ i = .int .i64 k ∧ Hid (OwnP wr W1.heap.size A' k c' (gets k s1).1) ∧ Hid (InR wr q d (gets k s1).2) ∧ Hid (Only (fun k => k = q) W1 wr)) (fun _ i _ => x - (intOf i).toNat)
    case atStart => exact ⟨0, none, 0, Nat.zero_le _, rfl, rfl, Lib.hid OwnP.nil_, r1, Lib.hid (Only.refl _ _)⟩
    case round =>
      obtain ⟨k, A2, c2, hk, rfl, rfl, ho2, r2, o2⟩ := hrel
      have hqlt := r1'.out.lt
      have hdlt := Lib.hid r1'.out.dlt
      have c1 := r2.out.bad_cell
      have f1 := r2.out.thaw 1
      clear r1 r1'
      cases hb : (gets k s1).2.bad with
      | true =>
        have HN := Lib.hid (HB.out k hk hb)
        have r3 := Lib.hid (r2.out.fail s.l)
        have o3 := Lib.hid (only_two (only_two o1.out o2.out) (only_q wr q 1 (.bool true)))
        rw [hb] at c1
        clear HB HG3 hb ho2 r2
        by_cases hlt : k < x
        · have g1 : (k : Int) < (x : Int) := by omega
          go_wp2
          go_ret
          exact ips_none HN.out r3 o3
        · have g1 : ¬ (k : Int) < (x : Int) := by omega
          go_wp2
          go_ret
          exact ips_none HN.out r3 o3
      | false =>
        rw [hb] at c1
        by_cases hlt : k < x
        · have g1 : (k : Int) < (x : Int) := by omega
          have HGk := Lib.hid (show gets (k + 1) s1 = ((gets k s1).1 ++ [(gotL (gets k s1).2).1], (gotL (gets k s1).2).2) from rfl)
          have HGet := Lib.hid (iproc_any q d (gets k s1).2 wr r2.out)
          unfold IPr at HGet
          clear hb
          generalize gotL (gets k s1).2 = y at *
          obtain ⟨⟨y1, y2⟩, y3⟩ := y
          simp only at HGet HGk
          go_wp2_with fail
          refine HGet.out.mono ?_
          rintro e W3 ⟨rfl, r3, o3⟩
          have ho3 := Lib.hid (ho2.out.keep o3.out (fun k e e2 => by have := ownP_base ho2.out k e; omega))
          have o4 := Lib.hid (o2.out.trans o3.out fun _ _ h => h)
          have HN := Lib.hid (lives_new W3 [(y1, y2)])
          have B5 := Lib.hid ((Below.refl W3.heap.size W3).alloc (Nat.le_refl _) (.cells (flatP [(y1, y2)]).toArray 24))
          have ho5 := Lib.hid (ho3.out.on B5.out)
          have o5 := Lib.hid (o4.out.trans (Only.ofBelow (S := fun k => k = q) B5.out) fun _ _ h => h)
          have r5 := Lib.hid (r3.out.keep (S := fun _ => False) (Only.ofBelow B5.out) (fun h => h) (fun _ _ h => h))
          clear HGet r2 r3 ho2 ho3 o2 o3 o4 c1 f1
          go_wp2_with (at_builtin; refine wpList_appendP rfl _ _ rfl W1.heap.size A2 k c2 _ rfl ?qc0 ho5.out (some ⟨W3.heap.size, 0, none⟩) 1 1 _ [(y1, y2)] rfl rfl (fun e => by cases e) HN.out (by omega) ?_)
          case qc0 => exact o5.out.size
          intro A6 c6 W6 e1 e2 e3
          go_wp2
          go_roundw
          case rel => exact ⟨k + 1, A6, c6, by omega, rfl, by go_num, Lib.hid (by rw [HGk.out]; exact e1.out), Lib.hid (by rw [HGk.out]; exact r5.out.keep e2.out (fun e => by have := ownP_base ho5.out _ e; omega) (fun k hk e => by have := ownP_base ho5.out _ e; have := hdlt.out k hk; omega)), Lib.hid (o5.out.trans e2.out (fun k hk e => by have := ownP_base ho5.out _ e; omega))⟩
          case measure => simp [intOf]; omega
        · obtain rfl : k = x := by omega
          have g1 : ¬ (k : Int) < (k : Int) := by omega
          have HP := Lib.hid (gets_pos k s1)
          have HLn := Lib.hid (gets_length k s1)
          generalize gets k s1 = gk at *
          obtain ⟨Lk, sk⟩ := gk
          simp only at HG3 ho2 r2 HP HLn hb c1 HB
          have HS := Lib.hid (rset_any A2 Lk k c2 wr ho2.out.lives HLn.out (by omega) HP.out)
          by_cases hs : setUpTo Lk k
          · have HG4 := HG3.out
            rw [if_pos hs] at HG4
            rw [decide_eq_true hs] at HS
            have HG5 := Lib.hid HG4
            clear HG3 HG4 hs HB hb
            go_wp2_with fail
            refine HS.out.mono ?_
            rintro e W5 ⟨rfl, b5⟩
            go_wp2
            go_ret
            refine ⟨A2, c2, ?_, ?_, ?_, Lib.hid ((o1.out.trans o2.out fun _ _ h => h).trans (Only.ofBelow (S := fun k => k = q) b5.out) fun _ _ h => h)⟩
            · rw [HG5.out]
              simp only [HLn.out]
              rfl
            · rw [HG5.out]
              simp only [HLn.out]
              exact Lib.hid ((ho2.out.on b5.out).lower hz1)
            · rw [HG5.out]
              exact Lib.hid (r2.out.keep (S := fun _ => False) (Only.ofBelow b5.out) (fun h => h) (fun _ _ h => h))
          · have HG4 := HG3.out
            rw [if_neg hs] at HG4
            rw [decide_eq_false hs] at HS
            have HN := Lib.hid (show (getSetL s (m : Int)).1 = [] ∧ (getSetL s (m : Int)).2.bad = true from by rw [HG4]; exact ⟨rfl, rfl⟩)
            clear HG3 HG4 hs HB hb
            go_wp2_with fail
            refine HS.out.mono ?_
            rintro e W5 ⟨rfl, b5⟩
            have r5 := Lib.hid (r2.out.keep (S := fun _ => False) (Only.ofBelow b5.out) (fun h => h) (fun _ _ h => h))
            have o5 := Lib.hid ((o1.out.trans o2.out fun _ _ h => h).trans (Only.ofBelow (S := fun k => k = q) b5.out) fun _ _ h => h)
            have r6 := Lib.hid (r5.out.fail s.l)
            have o6 := Lib.hid (only_two o5.out (only_q W5 q 1 (.bool true)))
            clear c1 f1
            have c1 := r5.out.bad_cell
            have f1 := r5.out.thaw 1
            go_wp2
            go_ret
            exact ips_none HN.out r6 o6
end Go.Proofs.Ytlcddfkhklmieaa
