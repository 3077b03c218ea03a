/-
  What frame's read takes out of bytes, and that it is what the document's Read says of them. No condition; nothing here speaks of a program.
-/
import Derived.Test.YtelbhlkojpnmgaaDoorFset
namespace Go.Proofs.YtelbhlkojpnmgaaDoor
open Go.RowKit

def g0 (l : List UInt8) : Nat × RS := rWide ⟨l, false⟩ 1
def g1 (l : List UInt8) : Nat × RS := rWide (g0 l).2 1
def g2 (l : List UInt8) : Nat × RS := rWide (g1 l).2 1
def gu (l : List UInt8) : List Nat × RS := uints 6 (g2 l).2
def gb (l : List UInt8) : List UInt8 × RS := if (g0 l).1 = 2 then rText (gu l).2 448 else ([], (gu l).2)
/-- What is taken. -/
def getF (l : List UInt8) : Fr :=
  ⟨((g0 l).1 : Int), ((g1 l).1 : Int), ((g2 l).1 : Int), (gu l).1.getD 0 0, (gu l).1.getD 1 0, (gu l).1.getD 2 0, (gu l).1.getD 3 0, (gu l).1.getD 4 0, (gu l).1.getD 5 0, (gb l).1⟩
theorem wide_one (x : UInt8) (r : List UInt8) : rWide ⟨x :: r, false⟩ 1 = (x.toNat, ⟨r, false⟩) := by
  unfold rWide
  rw [if_neg (by simp)]
  simp [numLE]
theorem wide_form {s : RS} (h : (rWide s 1).2.bad = false) : ∃ x r, s = ⟨x :: r, false⟩ := by
  obtain ⟨l, b⟩ := s
  unfold rWide at h
  split at h
  · cases h
  · rename_i hc
    cases b with
    | true => exact absurd (.inl rfl) hc
    | false =>
      cases l with
      | nil => exact absurd (.inr (by simp)) hc
      | cons x r => exact ⟨x, r, rfl⟩
theorem uints_ok {k : Nat} {s : RS} (h : (uints k s).2.bad = false) : s.bad = false := by
  obtain ⟨l, b⟩ := s
  cases b with
  | false => rfl
  | true => rw [uints_bad] at h; cases h
theorem text_good {s : RS} {m : Int} (h : (rText s m).2.bad = false) : s.bad = false := by
  obtain ⟨l, b⟩ := s
  cases b with
  | false => rfl
  | true =>
    unfold rText at h
    rw [if_pos (.inl rfl)] at h
    cases h
theorem inF_cons (f : Fr) : inF f = byteI f.kind :: byteI f.src :: byteI f.dst :: (shortsL (numsF f) ++ tailF f) := by
  unfold inF headF
  simp
theorem getF_put {f : Fr} (h : mayF f) : getF (inF f) = f ∧ (gb (inF f)).2 = ⟨[], false⟩ := by
  have e0 : g0 (inF f) = ((byteI f.kind).toNat, ⟨byteI f.src :: byteI f.dst :: (shortsL (numsF f) ++ tailF f), false⟩) := by
    unfold g0
    rw [inF_cons, wide_one]
  have e1 : g1 (inF f) = ((byteI f.src).toNat, ⟨byteI f.dst :: (shortsL (numsF f) ++ tailF f), false⟩) := by
    unfold g1
    rw [e0, wide_one]
  have e2 : g2 (inF f) = ((byteI f.dst).toNat, ⟨shortsL (numsF f) ++ tailF f, false⟩) := by
    unfold g2
    rw [e1, wide_one]
  have eu : gu (inF f) = (numsF f, ⟨tailF f, false⟩) := by
    unfold gu
    rw [e2]
    have hu := uints_put (numsF f) (numsF_u64 h.2.2.2.1) (tailF f) 6 (by simp [numsF])
    rw [hu]
    rfl
  have hk := mayF_kind h
  have hs := h.1
  have hd := h.2.1
  unfold nodeF at hs hd
  have b0 : ((byteI f.kind).toNat : Int) = f.kind := byteI_back (by omega) (by omega)
  have b1 : ((byteI f.src).toNat : Int) = f.src := byteI_back (by omega) (by omega)
  have b2 : ((byteI f.dst).toNat : Int) = f.dst := byteI_back (by omega) (by omega)
  have eb : gb (inF f) = (f.body, ⟨[], false⟩) := by
    have ht := tailF_read h
    unfold gb
    rw [e0, eu]
    simp only
    by_cases hk2 : f.kind = 2
    · rw [if_pos (by omega)]
      have h0 : 0 < (tailF f).length := by
        unfold tailF
        rw [if_pos hk2]
        have := shortL_pos f.body.length
        simp
        omega
      rw [if_pos h0] at ht
      exact ht
    · rw [if_neg (by omega)]
      have h0 : tailF f = [] := by unfold tailF; rw [if_neg hk2]
      rw [h0] at ht ⊢
      rw [if_neg (by simp)] at ht
      exact ht
  refine ⟨?_, by rw [eb]⟩
  unfold getF
  rw [e0, e1, e2, eu, eb]
  simp only
  rw [b0, b1, b2]
  rfl
theorem byteI_toNat (x : UInt8) : byteI (x.toNat : Int) = x := by
  unfold byteI
  simp
theorem six_all {l : List Nat} (h : l.length = 6) : [l.getD 0 0, l.getD 1 0, l.getD 2 0, l.getD 3 0, l.getD 4 0, l.getD 5 0] = l := by
  match l, h with
  | [_, _, _, _, _, _], _ => rfl
theorem getF_form {l : List UInt8} (he : (rEnd (gb l).2).bad = false) (hm : mayF (getF l)) : inF (getF l) = l := by
  have hb : (gb l).2.bad = false ∧ (gb l).2.l = [] := by
    unfold rEnd at he
    simp only [Bool.or_eq_false_iff, Bool.not_eq_false'] at he
    exact ⟨he.1, List.isEmpty_iff.1 he.2⟩
  have hu : (gu l).2.bad = false := by
    have := hb.1
    unfold gb at this
    split at this
    · exact text_good this
    · exact this
  have hg2 : (g2 l).2.bad = false := uints_ok hu
  obtain ⟨x2, r2, e2⟩ := wide_form (s := (g1 l).2) hg2
  obtain ⟨x1, r1, e1⟩ := wide_form (s := (g0 l).2) (show (g1 l).2.bad = false by rw [e2])
  obtain ⟨x0, r0, e0⟩ := wide_form (s := ⟨l, false⟩) (show (g0 l).2.bad = false by rw [e1])
  obtain rfl : l = x0 :: r0 := congrArg RS.l e0
  have f0 : g0 (x0 :: r0) = (x0.toNat, ⟨r0, false⟩) := wide_one x0 r0
  rw [f0] at e1
  obtain rfl : r0 = x1 :: r1 := congrArg RS.l e1
  have f1 : g1 (x0 :: x1 :: r1) = (x1.toNat, ⟨r1, false⟩) := by unfold g1; rw [f0, wide_one]
  rw [f1] at e2
  obtain rfl : r1 = x2 :: r2 := congrArg RS.l e2
  have f2 : g2 (x0 :: x1 :: x2 :: r2) = (x2.toNat, ⟨r2, false⟩) := by unfold g2; rw [f1, wide_one]
  have fu : gu (x0 :: x1 :: x2 :: r2) = uints 6 ⟨r2, false⟩ := by unfold gu; rw [f2]
  have hr := uints_form (l := r2) 6 (by rw [← fu]; exact hu)
  have h6 : (uints 6 ⟨r2, false⟩).1.length = 6 := uints_length 6 _
  have hn : numsF (getF (x0 :: x1 :: x2 :: r2)) = (uints 6 ⟨r2, false⟩).1 := by
    unfold numsF getF
    rw [fu]
    exact six_all h6
  have ht : tailF (getF (x0 :: x1 :: x2 :: r2)) = (uints 6 ⟨r2, false⟩).2.l := by
    have hb2 := hb.2
    have hb1 := hb.1
    rw [fu] at hu
    unfold tailF getF
    simp only
    unfold gb at hb1 hb2 ⊢
    rw [f0, fu] at hb1 hb2 ⊢
    simp only at hb1 hb2 ⊢
    generalize (uints 6 ⟨r2, false⟩).2 = z at hu hb1 hb2 ⊢
    obtain ⟨zl, zb⟩ := z
    simp only at hu
    subst hu
    by_cases hk : x0.toNat = 2
    · rw [if_pos hk] at hb1 hb2 ⊢
      rw [if_pos (by omega)]
      have h2 := (rText_form hb1).1
      rw [hb2, List.append_nil] at h2
      exact h2.symm
    · rw [if_neg hk] at hb2
      rw [if_neg (by omega)]
      exact hb2.symm
  rw [inF_cons, hn, ht, ← hr]
  unfold getF
  rw [f0, f1, f2]
  simp only
  rw [byteI_toNat, byteI_toNat, byteI_toNat]
theorem seal_open {b : List UInt8} (h : Crc.sealed b = true) : Crc.seal_ (openF b) = b := by
  unfold Crc.sealed at h
  rw [Bool.and_eq_true, decide_eq_true_iff, decide_eq_true_iff] at h
  unfold Crc.seal_ openF
  rw [← h.2, List.take_append_drop]
/-- What the code's Decode tells. -/
def goodF (b : List UInt8) : Prop := Crc.sealed b = true ∧ (rEnd (gb (openF b)).2).bad = false ∧ mayF (getF (openF b))
theorem readF_good {b : List UInt8} (h : goodF b) : readF b = some (getF (openF b)) := by
  obtain ⟨h1, h2, h3⟩ := h
  refine readF_iff.2 ⟨h3, ?_⟩
  unfold frameL
  rw [getF_form h2 h3, seal_open h1]
theorem readF_bad {b : List UInt8} (h : ¬ goodF b) : readF b = none := by
  cases hr : readF b with
  | none => rfl
  | some f =>
    obtain ⟨h1, h2⟩ := readF_some hr
    exfalso
    refine h ?_
    have e : openF b = inF f := by rw [← h2]; exact openF_seal _
    obtain ⟨p1, p2⟩ := getF_put h1
    refine ⟨by rw [← h2]; exact Crc.sealed_seal _, by rw [e, p2]; rfl, by rw [e, p1]; exact h1⟩
theorem g0_lt (l : List UInt8) : (g0 l).1 < 256 := by have := rWide_lt ⟨l, false⟩ 1; unfold g0; omega
theorem g1_lt (l : List UInt8) : (g1 l).1 < 256 := by have := rWide_lt (g0 l).2 1; unfold g1; omega
theorem g2_lt (l : List UInt8) : (g2 l).1 < 256 := by have := rWide_lt (g1 l).2 1; unfold g2; omega
end Go.Proofs.YtelbhlkojpnmgaaDoor
