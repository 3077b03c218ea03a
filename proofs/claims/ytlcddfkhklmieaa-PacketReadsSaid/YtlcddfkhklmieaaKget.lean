/-
  What package packet's readers take out of bytes, and that it is what the document's Read says of them. No condition; nothing here speaks of a program.
-/
import Derived.Test.YtlcddfkhklmieaaKset
import Derived.Test.YtlcddfkhklmieaaUints
namespace Go.Proofs.Ytlcddfkhklmieaa
open Go.RowKit

def peersN (s : RS) : Nat × RS := rWide (rUint (gotL s).2).2 1
def rawCA (s : RS) : Pk × RS :=
  (⟨1, (0, 0), 0, [], [], (gotL s).1, (rUint (gotL s).2).1, (gets (peersN s).1 (peersN s).2).1⟩, (gets (peersN s).1 (peersN s).2).2)
/-- What is taken behind the kind. -/
def rawC (k : Nat) (s : RS) : Pk × RS := if k = 1 then rawCA s else rawB k s
def kindS (b : List UInt8) : Nat × RS := rWide ⟨b, false⟩ 1
/-- Whether what is taken is a packet. -/
def goodC (b : List UInt8) : Prop := 1 ≤ (kindS b).1 ∧ (kindS b).1 ≤ 3 ∧ (rEnd (rawC (kindS b).1 (kindS b).2).2).bad = false ∧ mayK (rawC (kindS b).1 (kindS b).2).1
theorem rEnd_ok {s : RS} (h : (rEnd s).bad = false) : s = ⟨[], false⟩ := by
  obtain ⟨l, b⟩ := s
  unfold rEnd at h
  simp only [Bool.or_eq_false_iff, Bool.not_eq_false'] at h
  obtain ⟨h1, h2⟩ := h
  rw [h1, List.isEmpty_iff.1 h2]
theorem rEnd_fine : (rEnd ⟨[], false⟩).bad = false := rfl
theorem wideK_form {s : RS} (h : (rWide s 1).2.bad = false) : ∃ x r, s = ⟨x :: r, false⟩ ∧ rWide s 1 = (x.toNat, ⟨r, false⟩) := by
  obtain ⟨l, b⟩ := s
  have h0 := h
  unfold rWide at h
  split at h
  · cases h
  · rename_i hc
    cases b with
    | true => exact absurd (.inl rfl) hc
    | false =>
      cases l with
      | nil => exact absurd (.inr (by simp)) hc
      | cons x r => exact ⟨x, r, rfl, rWide_byte x r⟩
theorem byteI_of (x : UInt8) : byteI (x.toNat : Int) = x := by
  unfold byteI
  simp
theorem uintK_form {s : RS} (h : (rUint s).2.bad = false) : s = ⟨shortL (rUint s).1 ++ (rUint s).2.l, false⟩ := by
  obtain ⟨l, b⟩ := s
  have hb : b = false := by
    cases b with
    | false => rfl
    | true =>
      unfold rUint at h
      rw [if_pos (.inl rfl)] at h
      cases h
  subst hb
  have := rUint_form h
  rw [← this]
theorem textK_form {s : RS} {m : Int} (h : (rText s m).2.bad = false) : s = ⟨shortL (rText s m).1.length ++ (rText s m).1 ++ (rText s m).2.l, false⟩ := by
  obtain ⟨l, b⟩ := s
  have hb : b = false := by
    cases b with
    | false => rfl
    | true =>
      unfold rText at h
      rw [if_pos (.inl rfl)] at h
      cases h
  subst hb
  have := (rText_form h).1
  rw [← this]
/-- What follows the byte x. -/
theorem wideK_put {s : RS} (h : (rWide s 1).2.bad = false) : s = ⟨byteI ((rWide s 1).1 : Int) :: (rWide s 1).2.l, false⟩ := by
  obtain ⟨x, r, e, e2⟩ := wideK_form h
  rw [e2, e]
  simp only
  rw [byteI_of]
theorem gotK_form {s : RS} (h : (gotL s).2.bad = false) : s = ⟨putL (gotL s).1 ++ (gotL s).2.l, false⟩ := by
  have hg : gotL s = if mayL (((rWide s 1).1 : Int), ((rUint (rWide s 1).2).1 : Int)) then ((((rWide s 1).1 : Int), ((rUint (rWide s 1).2).1 : Int)), (rUint (rWide s 1).2).2) else ((0, 0), ⟨(rUint (rWide s 1).2).2.l, true⟩) := rfl
  rw [hg] at h ⊢
  split at h
  · rename_i hm
    rw [if_pos hm]
    simp only at h ⊢
    have h1 := uintK_form h
    have h2 := wideK_put (s := s) (by rw [h1])
    obtain ⟨hn1, hn2, _⟩ := hm
    simp only at hn1 hn2
    have hl : lowB (((rWide s 1).1 : Int), ((rUint (rWide s 1).2).1 : Int)) = (rWide s 1).1 := by
      unfold lowB
      simp only
      omega
    have e1 : putL (((rWide s 1).1 : Int), ((rUint (rWide s 1).2).1 : Int)) = byteI ((rWide s 1).1 : Int) :: shortL (rUint (rWide s 1).2).1 := by
      unfold putL
      rw [hl]
      have : byteI ((rWide s 1).1 : Int) = UInt8.ofNat (rWide s 1).1 := by unfold byteI; simp
      rw [this]
      simp [wideL, Nat.mod_eq_of_lt (show (rWide s 1).1 < 256 by omega)]
    rw [e1, List.cons_append]
    have h3 : (rWide s 1).2.l = shortL (rUint (rWide s 1).2).1 ++ (rUint (rWide s 1).2).2.l := congrArg RS.l h1
    rw [← h3]
    exact h2
  · cases h
theorem getsK_form : ∀ (k : Nat) {s : RS}, (gets k s).2.bad = false → s = ⟨putsL (gets k s).1 ++ (gets k s).2.l, s.bad⟩ ∧ (0 < k → s.bad = false)
  | 0, s, _ => ⟨by simp [gets, putsL], fun h => by omega⟩
  | k + 1, s, h => by
    have hg : gets (k + 1) s = ((gets k s).1 ++ [(gotL (gets k s).2).1], (gotL (gets k s).2).2) := rfl
    rw [hg] at h ⊢
    simp only at h ⊢
    have h1 := gotK_form h
    have hb : (gets k s).2.bad = false := by rw [h1]
    have hl : (gets k s).2.l = putL (gotL (gets k s).2).1 ++ (gotL (gets k s).2).2.l := congrArg RS.l h1
    obtain ⟨h2, h3⟩ := getsK_form k hb
    have e : putsL ((gets k s).1 ++ [(gotL (gets k s).2).1]) ++ (gotL (gets k s).2).2.l = putsL (gets k s).1 ++ (gets k s).2.l := by
      rw [hl, putsL_append, List.append_assoc]
      congr 1
      rw [show putsL [(gotL (gets k s).2).1] = putL (gotL (gets k s).2).1 by simp [putsL]]
    rw [e]
    refine ⟨h2, fun _ => ?_⟩
    rcases Nat.eq_zero_or_pos k with rfl | hk
    · exact hb
    · exact h3 hk
theorem getHK_form {k3 : Bool} {s : RS} (h : (getH k3 s).2.bad = false) : s = ⟨headL k3 (getH k3 s).1 ++ (getH k3 s).2.l, false⟩ := by
  unfold getH headL at *
  cases k3 with
  | false =>
    simp only [Bool.false_eq_true, if_false] at h ⊢
    have h1 := uintK_form h
    have h2 := uintK_form (s := (rWide s 1).2) (by rw [h1])
    have h3 := wideK_put (s := s) (by rw [h2])
    have l1 := congrArg RS.l h1
    have l2 := congrArg RS.l h2
    simp only at l1 l2
    simp only [List.append_nil, List.cons_append, List.append_assoc]
    rw [← l1, ← l2]
    exact h3
  | true =>
    simp only [if_true] at h ⊢
    have h0 := uintK_form h
    have h1 := uintK_form (s := (rUint (rWide s 1).2).2) (by rw [h0])
    have h2 := uintK_form (s := (rWide s 1).2) (by rw [h1])
    have h3 := wideK_put (s := s) (by rw [h2])
    have l0 := congrArg RS.l h0
    have l1 := congrArg RS.l h1
    have l2 := congrArg RS.l h2
    simp only at l0 l1 l2
    simp only [List.cons_append, List.append_assoc]
    rw [← l0, ← l1, ← l2]
    exact h3
theorem getHs_succ (k3 : Bool) (k : Nat) (s : RS) : getHs k3 (k + 1) s = ((getHs k3 k s).1 ++ [(getH k3 (getHs k3 k s).2).1], (getH k3 (getHs k3 k s).2).2) := rfl
theorem getHsK_form {k3 : Bool} : ∀ (k : Nat) {s : RS}, (getHs k3 k s).2.bad = false → s = ⟨headsL k3 (getHs k3 k s).1 ++ (getHs k3 k s).2.l, s.bad⟩ ∧ (0 < k → s.bad = false)
  | 0, s, _ => ⟨by simp [getHs, headsL], fun h => by omega⟩
  | k + 1, s, h => by
    rw [getHs_succ] at h ⊢
    simp only at h ⊢
    have h1 := getHK_form h
    have hb : (getHs k3 k s).2.bad = false := by rw [h1]
    have hl : (getHs k3 k s).2.l = headL k3 (getH k3 (getHs k3 k s).2).1 ++ (getH k3 (getHs k3 k s).2).2.l := congrArg RS.l h1
    obtain ⟨h2, h3⟩ := getHsK_form k hb
    have e : headsL k3 ((getHs k3 k s).1 ++ [(getH k3 (getHs k3 k s).2).1]) ++ (getH k3 (getHs k3 k s).2).2.l = headsL k3 (getHs k3 k s).1 ++ (getHs k3 k s).2.l := by
      rw [hl]
      simp [headsL]
    rw [e]
    refine ⟨h2, fun _ => ?_⟩
    rcases Nat.eq_zero_or_pos k with rfl | hk
    · exact hb
    · exact h3 hk
theorem getHs_length (k3 : Bool) : ∀ (k : Nat) (s : RS), (getHs k3 k s).1.length = k
  | 0, _ => rfl
  | k + 1, s => by rw [getHs_succ, List.length_append, getHs_length k3 k s]; rfl
theorem getH_le (k3 : Bool) (s : RS) : (getH k3 s).2.l.length ≤ s.l.length := by
  unfold getH
  have h1 := rWide_le s 1
  have h2 := rUint_le (rWide s 1).2
  have h3 := rUint_le (rUint (rWide s 1).2).2
  have h4 := rUint_le (rUint (rUint (rWide s 1).2).2).2
  cases k3 <;> simp only [Bool.false_eq_true, if_false, if_true] <;> omega
theorem getHs_le (k3 : Bool) : ∀ (k : Nat) (s : RS), (getHs k3 k s).2.l.length ≤ s.l.length
  | 0, _ => Nat.le_refl _
  | k + 1, s => by rw [getHs_succ]; exact Nat.le_trans (getH_le k3 _) (getHs_le k3 k s)
/-- What was taken without a fault, and may be, has just these bytes. -/
theorem goodC_form {b : List UInt8} (h : goodC b) : packetL (rawC (kindS b).1 (kindS b).2).1 = b := by
  obtain ⟨h1, h3, he, hm⟩ := h
  have hr := rEnd_ok he
  have hkind : (rawC (kindS b).1 (kindS b).2).1.kind = ((kindS b).1 : Int) := by
    unfold rawC
    split
    · rename_i h; rw [h]; rfl
    · rfl
  have hkb : (kindS b).2.bad = false ∧ (if (kindS b).1 = 1 then advL (rawC (kindS b).1 (kindS b).2).1 else restL (rawC (kindS b).1 (kindS b).2).1) = (kindS b).2.l := by
    generalize (kindS b).2 = s at *
    by_cases h0 : (kindS b).1 = 1
    · rw [h0] at hr hm ⊢
      unfold rawC at *
      simp only [if_true] at *
      unfold rawCA at *
      simp only at hr hm ⊢
      obtain ⟨g1, _⟩ := getsK_form (peersN s).1 (s := (peersN s).2) (by rw [hr])
      have gl := gets_length (peersN s).1 (peersN s).2
      have hnb : (peersN s).2.bad = false := by
        rcases Nat.eq_zero_or_pos (peersN s).1 with e | e
        · rw [e] at hr; exact congrArg RS.bad hr
        · exact (getsK_form (peersN s).1 (s := (peersN s).2) (by rw [hr])).2 e
      have g2 := wideK_put (s := (rUint (gotL s).2).2) hnb
      have g3 := uintK_form (s := (gotL s).2) (by rw [g2])
      have g4 := gotK_form (s := s) (by rw [g3])
      refine ⟨by rw [g4], ?_⟩
      unfold advL
      simp only
      have l1 := congrArg RS.l g1
      have l2 := congrArg RS.l g2
      have l3 := congrArg RS.l g3
      have l4 := congrArg RS.l g4
      simp only at l1 l2 l3 l4
      have l5 : (gets (peersN s).1 (peersN s).2).2.l = [] := by rw [hr]
      rw [l5, List.append_nil] at l1
      rw [gl]
      change (rUint (gotL s).2).2.l = byteI ((peersN s).1 : Int) :: (peersN s).2.l at l2
      rw [l1] at l2
      rw [l4, l3, l2]
      simp
    · unfold rawC at *
      rw [if_neg h0] at hr hm ⊢
      rw [if_neg h0]
      have hk23 : (kindS b).1 = 2 ∨ (kindS b).1 = 3 := by omega
      unfold rawB at *
      simp only at hr hm ⊢
      have hsb : (headS (decide ((kindS b).1 = 3)) s).2.bad = false ∧ (if (kindS b).1 = 2 then shortL (bodyS (kindS b).1 s).1.length ++ (bodyS (kindS b).1 s).1 else []) = (headS (decide ((kindS b).1 = 3)) s).2.l := by
        unfold bodyS at *
        rcases hk23 with e | e
        · rw [if_pos e] at hr ⊢
          rw [if_pos e]
          have g := textK_form (s := (headS (decide ((kindS b).1 = 3)) s).2) (m := 320) (by rw [hr])
          refine ⟨by rw [g], ?_⟩
          have l := congrArg RS.l g
          simp only at l
          rw [hr, List.append_nil] at l
          exact l.symm
        · rw [if_neg (by omega)] at hr ⊢
          try rw [if_neg (by omega)]
          simp only at hr
          exact ⟨by rw [hr], by rw [hr]⟩
      obtain ⟨hb1, hl1⟩ := hsb
      have e3 : decide ((((kindS b).1 : Nat) : Int) = 3) = decide ((kindS b).1 = 3) := by rw [Bool.eq_iff_iff, decide_eq_true_iff, decide_eq_true_iff]; omega
      have gl := getHs_length (decide ((kindS b).1 = 3)) (lenS s).1 (lenS s).2
      obtain ⟨g1, g1'⟩ := getHsK_form (k3 := decide ((kindS b).1 = 3)) (lenS s).1 (s := (lenS s).2) hb1
      have hnb : (lenS s).2.bad = false := by
        rcases Nat.eq_zero_or_pos (lenS s).1 with e | e
        · have hb2 := hb1
          unfold headS at hb2
          rw [e] at hb2
          exact hb2
        · exact g1' e
      have g2 := wideK_put (s := (hopsS s).2) hnb
      have g3 := wideK_put (s := (gotL s).2) (show (hopsS s).2.bad = false by rw [g2])
      have g4 := gotK_form (s := s) (by rw [g3])
      refine ⟨by rw [g4], ?_⟩
      unfold restL
      simp only
      have l1 := congrArg RS.l g1
      have l2 := congrArg RS.l g2
      have l3 := congrArg RS.l g3
      have l4 := congrArg RS.l g4
      simp only at l1 l2 l3 l4
      change (hopsS s).2.l = byteI ((lenS s).1 : Int) :: (lenS s).2.l at l2
      change (gotL s).2.l = byteI ((hopsS s).1 : Int) :: (hopsS s).2.l at l3
      have e2 : (if (((kindS b).1 : Nat) : Int) = 2 then shortL (bodyS (kindS b).1 s).1.length ++ (bodyS (kindS b).1 s).1 else []) = (headS (decide ((kindS b).1 = 3)) s).2.l := by
        rw [← hl1]
        by_cases e : (kindS b).1 = 2
        · rw [if_pos e, if_pos (by omega)]
        · rw [if_neg e, if_neg (by omega)]
      rw [e3, e2]
      have hh : (headS (decide ((kindS b).1 = 3)) s).1.length = (lenS s).1 := gl
      rw [hh]
      change (lenS s).2.l = headsL (decide ((kindS b).1 = 3)) (headS (decide ((kindS b).1 = 3)) s).1 ++ (headS (decide ((kindS b).1 = 3)) s).2.l at l1
      rw [l4, l3, l2, l1]
      try simp
  obtain ⟨hb, hl⟩ := hkb
  have hw := wideK_put (s := ⟨b, false⟩) hb
  have l0 := congrArg RS.l hw
  simp only at l0
  change b = byteI ((kindS b).1 : Int) :: (kindS b).2.l at l0
  unfold packetL
  rw [hkind]
  have e1 : ((((kindS b).1 : Nat) : Int) = 1) ↔ (kindS b).1 = 1 := by omega
  simp only [e1]
  rw [hl]
  exact l0.symm
theorem readK_good {b : List UInt8} (h : goodC b) : readK b = some (rawC (kindS b).1 (kindS b).2).1 := readK_iff.2 ⟨h.2.2.2, goodC_form h⟩
theorem goodC_put {p : Pk} (h : mayK p) : goodC (packetL p) ∧ (rawC (kindS (packetL p)).1 (kindS (packetL p)).2).1 = p := by
  have hr := rawK_all h
  unfold rawK at hr
  change (if (kindS (packetL p)).1 = 1 then rawA (kindS (packetL p)).2 else rawB (kindS (packetL p)).1 (kindS (packetL p)).2) = _ at hr
  have hC : rawC (kindS (packetL p)).1 (kindS (packetL p)).2 = (p, ⟨[], false⟩) := by
    unfold rawC
    by_cases h1 : (kindS (packetL p)).1 = 1
    · rw [if_pos h1] at hr ⊢
      have hg : getSetL (rUint (gotL (kindS (packetL p)).2).2).2 10 = gets (peersN (kindS (packetL p)).2).1 (peersN (kindS (packetL p)).2).2 := by
        have hb : (getSetL (rUint (gotL (kindS (packetL p)).2).2).2 10).2.bad = false := by
          have := congrArg (fun x : Pk × RS => x.2) hr
          unfold rawA at this
          simp only at this
          rw [this]
        unfold getSetL at hb ⊢
        try simp only at hb ⊢
        split at hb
        · cases hb
        · split at hb
          · rename_i h2 h3
            rw [if_neg h2, if_pos h3]
            rfl
          · cases hb
      unfold rawA at hr
      unfold rawCA
      rw [hg] at hr
      exact hr
    · rw [if_neg h1] at hr ⊢
      exact hr
  have hk : ((kindS (packetL p)).1 : Int) = p.kind := by
    have e := congrArg (fun x : Pk × RS => x.1.kind) hC
    simp only at e
    rw [← e]
    unfold rawC
    split
    · rename_i h1; rw [h1]; rfl
    · rfl
  have h13 : 1 ≤ p.kind ∧ p.kind ≤ 3 := by
    rcases h with ⟨h, _⟩ | ⟨_, _, _, _, _, _, h | h⟩
    · omega
    · have := h.1; omega
    · have := h.1; omega
  refine ⟨⟨by omega, by omega, ?_, ?_⟩, by rw [hC]⟩
  · rw [hC]; rfl
  · rw [hC]; exact h
theorem readK_bad {b : List UInt8} (h : ¬ goodC b) : readK b = none := by
  cases hr : readK b with
  | none => rfl
  | some p =>
    obtain ⟨h1, h2⟩ := readK_some hr
    rw [← h2] at h
    exact absurd (goodC_put h1).1 h
end Go.Proofs.Ytlcddfkhklmieaa
