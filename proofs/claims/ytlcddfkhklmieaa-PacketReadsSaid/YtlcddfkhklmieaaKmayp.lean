/-
  Which packets may be, as package packet asks it: heads and peers that rise from 0. No condition; nothing here speaks of a program.
-/
import Derived.Test.YtlcddfkhklmieaaKset
namespace Go.Proofs.Ytlcddfkhklmieaa
open Go.RowKit

/-- The node ahead of place i, or 0. -/
def prevL (l : List Life) (i : Nat) : Int := if i = 0 then 0 else (atL l (i - 1)).1
def upAdv (n : Int) (l : List Life) (k : Nat) : Prop := ∀ i, i < k → srvK (atL l i) ∧ (atL l i).1 ≠ n ∧ prevL l i < (atL l i).1
instance (n : Int) (l : List Life) (k : Nat) : Decidable (upAdv n l k) := inferInstanceAs (Decidable (∀ i, i < k → _))
def countK (x : Nat) : Prop := 0 < x ∧ cnt x
instance (x : Nat) : Decidable (countK x) := inferInstanceAs (Decidable (_ ∧ _))
theorem upAdv_rise {n : Int} {l : List Life} {k : Nat} (h : upAdv n l k) : ∀ i, i < k → ∀ j, j < i → (atL l j).1 < (atL l i).1
  | 0, _, j, hj => by omega
  | i + 1, hi, j, hj => by
    have h1 := (h (i + 1) hi).2.2
    unfold prevL at h1
    rw [if_neg (by omega), Nat.add_sub_cancel] at h1
    rcases Nat.lt_or_ge j i with h2 | h2
    · have := upAdv_rise h i (by omega) j h2
      omega
    · obtain rfl : j = i := by omega
      exact h1
theorem atL_cons0 (p : Life) (l : List Life) : atL (p :: l) 0 = p := rfl
theorem atL_consS (p : Life) (l : List Life) (i : Nat) : atL (p :: l) (i + 1) = atL l i := by simp [atL]
theorem advK_iff {srv : Life} {aseq : Nat} {l : List Life} : advK srv aseq l ↔ upAdv srv.1 l l.length ∧ srvK srv ∧ countK aseq := by
  constructor
  · rintro ⟨h1, h2, h3, h4, h5, h6⟩
    refine ⟨fun i hi => ⟨h5 i hi, ?_, ?_⟩, h1, ⟨by omega, h3⟩⟩
    · have := h6 (i + 1) (by simp; omega) 0 (by omega)
      rw [atL_cons0, atL_consS] at this
      exact fun e => this e.symm
    · unfold prevL
      by_cases h0 : i = 0
      · rw [if_pos h0]
        have := (h4 i hi).1.1
        omega
      · rw [if_neg h0]
        have hb := (h4 i hi).2 (by omega)
        have ha := h6 (i + 1) (by simp; omega) (i - 1 + 1) (by omega)
        rw [atL_consS, atL_consS] at ha
        unfold before at hb
        omega
  · rintro ⟨h1, h2, h3, h4⟩
    refine ⟨h2, by omega, h4, fun i hi => ⟨(h1 i hi).1.1.1, fun h0 => ?_⟩, fun i hi => (h1 i hi).1, fun i hi j hj => ?_⟩
    · have := upAdv_rise h1 i hi (i - 1) (by omega)
      unfold before
      omega
    · have hi' : i < l.length + 1 := by simpa using hi
      obtain ⟨i, rfl⟩ : ∃ m, i = m + 1 := ⟨i - 1, by omega⟩
      rw [atL_consS]
      rcases Nat.eq_zero_or_pos j with rfl | h0
      · rw [atL_cons0]
        exact fun e => (h1 i (by omega)).2.1 e.symm
      · obtain ⟨j, rfl⟩ : ∃ m, j = m + 1 := ⟨j - 1, by omega⟩
        rw [atL_consS]
        have := upAdv_rise h1 i (by omega) j (by omega)
        omega
def prevH (l : List Hd) (i : Nat) : Int := if i = 0 then 0 else (atH l (i - 1)).dst
def hdOk (k3 : Bool) (h : Hd) : Prop := if k3 = true then countK h.conn ∧ cnt h.seq ∧ countK h.inc else countK h.conn ∧ countK h.seq ∧ h.inc = 0
instance (k3 : Bool) (h : Hd) : Decidable (hdOk k3 h) := by unfold hdOk; infer_instance
def upHd (k3 : Bool) (n : Int) (l : List Hd) (k : Nat) : Prop := ∀ i, i < k → hdOk k3 (atH l i) ∧ (atH l i).dst ≠ n ∧ prevH l i < (atH l i).dst ∧ (atH l i).dst ≤ 10
instance (k3 : Bool) (n : Int) (l : List Hd) (k : Nat) : Decidable (upHd k3 n l k) := inferInstanceAs (Decidable (∀ i, i < k → _))
theorem prevH_one {k3 : Bool} {n : Int} {l : List Hd} {k : Nat} (h : upHd k3 n l k) : ∀ i, i < k → 1 ≤ (atH l i).dst
  | 0, hi => by have := (h 0 hi).2.2.1; unfold prevH at this; simp at this; omega
  | i + 1, hi => by
    have h1 := prevH_one h i (by omega)
    have := (h (i + 1) hi).2.2.1
    unfold prevH at this
    rw [if_neg (by omega), Nat.add_sub_cancel] at this
    omega
theorem upHd_iff {kind n : Int} {l : List Hd} (hk : kind = 2 ∨ kind = 3) : headsUpTo kind n l l.length ↔ upHd (decide (kind = 3)) n l l.length := by
  constructor
  · intro h i hi
    obtain ⟨⟨h1, h2, h3, h4, h5, h6, h7, h8⟩, h9⟩ := h i hi
    unfold nodeF at h1
    refine ⟨?_, h2, ?_, h1.2⟩
    · unfold hdOk countK
      rcases hk with rfl | rfl
      · have e : ¬ ((atH l i).seq = 0 ∨ (atH l i).inc ≠ 0) := fun e => h7 ⟨rfl, e⟩
        rw [if_neg (by decide)]
        refine ⟨⟨by omega, h4⟩, ⟨by omega, h5⟩, by omega⟩
      · have e : ¬ (atH l i).inc = 0 := fun e => h8 ⟨rfl, e⟩
        rw [if_pos (by decide)]
        exact ⟨⟨by omega, h4⟩, h5, ⟨by omega, h6⟩⟩
    · unfold prevH
      by_cases h0 : i = 0
      · rw [if_pos h0]; omega
      · rw [if_neg h0]; exact h9 (by omega)
  · intro h i hi
    obtain ⟨h1, h2, h3, h4⟩ := h i hi
    have h5 := prevH_one h i hi
    refine ⟨?_, fun h0 => by unfold prevH at h3; rw [if_neg (by omega)] at h3; exact h3⟩
    unfold hdOk countK at h1
    have c0 : cnt 0 := by unfold cnt; decide
    rcases hk with rfl | rfl
    · rw [if_neg (by decide)] at h1
      obtain ⟨a, b, c⟩ := h1
      exact ⟨⟨h5, h4⟩, h2, by omega, a.2, b.2, by rw [c]; exact c0, fun e => by omega, fun e => by omega⟩
    · rw [if_pos (by decide)] at h1
      obtain ⟨a, b, c⟩ := h1
      exact ⟨⟨h5, h4⟩, h2, by omega, a.2, b, c.2, fun e => by omega, fun e => by omega⟩
def traK (s : Life) (h : Int) (srv : Life) (z np : Nat) : Prop := lifeK s ∧ 0 ≤ h ∧ h ≤ 8 ∧ srv.1 = 0 ∧ srv.2 = 0 ∧ z = 0 ∧ np = 0
instance (s : Life) (h : Int) (srv : Life) (z np : Nat) : Decidable (traK s h srv z np) := inferInstanceAs (Decidable (_ ∧ _))
/-- Whether a packet may be, by its numbers: adi, tri, h2i, h3i say whether the advert, the way, the heads may. -/
def mkC (k s t h nh n adi tri h2i h3i : Int) : Prop :=
  (k = 1 ∧ adi = 1 ∧ s = 0 ∧ t = 0 ∧ h = 0 ∧ nh = 0 ∧ n = 0) ∨ (k = 2 ∧ tri = 1 ∧ 1 ≤ nh ∧ h2i = 1 ∧ 1 ≤ n ∧ n ≤ 320) ∨ (k = 3 ∧ tri = 1 ∧ nh = 1 ∧ h3i = 1 ∧ n = 0)
instance (k s t h nh n adi tri h2i h3i : Int) : Decidable (mkC k s t h nh n adi tri h2i h3i) := inferInstanceAs (Decidable (_ ∨ _))
theorem ind1 (p : Prop) [Decidable p] : (if p then (1 : Int) else 0) = 1 ↔ p := by
  by_cases h : p
  · simp [h]
  · simp [h]
theorem mayK_c (k s t h x y : Int) (z : Nat) (heads : List Hd) (body : List UInt8) (peers : List Life) :
    decide (mayK ⟨k, (s, t), h, heads, body, (x, y), z, peers⟩) = decide (mkC k s t h heads.length body.length (if advK (x, y) z peers then 1 else 0) (if traK (s, t) h (x, y) z peers.length then 1 else 0) (if upHd false s heads heads.length then 1 else 0) (if upHd true s heads heads.length then 1 else 0)) := by
  rw [Bool.eq_iff_iff, decide_eq_true_iff, decide_eq_true_iff]
  unfold mayK mkC aloneK bareK endK headsK
  simp only [ind1, Prod.mk.injEq]
  have e1 : heads = [] ↔ (heads.length : Int) = 0 := by rw [← List.length_eq_zero_iff]; omega
  have e2 : body = [] ↔ (body.length : Int) = 0 := by rw [← List.length_eq_zero_iff]; omega
  have e3 : peers = [] ↔ peers.length = 0 := by rw [← List.length_eq_zero_iff]
  rw [e1, e2, e3]
  unfold traK
  simp only
  have u2 : headsUpTo 2 s heads heads.length ↔ upHd false s heads heads.length := upHd_iff (.inl rfl)
  have u3 : headsUpTo 3 s heads heads.length ↔ upHd true s heads heads.length := upHd_iff (.inr rfl)
  constructor
  · rintro (⟨a, ⟨⟨b1, b2⟩, c, d, e⟩, f⟩ | ⟨a, ⟨⟨b1, b2⟩, c, d⟩, e, f, g, ⟨i, i2⟩, ⟨rfl, j1, j2⟩ | ⟨rfl, j1, j2⟩⟩)
    · exact .inl ⟨a, f, b1, b2, c, d, e⟩
    · exact .inr (.inl ⟨rfl, ⟨e, f, g, b1, b2, c, d⟩, by omega, u2.1 i, by omega, by omega⟩)
    · exact .inr (.inr ⟨rfl, ⟨e, f, g, b1, b2, c, d⟩, by omega, u3.1 i, j1⟩)
  · rintro (⟨a, f, b1, b2, c, d, e⟩ | ⟨rfl, ⟨e, f, g, b1, b2, c, d⟩, i1, i2, j1, j2⟩ | ⟨rfl, ⟨e, f, g, b1, b2, c, d⟩, i1, i2, j1⟩)
    · exact .inl ⟨a, ⟨⟨b1, b2⟩, c, d, e⟩, f⟩
    · exact .inr ⟨by decide, ⟨⟨b1, b2⟩, c, d⟩, e, f, g, ⟨u2.2 i2, by omega⟩, .inl ⟨rfl, by omega, by omega⟩⟩
    · exact .inr ⟨by decide, ⟨⟨b1, b2⟩, c, d⟩, e, f, g, ⟨u3.2 i2, by omega⟩, .inr ⟨rfl, j1, by omega⟩⟩
end Go.Proofs.Ytlcddfkhklmieaa
