/-
  What is read of bytes as a name, and as a view: what was written is read, whatever stands behind; of a shorter beginning nothing is. No condition; nothing here speaks of a program.
-/
import Derived.Test.YtgkldjolnbnehaaGe
import Derived.Test.YtgkldjolnbnehaaGd
import Derived.Test.YtgkldjolnbnehaaGa
namespace Go.Proofs.Ytgkldjolnbnehaa
open Go.RowKit

/-- What GetId answers. -/
def getIdL (s : RS) : Nm × RS :=
  if mayNm (((rUint s).1 : Int), (gotL (rUint s).2).1) then ((((rUint s).1 : Int), (gotL (rUint s).2).1), (gotL (rUint s).2).2) else ((0, (0, 0)), ⟨(gotL (rUint s).2).2.l, true⟩)
/-- So many numbers, one behind the other. -/
def uints : Nat → RS → List Nat × RS
  | 0, s => ([], s)
  | k + 1, s => ((uints k s).1 ++ [(rUint (uints k s).2).1], (rUint (uints k s).2).2)
/-- The view as it is read, ahead of whether it may be. -/
def rawV (s : RS) : Vw × RS :=
  (⟨(getIdL s).1, (getSetL (getIdL s).2 6).1, (uints (getSetL (getIdL s).2 6).1.length (getSetL (getIdL s).2 6).2).1⟩, (uints (getSetL (getIdL s).2 6).1.length (getSetL (getIdL s).2 6).2).2)
def noV : Vw := ⟨(0, (0, 0)), [], []⟩
/-- What Get answers. -/
def getL (s : RS) : Vw × RS := if (rawV s).2.bad = false ∧ mayV (rawV s).1 then rawV s else (noV, ⟨(rawV s).2.l, true⟩)

theorem uints_length : ∀ (k : Nat) (s : RS), (uints k s).1.length = k
  | 0, _ => rfl
  | k + 1, s => by simp [uints, uints_length k s]
theorem rUint_lt (s : RS) : (rUint s).1 < 18446744073709551616 := by
  unfold rUint
  split
  · simp
  · exact parse_lt _
theorem uints_u64 : ∀ (k : Nat) (s : RS), AllU64 (uints k s).1
  | 0, _ => fun x h => by simp [uints] at h
  | k + 1, s => fun x h => by
    rw [uints] at h
    rcases List.mem_append.1 h with h | h
    · exact uints_u64 k s x h
    · rw [List.mem_singleton.1 h]; exact rUint_lt _
theorem gotL_uns (s : RS) : 0 ≤ (gotL s).1.2 ∧ (gotL s).1.2 < 18446744073709551616 := by
  have := rUint_lt (rWide s 1).2
  unfold gotL
  split <;> (simp only; omega)
theorem gets_uns : ∀ (k : Nat) (s : RS), Unsigned (gets k s).1
  | 0, _, q, h => by simp [gets] at h
  | k + 1, s, q, h => by
    rw [gets] at h
    rcases List.mem_append.1 h with h | h
    · exact gets_uns k s q h
    · rw [List.mem_singleton.1 h]; exact gotL_uns _
theorem getSetL_uns (s : RS) (m : Int) : Unsigned (getSetL s m).1 := by
  unfold getSetL
  split
  · intro q h; simp at h
  · split
    · exact gets_uns _ _
    · intro q h; simp at h
theorem getSetL_lt (s : RS) (m : Int) : (getSetL s m).1.length < 256 := by
  have := rWide_lt s 1
  unfold getSetL
  split
  · simp
  · split
    · rw [gets_length]; simpa using this
    · simp
theorem getIdL_uns (s : RS) : UNm (getIdL s).1 := by
  have h1 := rUint_lt s
  have h2 := gotL_uns (rUint s).2
  unfold getIdL
  split
  · exact ⟨⟨by simp only; omega, by simp only; omega⟩, h2⟩
  · exact ⟨⟨by simp, by simp⟩, ⟨by simp, by simp⟩⟩
theorem getIdL_le (s : RS) : (getIdL s).2.l.length ≤ s.l.length := by
  have h1 := rUint_le s
  have h2 := gotL_le (rUint s).2
  unfold getIdL
  split <;> (simp only; omega)
theorem getSetL_le (s : RS) (m : Int) : (getSetL s m).2.l.length ≤ s.l.length := by
  have h1 := rWide_le s 1
  have h2 := gets_le (rWide s 1).1 (rWide s 1).2
  unfold getSetL
  split
  · simp only; omega
  · split
    · omega
    · simp only; omega
theorem uints_le : ∀ (k : Nat) (s : RS), (uints k s).2.l.length ≤ s.l.length
  | 0, _ => Nat.le_refl _
  | k + 1, s => by
    have h1 := uints_le k s
    have h2 := rUint_le (uints k s).2
    simp only [uints]
    omega

/-! What was written is read. -/
theorem rUint_wrote {x : Nat} (h : x < 18446744073709551616) (r : List UInt8) : rUint ⟨shortL x ++ r, false⟩ = (x, ⟨r, false⟩) := by
  have hp := parse_short h r
  have hpos : (shortL x).length ≠ 0 := by have := shortL_pos x; omega
  rw [uint_some (by rw [hp]; exact hpos), hp]
  simp
theorem getIdL_put {i : Nm} (hm : mayNm i) (hu : UNm i) (r : List UInt8) : getIdL ⟨idL i ++ r, false⟩ = (i, ⟨r, false⟩) := by
  obtain ⟨a, p⟩ := i
  have ha : ((a.toNat : Nat) : Int) = a := by have := hu.1.1; simp only at this; omega
  have h1 : rUint ⟨idL (a, p) ++ r, false⟩ = (a.toNat, ⟨putL p ++ r, false⟩) := by
    unfold idL
    rw [List.append_assoc]
    exact rUint_wrote (by have := hu.1; simp only at this; omega) _
  have h2 : gotL ⟨putL p ++ r, false⟩ = (p, ⟨r, false⟩) := gotL_put p hm.1 hu.2.2 r
  unfold getIdL
  rw [h1]
  simp only
  rw [h2]
  simp only [ha]
  rw [if_pos hm]
theorem getSetL_wrote (S : List Life) (hs : isSet S) (hu : Unsigned S) (m : Nat) (hm : S.length ≤ m) (h256 : m < 256) (t : List UInt8) : getSetL ⟨wideL (S.length % 256) 1 ++ putsL S ++ t, false⟩ (m : Int) = (S, ⟨t, false⟩) := by
  rw [Nat.mod_eq_of_lt (by omega)]
  have hmay : ∀ q ∈ S, mayL q := fun q hq => by
    obtain ⟨k, hk, rfl⟩ := List.getElem_of_mem hq
    have := (hs k hk).1
    rwa [atL_lt hk] at this
  have h1 : rWide ⟨wideL S.length 1 ++ putsL S ++ t, false⟩ 1 = (S.length, ⟨putsL S ++ t, false⟩) := by
    rw [List.append_assoc]
    exact rWide_one _ (by omega) _
  have h2 : gets S.length ⟨putsL S ++ t, false⟩ = (S, ⟨t, false⟩) := by
    rw [gets_put S hmay hu t S.length (Nat.le_refl _)]
    simp [putsL]
  unfold getSetL
  rw [h1]
  simp only
  rw [if_neg (by omega), h2]
  simp only
  rw [if_pos hs]
theorem uints_put (l : List Nat) (hu : AllU64 l) (r : List UInt8) : ∀ k, k ≤ l.length → uints k ⟨shortsL l ++ r, false⟩ = (l.take k, ⟨shortsL (l.drop k) ++ r, false⟩)
  | 0, _ => by simp [uints]
  | k + 1, hk => by
    have hk' : k < l.length := by omega
    rw [uints, uints_put l hu r k (by omega)]
    simp only
    have hd : l.drop k = l[k] :: l.drop (k + 1) := List.drop_eq_getElem_cons hk'
    rw [hd, shortsL_cons, List.append_assoc, rUint_wrote (hu _ (List.getElem_mem hk')) _]
    have ht : l.take (k + 1) = l.take k ++ [l[k]] := by rw [List.take_add_one, List.getElem?_eq_getElem hk']; rfl
    rw [ht]
theorem mayV_parts {v : Vw} (h : mayV v) : mayNm v.id ∧ v.ms.length ≤ 6 ∧ isSet v.ms ∧ v.ss.length = v.ms.length := by
  unfold mayV at h
  split at h
  · rename_i h0
    obtain ⟨h1, h2⟩ := h
    have e1 : v.ms = [v.id.2] := by rw [h2]; rfl
    have e2 : v.ss = [0] := by rw [h2]; rfl
    refine ⟨⟨h1, .inl h0⟩, by rw [e1]; simp, ?_, by rw [e1, e2]; rfl⟩
    rw [e1]
    intro k hk
    obtain rfl : k = 0 := by simpa using hk
    exact ⟨h1, fun h => absurd h (by omega)⟩
  · exact ⟨h.1, h.2.2.1, h.2.2.2.1, h.2.2.2.2.2.1⟩
theorem rawV_put {v : Vw} (h : mayV v) (hi : UNm v.id) (hu : Unsigned v.ms) (h64 : AllU64 v.ss) (t : List UInt8) : rawV ⟨viewL v ++ t, false⟩ = (v, ⟨t, false⟩) := by
  obtain ⟨h1, h2, h3, h4⟩ := mayV_parts h
  have e : viewL v ++ t = idL v.id ++ (wideL (v.ms.length % 256) 1 ++ putsL v.ms ++ (shortsL v.ss ++ t)) := by simp [viewL, List.append_assoc]
  have hs := getSetL_wrote v.ms h3 hu 6 h2 (by omega) (shortsL v.ss ++ t)
  have hn := uints_put v.ss h64 t v.ms.length (by omega)
  unfold rawV
  rw [e, getIdL_put h1 hi]
  simp only
  rw [show ((6 : Nat) : Int) = 6 from rfl] at hs
  rw [hs]
  simp only
  rw [hn]
  rw [← h4]
  simp [shortsL]
theorem getL_put {v : Vw} (h : mayV v) (hi : UNm v.id) (hu : Unsigned v.ms) (h64 : AllU64 v.ss) (t : List UInt8) : getL ⟨viewL v ++ t, false⟩ = (v, ⟨t, false⟩) := by
  unfold getL
  rw [rawV_put h hi hu h64 t]
  rw [if_pos ⟨rfl, h⟩]

/-! With more behind. -/
def Ext {α : Type} (f : RS → α × RS) : Prop := ∀ l t, (f ⟨l, false⟩).2.bad = false → f ⟨l ++ t, false⟩ = ((f ⟨l, false⟩).1, ⟨(f ⟨l, false⟩).2.l ++ t, false⟩)
def Stick {α : Type} (f : RS → α × RS) : Prop := ∀ l, (f ⟨l, true⟩).2.bad = true
theorem RS.ok {s : RS} (h : s.bad = false) : s = ⟨s.l, false⟩ := by cases s; simp_all
theorem RS.no {s : RS} (h : s.bad = true) : s = ⟨s.l, true⟩ := by cases s; simp_all
theorem Stick.back {α : Type} {f : RS → α × RS} (h : Stick f) {s : RS} (hb : (f s).2.bad = false) : s.bad = false := by
  cases hs : s.bad with
  | false => rfl
  | true => rw [RS.no hs, h] at hb; cases hb
theorem rUint_stick : Stick rUint := fun l => by simp [rUint]
theorem rWide_stick (n : Nat) : Stick (rWide · n) := fun l => by simp [rWide]
theorem rUint_ext : Ext rUint := fun l t h => by
  have hp : (parse l).2 ≠ 0 := fun e => by rw [uint_none e] at h; cases h
  obtain ⟨h1, h2⟩ := parse_form l hp
  have e : l = shortL (parse l).1 ++ l.drop (parse l).2 := by
    have := List.take_append_drop (parse l).2 l
    rw [h2] at this
    exact this.symm
  have hp2 : parse (l ++ t) = parse l := by
    have h3 := parse_short (parse_lt l) (l.drop (parse l).2 ++ t)
    rw [← List.append_assoc, ← e] at h3
    rw [h3, ← h1]
  rw [uint_some (by rw [hp2]; exact hp), uint_some hp, hp2]
  simp only
  rw [List.drop_append_of_le_length (parse_le l)]
theorem rWide_ext (n : Nat) : Ext (rWide · n) := fun l t h => by
  have hn : ¬ l.length < n := fun e => by
    simp only [rWide] at h
    rw [if_pos (.inr e)] at h
    cases h
  simp only [rWide]
  rw [if_neg (by simp; omega), if_neg (by simp; omega)]
  simp only
  rw [List.take_append_of_le_length (by omega), List.drop_append_of_le_length (by omega)]
theorem gotL_stick : Stick gotL := fun l => by
  have h1 := rWide_stick 1 l
  have h2 : (rUint (rWide ⟨l, true⟩ 1).2).2.bad = true := by
    have := RS.no h1
    simp only at this
    rw [this]
    exact rUint_stick _
  unfold gotL
  split
  · exact h2
  · rfl
theorem gotL_ext : Ext gotL := fun l t h => by
  have hm : mayL (((rWide ⟨l, false⟩ 1).1 : Int), ((rUint (rWide ⟨l, false⟩ 1).2).1 : Int)) := by
    by_cases hm : mayL (((rWide ⟨l, false⟩ 1).1 : Int), ((rUint (rWide ⟨l, false⟩ 1).2).1 : Int))
    · exact hm
    · unfold gotL at h
      rw [if_neg hm] at h
      cases h
  have h2 : (rUint (rWide ⟨l, false⟩ 1).2).2.bad = false := by
    unfold gotL at h
    rw [if_pos hm] at h
    exact h
  have h1 : (rWide ⟨l, false⟩ 1).2.bad = false := rUint_stick.back h2
  have e1 := rWide_ext 1 l t h1
  have ok1 := RS.ok h1
  have e2 := rUint_ext (rWide ⟨l, false⟩ 1).2.l t (by rw [← ok1]; exact h2)
  rw [← ok1] at e2
  simp only at e1
  unfold gotL
  rw [e1]
  simp only
  rw [e2]
  simp only
  rw [if_pos hm, if_pos hm]
theorem gets_stick : ∀ k, Stick (gets k)
  | 0 => fun l => rfl
  | k + 1 => fun l => by
    have h1 := gets_stick k l
    simp only [gets]
    rw [RS.no h1]
    exact gotL_stick _
theorem gets_ext : ∀ k, Ext (gets k)
  | 0 => fun l t _ => rfl
  | k + 1 => fun l t h => by
    simp only [gets] at h
    have h1 : (gets k ⟨l, false⟩).2.bad = false := gotL_stick.back h
    have e1 := gets_ext k l t h1
    have ok1 := RS.ok h1
    have e2 := gotL_ext (gets k ⟨l, false⟩).2.l t (by rw [← ok1]; exact h)
    rw [← ok1] at e2
    simp only [gets]
    rw [e1]
    simp only
    rw [e2]
theorem getSetL_stick (m : Int) : Stick (getSetL · m) := fun l => by
  have h1 := rWide_stick 1 l
  have h2 : (gets (rWide ⟨l, true⟩ 1).1 (rWide ⟨l, true⟩ 1).2).2.bad = true := by
    have := RS.no h1
    simp only at this
    rw [this]
    exact gets_stick _ _
  simp only [getSetL]
  split
  · rfl
  · split
    · exact h2
    · rfl
theorem getSetL_ext (m : Int) : Ext (getSetL · m) := fun l t h => by
  simp only [getSetL] at h ⊢
  by_cases hm : m < ((rWide ⟨l, false⟩ 1).1 : Int)
  · rw [if_pos hm] at h; cases h
  · rw [if_neg hm] at h
    by_cases hs : setUpTo (gets (rWide ⟨l, false⟩ 1).1 (rWide ⟨l, false⟩ 1).2).1 (rWide ⟨l, false⟩ 1).1
    · rw [if_pos hs] at h
      have h1 : (rWide ⟨l, false⟩ 1).2.bad = false := (gets_stick _).back h
      have e1 := rWide_ext 1 l t h1
      have ok1 := RS.ok h1
      have e2 := gets_ext (rWide ⟨l, false⟩ 1).1 (rWide ⟨l, false⟩ 1).2.l t (by rw [← ok1]; exact h)
      rw [← ok1] at e2
      simp only at e1
      rw [e1]
      simp only
      rw [e2]
      simp only
      rw [if_neg hm, if_pos hs, if_neg hm, if_pos hs]
    · rw [if_neg hs] at h; cases h
theorem getIdL_stick : Stick getIdL := fun l => by
  have h1 := rUint_stick l
  have h2 : (gotL (rUint ⟨l, true⟩).2).2.bad = true := by
    rw [RS.no h1]
    exact gotL_stick _
  unfold getIdL
  split
  · exact h2
  · rfl
theorem getIdL_ext : Ext getIdL := fun l t h => by
  by_cases hm : mayNm (((rUint ⟨l, false⟩).1 : Int), (gotL (rUint ⟨l, false⟩).2).1)
  · have h2 : (gotL (rUint ⟨l, false⟩).2).2.bad = false := by
      unfold getIdL at h
      rw [if_pos hm] at h
      exact h
    have h1 : (rUint ⟨l, false⟩).2.bad = false := gotL_stick.back h2
    have e1 := rUint_ext l t h1
    have ok1 := RS.ok h1
    have e2 := gotL_ext (rUint ⟨l, false⟩).2.l t (by rw [← ok1]; exact h2)
    rw [← ok1] at e2
    unfold getIdL
    rw [e1]
    simp only
    rw [e2]
    simp only
    rw [if_pos hm, if_pos hm]
  · unfold getIdL at h
    rw [if_neg hm] at h
    cases h
theorem uints_stick : ∀ k, Stick (uints k)
  | 0 => fun l => rfl
  | k + 1 => fun l => by
    have h1 := uints_stick k l
    simp only [uints]
    rw [RS.no h1]
    exact rUint_stick _
theorem uints_ext : ∀ k, Ext (uints k)
  | 0 => fun l t _ => rfl
  | k + 1 => fun l t h => by
    simp only [uints] at h
    have h1 : (uints k ⟨l, false⟩).2.bad = false := rUint_stick.back h
    have e1 := uints_ext k l t h1
    have ok1 := RS.ok h1
    have e2 := rUint_ext (uints k ⟨l, false⟩).2.l t (by rw [← ok1]; exact h)
    rw [← ok1] at e2
    simp only [uints]
    rw [e1]
    simp only
    rw [e2]
theorem rawV_ext : Ext rawV := fun l t h => by
  simp only [rawV] at h
  have h2 : (getSetL (getIdL ⟨l, false⟩).2 6).2.bad = false := (uints_stick _).back h
  have h1 : (getIdL ⟨l, false⟩).2.bad = false := (getSetL_stick 6).back (s := (getIdL ⟨l, false⟩).2) h2
  have e1 := getIdL_ext l t h1
  have ok1 := RS.ok h1
  have e2 := getSetL_ext 6 (getIdL ⟨l, false⟩).2.l t (by simp only; rw [← ok1]; exact h2)
  simp only at e2
  rw [← ok1] at e2
  have ok2 := RS.ok h2
  have e3 := uints_ext (getSetL (getIdL ⟨l, false⟩).2 6).1.length (getSetL (getIdL ⟨l, false⟩).2 6).2.l t (by rw [← ok2]; exact h)
  rw [← ok2] at e3
  simp only [rawV]
  rw [e1]
  simp only
  rw [e2]
  simp only
  rw [e3]
/-- Of a beginning of a view's bytes that is not all of it, nothing is read. -/
theorem getL_cut {v : Vw} (h : mayV v) (hi : UNm v.id) (hu : Unsigned v.ms) (h64 : AllU64 v.ss) (k : Nat) (hk : k < (viewL v).length) : (getL ⟨(viewL v).take k, false⟩).1 = noV ∧ (getL ⟨(viewL v).take k, false⟩).2.bad = true := by
  have hb : (rawV ⟨(viewL v).take k, false⟩).2.bad = true := by
    cases hb : (rawV ⟨(viewL v).take k, false⟩).2.bad with
    | true => rfl
    | false =>
      have e := rawV_ext ((viewL v).take k) ((viewL v).drop k) hb
      rw [List.take_append_drop] at e
      have e2 := rawV_put h hi hu h64 []
      rw [List.append_nil] at e2
      rw [e2] at e
      have e3 : ([] : List UInt8) = (rawV ⟨(viewL v).take k, false⟩).2.l ++ (viewL v).drop k := by
        have := congrArg (fun z : Vw × RS => z.2.l) e
        simpa using this
      have e4 := congrArg List.length e3
      simp at e4
      omega
  unfold getL
  rw [if_neg (by rw [hb]; simp)]
  exact ⟨rfl, rfl⟩
theorem viewL_pos (v : Vw) : 0 < (viewL v).length := by
  unfold viewL
  simp only [List.length_append, wideL_length]
  omega
theorem viewL_le {v : Vw} (hi : UNm v.id) (hu : Unsigned v.ms) (h64 : AllU64 v.ss) : (viewL v).length ≤ 22 + v.ms.length * 11 + 10 * v.ss.length := by
  have h1 := idL_le v.id hi
  have h2 := putsL_le v.ms hu
  have h3 := shortsL_le v.ss h64
  unfold viewL
  simp only [List.length_append, wideL_length]
  omega
end Go.Proofs.Ytgkldjolnbnehaa
