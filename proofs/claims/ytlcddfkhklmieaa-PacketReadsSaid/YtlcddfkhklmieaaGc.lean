/-
  Lists of lives as sets: their order, a list's lives in that order, each once; what unions, meets and what is left obey. No condition.
-/
import Derived.Lib.SlicesCompact
import Derived.Sort.Statements
import Derived.Test.YtlcddfkhklmieaaGb
import Derived.Test.YtlcddfkhklmieaaGa
import Derived.Sort.Grow
import Derived.Deep.RegionHeld
import Derived.Shelf.Abstract
import Derived.Laws.StructEq
import Derived.Shelf.SlicesE.Equal
import Derived.Lib.SliceRun
import Derived.Shelf.SlSortCmp.QuietGrown
import Derived.Lib.SmallJoins
namespace Go.Proofs.Ytlcddfkhklmieaa
open Go.Lib Go.Sort

/-- A life: its node, its number. -/
abbrev Life := Int × Int
def before (p q : Life) : Prop := p.1 < q.1 ∨ (p.1 = q.1 ∧ p.2 < q.2)
instance (p q : Life) : Decidable (before p q) := inferInstanceAs (Decidable (_ ∨ _))
theorem before_irrefl (p : Life) : ¬ before p p := by unfold before; omega
theorem before_trans {p q r : Life} (h : before p q) (k : before q r) : before p r := by unfold before at *; omega
theorem before_asymm {p q : Life} (h : before p q) : ¬ before q p := fun k => before_irrefl p (before_trans h k)
theorem before_total (p q : Life) : before p q ∨ p = q ∨ before q p := by
  by_cases e : p = q
  · exact .inr (.inl e)
  · have : p.1 ≠ q.1 ∨ p.2 ≠ q.2 := by
      by_cases h1 : p.1 = q.1
      · exact .inr fun h2 => e (Prod.ext h1 h2)
      · exact .inl h1
    unfold before
    omega
/-- How two lives stand. -/
def cmpL (p q : Life) : Int := if before p q then -1 else if before q p then 1 else 0
theorem cmpL_lt (p q : Life) : cmpL p q < 0 ↔ before p q := by
  unfold cmpL
  by_cases h : before p q
  · simp [h]
  · by_cases h2 : before q p <;> simp [h, h2]
theorem cmpL_ge (p q : Life) : 0 ≤ cmpL p q ↔ ¬ before p q := by rw [← cmpL_lt]; omega
theorem cmpL_zero (p q : Life) : cmpL p q = 0 ↔ p = q := by
  unfold cmpL
  by_cases h : before p q
  · simp [h]; rintro rfl; exact before_irrefl _ h
  · by_cases h2 : before q p
    · simp [h, h2]; rintro rfl; exact before_irrefl _ h2
    · simp [h, h2]
      rcases before_total p q with h' | h' | h'
      · exact absurd h' h
      · exact h'
      · exact absurd h' h2
theorem cmpL_neg (p q : Life) : cmpL q p = - cmpL p q := by
  unfold cmpL
  by_cases h : before p q
  · simp [h, before_asymm h]
  · by_cases h2 : before q p <;> simp [h, h2]
theorem cmpL_range (p q : Life) : cmpL p q = -1 ∨ cmpL p q = 0 ∨ cmpL p q = 1 := by
  unfold cmpL
  by_cases h : before p q
  · simp [h]
  · by_cases h2 : before q p <;> simp [h, h2]

abbrev Rising (s : List Life) : Prop := s.Pairwise before
theorem rising_ext : ∀ (s t : List Life), Rising s → Rising t → (∀ p, p ∈ s ↔ p ∈ t) → s = t
  | [], [], _, _, _ => rfl
  | [], b :: t, _, _, h => absurd ((h b).2 (by simp)) (by simp)
  | a :: s, [], _, _, h => absurd ((h a).1 (by simp)) (by simp)
  | a :: s, b :: t, hs, ht, h => by
    have hs' := List.pairwise_cons.1 hs
    have ht' := List.pairwise_cons.1 ht
    have e : a = b := by
      rcases List.mem_cons.1 ((h a).1 (by simp)) with e | e
      · exact e
      · rcases List.mem_cons.1 ((h b).2 (by simp)) with e2 | e2
        · exact e2.symm
        · exact absurd (ht'.1 a e) (before_asymm (hs'.1 b e2))
    subst e
    rw [rising_ext s t hs'.2 ht'.2 fun p => ⟨fun hp => ?_, fun hp => ?_⟩]
    · rcases List.mem_cons.1 ((h p).1 (List.mem_cons_of_mem _ hp)) with e | e
      · subst e; exact absurd (hs'.1 _ hp) (before_irrefl _)
      · exact e
    · rcases List.mem_cons.1 ((h p).2 (List.mem_cons_of_mem _ hp)) with e | e
      · subst e; exact absurd (ht'.1 _ hp) (before_irrefl _)
      · exact e

/-- p put where it belongs. -/
def insL (p : Life) (s : List Life) : List Life :=
  if p ∈ s then s else s.takeWhile (fun q => decide (before q p)) ++ p :: s.dropWhile (fun q => decide (before q p))
theorem mem_insL (p q : Life) (s : List Life) : q ∈ insL p s ↔ q = p ∨ q ∈ s := by
  unfold insL
  by_cases h : p ∈ s
  · rw [if_pos h]
    constructor
    · exact .inr
    · rintro (rfl | h2)
      · exact h
      · exact h2
  · rw [if_neg h]
    have e := List.takeWhile_append_dropWhile (p := fun q => decide (before q p)) (l := s)
    constructor
    · intro hq
      rcases List.mem_append.1 hq with hq | hq
      · exact .inr (by rw [← e]; exact List.mem_append_left _ hq)
      · rcases List.mem_cons.1 hq with hq | hq
        · exact .inl hq
        · exact .inr (by rw [← e]; exact List.mem_append_right _ hq)
    · rintro (rfl | hq)
      · simp
      · rw [← e] at hq
        rcases List.mem_append.1 hq with hq | hq
        · exact List.mem_append_left _ hq
        · exact List.mem_append_right _ (List.mem_cons_of_mem _ hq)
theorem take_before (p : Life) : ∀ (s : List Life), ∀ q, q ∈ s.takeWhile (fun q => decide (before q p)) → before q p
  | [], q, h => by cases h
  | a :: s, q, h => by
    rw [List.takeWhile_cons] at h
    by_cases ha : before a p
    · rw [if_pos (by simpa using ha)] at h
      rcases List.mem_cons.1 h with e | e
      · rw [e]; exact ha
      · exact take_before p s q e
    · rw [if_neg (by simpa using ha)] at h
      cases h
theorem drop_behind (p : Life) : ∀ (s : List Life), Rising s → p ∉ s → ∀ q, q ∈ s.dropWhile (fun q => decide (before q p)) → before p q
  | [], _, _, q, h => by cases h
  | a :: s, hs, hp, q, h => by
    have hs' := List.pairwise_cons.1 hs
    rw [List.dropWhile_cons] at h
    by_cases ha : before a p
    · rw [if_pos (by simpa using ha)] at h
      exact drop_behind p s hs'.2 (fun hh => hp (List.mem_cons_of_mem _ hh)) q h
    · rw [if_neg (by simpa using ha)] at h
      have hap : before p a := by
        rcases before_total p a with h1 | h1 | h1
        · exact h1
        · subst h1; exact absurd (by simp) hp
        · exact absurd h1 ha
      rcases List.mem_cons.1 h with e | e
      · rw [e]; exact hap
      · exact before_trans hap (hs'.1 q e)
theorem rising_insL (p : Life) (s : List Life) (hs : Rising s) : Rising (insL p s) := by
  unfold insL
  by_cases h : p ∈ s
  · rw [if_pos h]; exact hs
  · rw [if_neg h]
    have e := List.takeWhile_append_dropWhile (p := fun q => decide (before q p)) (l := s)
    have hs2 := hs
    rw [← e] at hs2
    obtain ⟨h1, h2, h3⟩ := List.pairwise_append.1 hs2
    refine List.pairwise_append.2 ⟨h1, List.pairwise_cons.2 ⟨fun q hq => drop_behind p s hs h q hq, h2⟩, fun a ha b hb => ?_⟩
    rcases List.mem_cons.1 hb with e2 | e2
    · rw [e2]; exact take_before p s a ha
    · exact h3 a ha b e2

/-- The lives of a list in their order, each once. -/
def setL (l : List Life) : List Life := l.foldl (fun s p => insL p s) []
theorem setL_foldl : ∀ (l s : List Life), Rising s → Rising (l.foldl (fun s p => insL p s) s) ∧ ∀ q, q ∈ l.foldl (fun s p => insL p s) s ↔ q ∈ s ∨ q ∈ l
  | [], s, hs => ⟨hs, fun q => by simp⟩
  | a :: l, s, hs => by
    obtain ⟨h1, h2⟩ := setL_foldl l (insL a s) (rising_insL a s hs)
    refine ⟨h1, fun q => ?_⟩
    rw [List.foldl_cons, h2, mem_insL, List.mem_cons]
    constructor
    · rintro ((h | h) | h)
      · exact .inr (.inl h)
      · exact .inl h
      · exact .inr (.inr h)
    · rintro (h | h | h)
      · exact .inl (.inr h)
      · exact .inl (.inl h)
      · exact .inr h
theorem rising_setL (l : List Life) : Rising (setL l) := (setL_foldl l [] List.Pairwise.nil).1
theorem mem_setL (l : List Life) (q : Life) : q ∈ setL l ↔ q ∈ l := by
  rw [setL, (setL_foldl l [] List.Pairwise.nil).2]
  simp
theorem setL_eq {s l : List Life} (hs : Rising s) (h : ∀ p, p ∈ s ↔ p ∈ l) : s = setL l := rising_ext _ _ hs (rising_setL l) fun p => (h p).trans (mem_setL l p).symm
theorem setL_self {s : List Life} (hs : Rising s) : setL s = s := (setL_eq hs fun _ => Iff.rfl).symm
theorem setL_idem (l : List Life) : setL (setL l) = setL l := setL_self (rising_setL l)
theorem setL_congr {l m : List Life} (h : ∀ p, p ∈ l ↔ p ∈ m) : setL l = setL m := setL_eq (rising_setL l) fun p => (mem_setL l p).trans (h p)
theorem setL_iff {l m : List Life} : setL l = setL m ↔ ∀ p, p ∈ l ↔ p ∈ m := ⟨fun h p => by rw [← mem_setL l, h, mem_setL], setL_congr⟩
theorem setL_snoc (l : List Life) (p : Life) : setL (l ++ [p]) = insL p (setL l) := by simp [setL, List.foldl_append]
theorem insL_length (p : Life) (s : List Life) : (insL p s).length ≤ s.length + 1 := by
  unfold insL
  by_cases h : p ∈ s
  · rw [if_pos h]; omega
  · rw [if_neg h]
    have e := congrArg List.length (List.takeWhile_append_dropWhile (p := fun q => decide (before q p)) (l := s))
    simp only [List.length_append, List.length_cons] at *
    omega
theorem setL_fold_le : ∀ (l s : List Life), (l.foldl (fun s p => insL p s) s).length ≤ s.length + l.length
  | [], s => by simp
  | a :: l, s => by
    have := setL_fold_le l (insL a s)
    have := insL_length a s
    simp only [List.foldl_cons, List.length_cons]
    omega
theorem setL_length (l : List Life) : (setL l).length ≤ l.length := by
  have := setL_fold_le l []
  simpa [setL] using this

/-- Those that a list keeps of another's set. -/
theorem setL_filter (f : Life → Bool) (l : List Life) : (setL l).filter f = setL (l.filter f) :=
  setL_eq ((rising_setL l).sublist List.filter_sublist) fun p => by simp [List.mem_filter, mem_setL]
def meetL (a b : List Life) : List Life := setL (a.filter fun p => decide (p ∈ b))
def minusL (a b : List Life) : List Life := setL (a.filter fun p => !decide (p ∈ b))
theorem mem_meetL (a b : List Life) (p : Life) : p ∈ meetL a b ↔ p ∈ a ∧ p ∈ b := by simp [meetL, mem_setL]
theorem mem_minusL (a b : List Life) (p : Life) : p ∈ minusL a b ↔ p ∈ a ∧ p ∉ b := by simp [minusL, mem_setL]

/-! What a list that is put in order comes to behind Compact. -/
theorem keeps_mem {α : Type} [Inhabited α] [DecidableEq α] (d : Array α) : ∀ m, m ≤ d.size → ∀ x, x ∈ compactUpTo d m ↔ ∃ j, j < m ∧ d[j]! = x
  | 0, _, x => by simp [compactUpTo]
  | m + 1, hm, x => by
    rw [compactUpTo_succ, List.mem_append, keeps_mem d m (by omega) x]
    by_cases hk : keeps d m = true
    · rw [if_pos hk]
      constructor
      · rintro (⟨j, hj, e⟩ | h)
        · exact ⟨j, by omega, e⟩
        · exact ⟨m, by omega, by simpa using (List.mem_singleton.1 h).symm⟩
      · rintro ⟨j, hj, e⟩
        by_cases h : j = m
        · subst h; exact .inr (by simp [e])
        · exact .inl ⟨j, by omega, e⟩
    · rw [if_neg hk]
      have hd : m ≠ 0 ∧ d[m]! = d[m - 1]! := by
        have : ¬ (m = 0 ∨ d[m]! ≠ d[m - 1]!) := fun h => hk (by simp [keeps, h])
        exact ⟨fun h => this (.inl h), by
          by_cases e : d[m]! = d[m - 1]!
          · exact e
          · exact absurd (.inr e) this⟩
      constructor
      · rintro (⟨j, hj, e⟩ | h)
        · exact ⟨j, by omega, e⟩
        · cases h
      · rintro ⟨j, hj, e⟩
        by_cases h : j = m
        · subst h; exact .inl ⟨j - 1, by omega, by rw [← hd.2]; exact e⟩
        · exact .inl ⟨j, by omega, e⟩
/-- A row whose neighbours never fall: what Compact leaves rises strictly. -/
theorem compact_rising {α : Type} {R : α → α → Prop} [Inhabited α] [DecidableEq α] (trans : ∀ x y z, R x y → R y z → R x z) (tot : ∀ x y, ¬ R y x → x = y ∨ R x y) (d : Array α) (hd : ∀ i j, i < j → j < d.size → ¬ R d[j]! d[i]!) :
    ∀ m, m ≤ d.size → (compactUpTo d m).Pairwise R
  | 0, _ => by simp [compactUpTo]
  | m + 1, hm => by
    rw [compactUpTo_succ]
    by_cases hk : keeps d m = true
    · rw [if_pos hk]
      refine List.pairwise_append.2 ⟨compact_rising trans tot d hd m (by omega), by simp, fun a ha b hb => ?_⟩
      obtain rfl : b = d[m]! := by simpa using hb
      obtain ⟨j, hj, rfl⟩ := (keeps_mem d m (by omega) a).1 ha
      have hk' : m = 0 ∨ d[m]! ≠ d[m - 1]! := by simpa [keeps] using hk
      have hne : d[m]! ≠ d[m - 1]! := by
        rcases hk' with h | h
        · omega
        · exact h
      have h1 : R d[m - 1]! d[m]! := by
        rcases tot _ _ (hd (m - 1) m (by omega) (by omega)) with h | h
        · exact absurd h.symm hne
        · exact h
      by_cases e : j = m - 1
      · subst e; exact h1
      · rcases tot _ _ (hd j (m - 1) (by omega) (by omega)) with h | h
        · rw [h]; exact h1
        · exact trans _ _ _ h h1
    · rw [if_neg hk, List.append_nil]
      exact compact_rising trans tot d hd m (by omega)
theorem ltOf_cmpL (p q : Life) : decide (cmpL p q < 0) = decide (before p q) := by
  rw [Bool.eq_iff_iff, decide_eq_true_iff, decide_eq_true_iff, cmpL_lt]
theorem mem_toList_get {α : Type} [Inhabited α] (d : Array α) (x : α) : x ∈ d.toList ↔ ∃ j, j < d.size ∧ d[j]! = x := by
  constructor
  · intro h
    obtain ⟨j, hj, rfl⟩ := List.getElem_of_mem h
    have hj' : j < d.size := by simpa using hj
    exact ⟨j, hj', by rw [getElem!_pos d j hj']; simp⟩
  · rintro ⟨j, hj, rfl⟩
    rw [getElem!_pos d j hj]
    exact Array.getElem_mem_toList hj
/-- Put in order, and compacted: the list's set. -/
theorem compact_set (l : List Life) (d : Array Life) (hp : d.toList.Perm l) (hs : ∀ i j, i < j → j < d.size → ¬ before d[j]! d[i]!) : compactUpTo d d.size = setL l :=
  setL_eq (compact_rising (R := before) (fun _ _ _ => before_trans) (fun x y h => by
      rcases before_total x y with h1 | h1 | h1
      · exact .inr h1
      · exact .inl h1
      · exact absurd h1 h) d hs d.size (Nat.le_refl _)) fun p => by
    rw [keeps_mem d d.size (Nat.le_refl _) p]
    exact (mem_toList_get d p).symm.trans hp.mem_iff

/-- May a life be? -/
def mayL (p : Life) : Prop := 1 ≤ p.1 ∧ p.1 ≤ 10 ∧ 0 < p.2
instance (p : Life) : Decidable (mayL p) := inferInstanceAs (Decidable (_ ∧ _))
/-- The life at place k. -/
abbrev atL (l : List Life) (k : Nat) : Life := l.getD k (0, 0)
/-- Up to place n it is a set. -/
def setUpTo (l : List Life) (n : Nat) : Prop := ∀ i, i < n → mayL (atL l i) ∧ (0 < i → before (atL l (i - 1)) (atL l i))
instance (l : List Life) (n : Nat) : Decidable (setUpTo l n) := inferInstanceAs (Decidable (∀ i, i < n → _))
abbrev isSet (l : List Life) : Prop := setUpTo l l.length
theorem atL_lt {l : List Life} {k : Nat} (h : k < l.length) : atL l k = l[k] := by simp [atL, List.getD, h]
theorem atL_mem {l : List Life} {k : Nat} (h : k < l.length) : atL l k ∈ l := by rw [atL_lt h]; exact List.getElem_mem h
theorem setUpTo_rising {s : List Life} (hs : Rising s) (hm : ∀ p, p ∈ s → mayL p) : isSet s := fun i hi => ⟨hm _ (atL_mem hi), fun h0 => by
  rw [atL_lt hi, atL_lt (show i - 1 < s.length by omega)]
  exact List.pairwise_iff_getElem.1 hs (i - 1) i (by omega) hi (by omega)⟩
/-- The nodes of lives that rise, each once. -/
def nodesL (l : List Life) : List Int := compactUpTo ((setL l).map (·.1)).toArray (setL l).length
end Go.Proofs.Ytlcddfkhklmieaa
/-
  Lives as bytes: what Put lays, what Get and GetSet take; there and back. No condition; nothing here speaks of a program.
-/
namespace Go.Proofs.Ytlcddfkhklmieaa
set_option maxRecDepth 20000
open Go.RowKit

/-- A life's node, its lowest byte alone. -/
def lowB (q : Life) : Nat := (q.1 % 256).toNat
theorem lowB_lt (q : Life) : lowB q < 256 := by unfold lowB; omega
def putL (q : Life) : List UInt8 := wideL (lowB q) 1 ++ shortL q.2.toNat
def putsL (s : List Life) : List UInt8 := s.flatMap putL
theorem putsL_nil : putsL [] = [] := rfl
theorem putsL_cons (q : Life) (s : List Life) : putsL (q :: s) = putL q ++ putsL s := rfl
theorem putsL_append (s t : List Life) : putsL (s ++ t) = putsL s ++ putsL t := by simp [putsL]
abbrev Unsigned (s : List Life) : Prop := ∀ q ∈ s, 0 ≤ q.2 ∧ q.2 < 18446744073709551616
theorem putL_le (q : Life) (h : q.2 < 18446744073709551616) : (putL q).length ≤ 11 := by
  unfold putL
  have h9 : (18446744073709551616 : Nat) ≤ 128 ^ (9 + 1) := by decide
  have h8 : q.2.toNat < 128 ^ (9 + 1) := by omega
  have := shortL_le 9 q.2.toNat h8
  rw [List.length_append, wideL_length]
  omega
theorem putsL_le : ∀ (s : List Life), Unsigned s → (putsL s).length ≤ s.length * 11
  | [], _ => by simp [putsL]
  | q :: s, h => by
    have h1 := putsL_le s (fun x hx => h x (List.mem_cons_of_mem _ hx))
    have h2 := putL_le q (h q (by simp)).2
    rw [putsL_cons, List.length_append, List.length_cons]
    omega
theorem putsL_take_succ (s : List Life) (k : Nat) (hk : k < s.length) : putsL (s.take (k + 1)) = putsL (s.take k) ++ wideL (lowB (atL s k)) 1 ++ shortL (atL s k).2.toNat := by
  rw [List.take_add_one, List.getElem?_eq_getElem hk, putsL_append, atL_lt hk]
  simp [putsL, putL]

/-! What Get and GetSet answer. -/
def gotL (s : RS) : Life × RS :=
  if mayL (((rWide s 1).1 : Int), ((rUint (rWide s 1).2).1 : Int)) then ((((rWide s 1).1 : Int), ((rUint (rWide s 1).2).1 : Int)), (rUint (rWide s 1).2).2) else ((0, 0), ⟨(rUint (rWide s 1).2).2.l, true⟩)
def gets : Nat → RS → List Life × RS
  | 0, s => ([], s)
  | k + 1, s => ((gets k s).1 ++ [(gotL (gets k s).2).1], (gotL (gets k s).2).2)
theorem gets_length : ∀ (k : Nat) (s : RS), (gets k s).1.length = k
  | 0, _ => rfl
  | k + 1, s => by simp [gets, gets_length k s]
theorem gotL_pos (s : RS) : 0 ≤ (gotL s).1.2 := by
  unfold gotL
  split <;> simp
theorem gets_pos : ∀ (k : Nat) (s : RS), ∀ q ∈ (gets k s).1, 0 ≤ q.2
  | 0, _, q, h => by simp [gets] at h
  | k + 1, s, q, h => by
    rw [gets] at h
    rcases List.mem_append.1 h with h | h
    · exact gets_pos k s q h
    · rw [List.mem_singleton.1 h]; exact gotL_pos _
theorem rWide_le (s : RS) (n : Nat) : (rWide s n).2.l.length ≤ s.l.length := by
  unfold rWide
  split
  · exact Nat.le_refl _
  · simp
theorem rUint_le (s : RS) : (rUint s).2.l.length ≤ s.l.length := by
  unfold rUint
  split
  · exact Nat.le_refl _
  · simp
theorem gotL_le (s : RS) : (gotL s).2.l.length ≤ s.l.length := by
  have h1 := rUint_le (rWide s 1).2
  have h2 := rWide_le s 1
  unfold gotL
  split <;> (simp only; omega)
theorem gets_le : ∀ (k : Nat) (s : RS), (gets k s).2.l.length ≤ s.l.length
  | 0, _ => Nat.le_refl _
  | k + 1, s => by
    have h1 := gets_le k s
    have h2 := gotL_le (gets k s).2
    simp only [gets]
    omega
def getSetL (s : RS) (most : Int) : List Life × RS :=
  if most < ((rWide s 1).1 : Int) then ([], ⟨(rWide s 1).2.l, true⟩)
  else if setUpTo (gets (rWide s 1).1 (rWide s 1).2).1 (rWide s 1).1 then gets (rWide s 1).1 (rWide s 1).2 else ([], ⟨(gets (rWide s 1).1 (rWide s 1).2).2.l, true⟩)
theorem rWide_one (b : Nat) (hb : b < 256) (r : List UInt8) : rWide ⟨wideL b 1 ++ r, false⟩ 1 = (b, ⟨r, false⟩) := by
  have e : wideL b 1 = [UInt8.ofNat b] := by simp [wideL, Nat.mod_eq_of_lt hb]
  rw [e]
  unfold rWide
  rw [if_neg (by simp)]
  have : (UInt8.ofNat b).toNat = b := toNat_lo hb
  simp [numLE, this]
theorem gotL_put (q : Life) (hm : mayL q) (hq : q.2 < 18446744073709551616) (r : List UInt8) : gotL ⟨putL q ++ r, false⟩ = (q, ⟨r, false⟩) := by
  have h0 : lowB q = q.1.toNat := by unfold lowB; have := hm.1; have := hm.2.1; omega
  have e1 : ((lowB q : Nat) : Int) = q.1 := by rw [h0]; have := hm.1; omega
  have e2 : ((q.2.toNat : Nat) : Int) = q.2 := by have := hm.2.2; omega
  have hp := parse_short (x := q.2.toNat) (by omega) r
  have hpos : (shortL q.2.toNat).length ≠ 0 := by have := shortL_pos q.2.toNat; omega
  have h1 : rWide ⟨putL q ++ r, false⟩ 1 = (lowB q, ⟨shortL q.2.toNat ++ r, false⟩) := by
    unfold putL
    rw [List.append_assoc]
    exact rWide_one _ (lowB_lt q) _
  have h2 : rUint ⟨shortL q.2.toNat ++ r, false⟩ = (q.2.toNat, ⟨r, false⟩) := by
    rw [uint_some (by rw [hp]; exact hpos), hp]
    simp
  unfold gotL
  rw [h1]
  simp only
  rw [h2]
  simp only [e1, e2]
  rw [if_pos hm]
theorem gets_put (S : List Life) (hm : ∀ q ∈ S, mayL q) (hu : Unsigned S) (r : List UInt8) : ∀ k, k ≤ S.length → gets k ⟨putsL S ++ r, false⟩ = (S.take k, ⟨putsL (S.drop k) ++ r, false⟩)
  | 0, _ => by simp [gets]
  | k + 1, hk => by
    have hk' : k < S.length := by omega
    rw [gets, gets_put S hm hu r k (by omega)]
    simp only
    have hd : S.drop k = S[k] :: S.drop (k + 1) := List.drop_eq_getElem_cons hk'
    rw [hd, putsL_cons, List.append_assoc, gotL_put S[k] (hm _ (List.getElem_mem hk')) (hu _ (List.getElem_mem hk')).2]
    have ht : S.take (k + 1) = S.take k ++ [S[k]] := by rw [List.take_add_one, List.getElem?_eq_getElem hk']; rfl
    rw [ht]

end Go.Proofs.Ytlcddfkhklmieaa
/-
  Lists of lives in memory: a slice that reads as a list of lives; one that the program itself made. No condition.
-/
namespace Go.Proofs.Ytlcddfkhklmieaa
open Go.RowKit Go.Sort

/-- A life's two cells. -/
def encP (p : Life) : List Value := [.int .i64 p.1, .int .u64 p.2]
/-- A life, by value. -/
abbrev lifeV (p : Life) : Value := .agg #[.int .i64 p.1, .int .u64 p.2]
/-- A slice's address A under which these lives lie, in a block below B. -/
def Lives (w : World) (B : Nat) (A : Option Addr) (l : List Life) : Prop :=
  0 < l.length → ∃ b off, A = some ⟨b, off, none⟩ ∧ b < B ∧ ∀ k, k < l.length → w.cell? ⟨b, off + k * 2, none⟩ = some (.int .i64 (atL l k).1) ∧ w.cell? ⟨b, off + k * 2 + 1, none⟩ = some (.int .u64 (atL l k).2)
section
variable {w w' : World} {B B' : Nat} {A : Option Addr} {l : List Life}
theorem Lives.nil_ : Lives w B A [] := fun h => absurd h (by simp)
theorem Lives.below (h : Lives w B A l) (hb : Below B w w') : Lives w' B A l := fun hn => by
  obtain ⟨b, off, e, hlt, hc⟩ := h hn
  exact ⟨b, off, e, hlt, fun k hk => ⟨(hb.cell (p := ⟨b, off + k * 2, none⟩) hlt).trans (hc k hk).1, (hb.cell (p := ⟨b, off + k * 2 + 1, none⟩) hlt).trans (hc k hk).2⟩⟩
theorem Lives.more (h : Lives w B A l) (hB : B ≤ B') : Lives w B' A l := fun hn => by
  obtain ⟨b, off, e, hlt, hc⟩ := h hn
  exact ⟨b, off, e, by omega, hc⟩
/-- Behind a call that left all that was there as it was. -/
theorem Lives.on (h : Lives w w.heap.size A l) (hb : Below w.heap.size w w') : Lives w' w'.heap.size A l := (h.below hb).more hb.size
theorem Lives.on' (h : Lives w B A l) (hB : B ≤ w.heap.size) (hb : Below w.heap.size w w') : Lives w' B A l := h.below (hb.mono hB)
theorem Lives.front (h : Lives w B A l) (n : Nat) : Lives w B A (l.take n) := fun hn => by
  rw [List.length_take] at hn
  obtain ⟨b, off, e, hb, hc⟩ := h (by omega)
  refine ⟨b, off, e, hb, fun k hk => ?_⟩
  rw [List.length_take] at hk
  have : atL (l.take n) k = atL l k := by
    simp only [atL, List.getD]
    rw [List.getElem?_take, if_pos (by omega)]
  rw [this]
  exact hc k (by omega)
theorem Lives.back {b off : Nat} (h : Lives w B (some ⟨b, off, none⟩) l) (n : Nat) : Lives w B (some ⟨b, off + n * 2, none⟩) (l.drop n) := fun hn => by
  rw [List.length_drop] at hn
  obtain ⟨b', off', e, hb, hc⟩ := h (by omega)
  obtain ⟨rfl, rfl⟩ : b = b' ∧ off = off' := by simpa using e
  refine ⟨b, off + n * 2, rfl, hb, fun k hk => ?_⟩
  rw [List.length_drop] at hk
  have : atL (l.drop n) k = atL l (n + k) := by simp [atL, List.getD, List.getElem?_drop]
  rw [this]
  have := hc (n + k) (by omega)
  rwa [show off + (n + k) * 2 = off + n * 2 + k * 2 by omega] at this
end
/-- The cells of lives, one behind the other. -/
def flatP (l : List Life) : List Value := l.flatMap encP
@[simp] theorem flatP_nil : flatP [] = [] := rfl
@[simp] theorem flatP_cons (p : Life) (l : List Life) : flatP (p :: l) = .int .i64 p.1 :: .int .u64 p.2 :: flatP l := rfl
theorem flatP_append (a b : List Life) : flatP (a ++ b) = flatP a ++ flatP b := by simp [flatP]
theorem flatP_length : ∀ l : List Life, (flatP l).length = l.length * 2
  | [] => rfl
  | p :: l => by rw [flatP_cons, List.length_cons, List.length_cons, flatP_length l, List.length_cons]; omega
theorem flatP_one : ∀ (l : List Life), ∀ v ∈ flatP l, v.oneCell' = true
  | [], v, h => by cases h
  | p :: l, v, h => by
    rw [flatP_cons] at h
    rcases List.mem_cons.1 h with rfl | h
    · rfl
    · rcases List.mem_cons.1 h with rfl | h
      · rfl
      · exact flatP_one l v h
theorem flatP_get : ∀ (l : List Life) (k : Nat), k < l.length → (flatP l)[k * 2]? = some (.int .i64 (atL l k).1) ∧ (flatP l)[k * 2 + 1]? = some (.int .u64 (atL l k).2)
  | [], k, h => absurd h (by simp)
  | p :: l, 0, _ => ⟨rfl, rfl⟩
  | p :: l, k + 1, h => by
    have := flatP_get l k (by simpa using h)
    rw [flatP_cons, show (k + 1) * 2 = k * 2 + 1 + 1 by omega, List.getElem?_cons_succ, List.getElem?_cons_succ, show k * 2 + 1 + 1 + 1 = (k * 2 + 1) + 1 + 1 by omega, List.getElem?_cons_succ, List.getElem?_cons_succ]
    exact this
theorem flatP_get_inv (l : List Life) (j : Nat) (u : Value) (h : (flatP l)[j]? = some u) : ∃ k, k < l.length ∧ ((j = k * 2 ∧ u = .int .i64 (atL l k).1) ∨ (j = k * 2 + 1 ∧ u = .int .u64 (atL l k).2)) := by
  have hj : j < l.length * 2 := by
    have := (List.getElem?_eq_some_iff.1 h).1
    rwa [flatP_length] at this
  refine ⟨j / 2, by omega, ?_⟩
  obtain ⟨h1, h2⟩ := flatP_get l (j / 2) (by omega)
  rcases Nat.mod_two_eq_zero_or_one j with e | e
  · left
    have ej : j / 2 * 2 = j := by omega
    rw [ej, h] at h1
    exact ⟨ej.symm, Option.some.inj h1⟩
  · right
    have ej : j / 2 * 2 + 1 = j := by omega
    rw [ej, h] at h2
    exact ⟨ej.symm, Option.some.inj h2⟩
theorem Lives.src {w : World} {B : Nat} {A : Option Addr} {l : List Life} (h : Lives w B A l) (hn : 0 < l.length) : ∃ b off, A = some ⟨b, off, none⟩ ∧ b < B ∧ ∀ j v, (flatP l)[j]? = some v → w.cell? ⟨b, off + j, none⟩ = some v := by
  obtain ⟨b, off, e, hb, hc⟩ := h hn
  refine ⟨b, off, e, hb, fun j v hv => ?_⟩
  obtain ⟨k, hk, ⟨rfl, rfl⟩ | ⟨rfl, rfl⟩⟩ := flatP_get_inv l j v hv
  · exact (hc k hk).1
  · exact (hc k hk).2
theorem Lives.ofFlat {w : World} {B b off : Nat} {l : List Life} (hb : b < B) (h : ∀ j v, (flatP l)[j]? = some v → w.cell? ⟨b, off + j, none⟩ = some v) : Lives w B (some ⟨b, off, none⟩) l := fun _ => by
  refine ⟨b, off, rfl, hb, fun k hk => ?_⟩
  obtain ⟨h1, h2⟩ := flatP_get l k hk
  exact ⟨h _ _ h1, by rw [Nat.add_assoc]; exact h _ _ h2⟩
theorem Lives.none_ {w : World} {B : Nat} {l : List Life} (h : Lives w B none l) : l = [] := by
  rcases Nat.eq_zero_or_pos l.length with h0 | h0
  · exact List.eq_nil_of_length_eq_zero h0
  · obtain ⟨_, _, e, _⟩ := h h0; cases e

theorem Try.infoP : (Try.prog.info? 24).map (fun i => (i.zero, i.size, i.bytes)) = some (some (.agg #[.int .i64 0, .int .u64 0]), 2, 16) := by kernel_rfl

/-- A slice of lives that the call itself made. -/
def OwnP (w : World) (base : Nat) (A : Option Addr) (n cap : Nat) (l : List Life) : Prop := w.ownsRow base 24 2 (.slice A n cap) n (flatP l)
section
variable {w w' : World} {base base' n cap : Nat} {A : Option Addr} {l : List Life}
theorem OwnP.len (h : OwnP w base A n cap l) : l.length = n := by
  have := h.1
  rw [flatP_length] at this
  omega
theorem OwnP.nil_ : OwnP w base none 0 0 [] := World.ownsRow_nil _ _ _ _
theorem OwnP.lower (h : OwnP w base A n cap l) (hb : base' ≤ base) : OwnP w base' A n cap l := by
  refine ⟨h.1, ?_⟩
  rcases h.2 with h1 | ⟨g, c, cur, hv, hg, hrest⟩
  · exact .inl h1
  · exact .inr ⟨g, c, cur, hv, Nat.le_trans hb hg, hrest⟩
theorem OwnP.cap_le (h : OwnP w base A n cap l) : n ≤ cap := by
  rcases h.2 with ⟨hv, hx⟩ | ⟨g, c, cur, hv, hb, hh, hnc, _⟩
  · omega
  · have hv' : A = some ⟨g, 0, none⟩ ∧ cap = c := by simpa using hv
    omega
theorem OwnP.cap_max (h : OwnP w base A n cap l) : cap ≤ maxLen := by
  rcases h.2 with ⟨hv, hx⟩ | ⟨g, c, cur, hv, hb, hh, hnc, hm, _⟩
  · have hv' : A = none ∧ n = 0 ∧ cap = 0 := by simpa using hv
    omega
  · have hv' : A = some ⟨g, 0, none⟩ ∧ cap = c := by simpa using hv
    omega
theorem OwnP.none_cap (h : OwnP w base A n cap l) : A = none → cap = 0 := by
  intro hA
  subst hA
  rcases h.2 with ⟨hv, _⟩ | ⟨g, c, cur, hv, _⟩
  · have hv' : n = 0 ∧ cap = 0 := by simpa using hv
    exact hv'.2
  · simp at hv
theorem OwnP.form (h : OwnP w base A n cap l) : (A = none ∧ n = 0 ∧ cap = 0) ∨ ∃ g, A = some ⟨g, 0, none⟩ ∧ base ≤ g ∧ g < w.heap.size := by
  rcases h.2 with ⟨hv, _⟩ | ⟨g, c, cur, hv, hg, hh, _⟩
  · exact .inl (by simpa using hv)
  · have hv' : A = some ⟨g, 0, none⟩ ∧ cap = c := by simpa using hv
    exact .inr ⟨g, hv'.1, hg, lt_of_heap hh⟩
theorem OwnP.cells (h : OwnP w base A n cap l) {b off : Nat} (hA : A = some ⟨b, off, none⟩) : off = 0 ∧ ∀ j v, (flatP l)[j]? = some v → w.cell? ⟨b, j, none⟩ = some v ∧ w.frozen? ⟨b, j, none⟩ = false := by
  rcases h.2 with ⟨hv, hx⟩ | ⟨g, c, cur, hv, hb, hh, hnc, hm, hcs, htk⟩
  · have hv' : A = none ∧ n = 0 ∧ cap = 0 := by simpa using hv
    rw [hv'.1] at hA; cases hA
  · have hv' : A = some ⟨g, 0, none⟩ ∧ cap = c := by simpa using hv
    rw [hA] at hv'
    obtain ⟨rfl, rfl⟩ : b = g ∧ off = 0 := by simpa using hv'.1
    refine ⟨rfl, fun j v hj => ?_⟩
    rw [← htk, List.getElem?_take] at hj
    split at hj
    · have hj' : cur[j]? = some v := by simpa using hj
      constructor
      · rw [cell_of_row _ _ _ _ _ (0, 0) hh]; exact hj'
      · simp [World.frozen?, hh]
    · cases hj
theorem OwnP.lives (h : OwnP w base A n cap l) : Lives w w.heap.size A l := fun hn => by
  rcases h.form with ⟨_, h0, _⟩ | ⟨g, hA, _, hlt⟩
  · have := h.len; omega
  · subst hA
    have hc := (h.cells rfl).2
    exact Lives.ofFlat hlt (fun j v hv => by rw [Nat.zero_add]; exact (hc j v hv).1) hn
theorem OwnP.keep (h : OwnP w base A n cap l) {S : Nat → Prop} (ho : Only S w w') (hn : ∀ k, blockOf A = some k → ¬ S k) : OwnP w' base A n cap l := by
  refine ⟨h.1, ?_⟩
  rcases h.2 with h1 | ⟨g, c, cur, hv, hg, hh, hrest⟩
  · exact .inl h1
  · have hv' : A = some ⟨g, 0, none⟩ := by
      have : A = some ⟨g, 0, none⟩ ∧ cap = c := by simpa using hv
      exact this.1
    exact .inr ⟨g, c, cur, hv, hg, (ho.block g (lt_of_heap hh) (hn g (by rw [hv']; rfl))).trans hh, hrest⟩
theorem OwnP.on (h : OwnP w base A n cap l) (hb : Below w.heap.size w w') : OwnP w' base A n cap l := h.keep (S := fun _ => False) (Only.ofBelow hb) (fun _ _ h => h)
end
theorem ownP_value {w : World} {base n : Nat} {v : Value} {xs : List Value} (h : w.ownsRow base 24 2 v n xs) : ∃ A cap, v = .slice A n cap := by
  rcases h.2 with ⟨hv, hx⟩ | ⟨g, c, cur, hv, _⟩
  · refine ⟨none, 0, ?_⟩
    rw [hx]
    exact hv
  · exact ⟨_, _, hv⟩

section
variable {P : Program} {w : World}
/-- 'append(out, xs...)', out the program's own lives, xs any lives, nil or not. -/
theorem wpList_appendP {ops : Array Oper} {rest : List Oper} {o : Oper} {a : Act} {Q : Exit → Act → World → Prop} (hgd : o.guard = none) (s x : Operand)
    (ho : o.op = .call { callee := .builtin .append, args := #[s, x], argTypes := #[27, 27] })
    (base : Nat) (A : Option Addr) (n cap : Nat) (l : List Life) (hs : a.eval s = .slice A n cap) (hbase : base ≤ w.heap.size) (hown : OwnP w base A n cap l)
    (A1 : Option Addr) (m c B : Nat) (xs : List Life) (hx : a.eval x = .slice A1 m c) (hl : xs.length = m) (hA : A1 = none → c = 0) (hb : Lives w B A1 xs)
    (hbytes : n + m ≤ 4398046511104)
    (h : ∀ A' cap' w', Hid (OwnP w' base A' (n + m) cap' (l ++ xs)) → Hid (Only (fun k => blockOf A = some k) w w') → Hid (NewOr w (blockOf A) (blockOf A')) → wpList Try.prog ops Q rest (a.put o.dst (.slice A' (n + m) cap')) w') :
    wpList Try.prog ops Q (o :: rest) a w := by
  obtain ⟨i0, hi0, hz0, hz1, hz2⟩ := info_parts Try.infoP
  rcases A1 with _ | ad
  · have hc := hA rfl
    subst hc
    have hxs := hb.none_
    subst hxs
    obtain rfl : m = 0 := by simpa using hl.symm
    refine wpList_append_own_none hgd s x 27 ho base 24 i0 2 Try.underlying27 hi0 (.slice A n cap) n (flatP l) hs hown hx ?_
    have := h A cap w (by rw [List.append_nil, Nat.add_zero]; exact hown) (Only.refl _ _) (NewOr.refl _ _)
    simpa using this
  · refine wpList_append_own_at _ hgd s x 27 ho base 24 i0 _ 2 16 Try.underlying27 hi0 hz0 hz1 hz2 rfl (by omega) (.slice A n cap) n (flatP l) hs hown ad m c (flatP xs) hx (by rw [flatP_length, hl]) (fun j u hu => ?_) (flatP_one xs) (by unfold maxLen; omega) (by omega) hbase ?_
    · have hpos : 0 < xs.length := by
        have := (List.getElem?_eq_some_iff.1 hu).1
        rw [flatP_length] at this
        omega
      obtain ⟨b', off', e, _, h'⟩ := hb.src hpos
      cases e
      rw [add_mk]
      exact h' j u hu
    · intro v' w1 hown' hg _ hat
      obtain ⟨A', cap', rfl⟩ := ownP_value hown'
      rw [ownBlock_slice, ownBlock_slice] at hat
      rw [ownBlock_slice] at hg
      refine h A' cap' w1 (by unfold OwnP; rw [flatP_append]; exact hown') (Only.ofGrown hg) ?_
      rcases hat with e | e
      · exact .inl e
      · exact .inr ⟨_, e, Nat.le_refl _⟩
end
/-- Lives laid in a block of their own. -/
theorem lives_new (w : World) (l : List Life) : Lives (w.alloc (.cells (flatP l).toArray 24)) (w.heap.size + 1) (some ⟨w.heap.size, 0, none⟩) l :=
  Lives.ofFlat (by omega) fun j v hv => by
    rw [cell_of_row _ _ _ _ _ (0, 0) (heap_alloc_new w _), Nat.zero_add]
    simpa using hv

end Go.Proofs.Ytlcddfkhklmieaa
/-
  What the program and the document say of the order of two lives, and whether a life may be. No condition.
-/
namespace Go.Proofs.Ytlcddfkhklmieaa
set_option maxRecDepth 20000
open Go.RowKit Go.Sort

def cmpI (x y : Int) : Int := if x < y then -1 else if y < x then 1 else 0
theorem cmpI_or (p q : Life) : (if cmpI p.1 q.1 = 0 then cmpI p.2 q.2 else cmpI p.1 q.1) = cmpL p q := by
  unfold cmpI cmpL before
  by_cases h1 : p.1 < q.1
  · simp [h1]
  · by_cases h2 : q.1 < p.1
    · have h3 : p.1 ≠ q.1 := by omega
      have h4 : q.1 ≠ p.1 := by omega
      simp [h1, h2, h3, h4]
    · have h3 : p.1 = q.1 := by omega
      by_cases h4 : p.2 < q.2
      · simp [h3, h4]
      · by_cases h5 : q.2 < p.2 <;> simp [h3, h4, h5]
end Go.Proofs.Ytlcddfkhklmieaa
/-
  Views as values: names and their order, the first view, which names and views may be; nodes that are apart. No condition; nothing here speaks of a program.
-/
namespace Go.Proofs.Ytlcddfkhklmieaa
open Go.RowKit

/-- A view's name: its round, and its life. -/
abbrev Nm := Int × Life
def cmpNm (i j : Nm) : Int := if cmpI i.1 j.1 = 0 then cmpL i.2 j.2 else cmpI i.1 j.1
def mayNm (i : Nm) : Prop := mayL i.2 ∧ (i.1 = 0 ∨ i.2.1 ≤ 4)
instance (i : Nm) : Decidable (mayNm i) := inferInstanceAs (Decidable (_ ∧ _))
/-- A view: its name, its members, their starts. -/
structure Vw where
  id : Nm
  ms : List Life
  ss : List Nat
  deriving DecidableEq
def firstV (p : Life) : Vw := ⟨(0, p), [p], [0]⟩
/-- No node twice. -/
def apart (l : List Life) : Prop := ∀ i, i < l.length → ∀ j, j < i → (atL l j).1 ≠ (atL l i).1
instance (l : List Life) : Decidable (apart l) := inferInstanceAs (Decidable (∀ i, i < l.length → ∀ j, j < i → _))
/-- A view that servers agreed on. -/
def agreed (v : Vw) : Prop := mayNm v.id ∧ 1 ≤ v.ms.length ∧ v.ms.length ≤ 6 ∧ isSet v.ms ∧ apart v.ms ∧ v.ss.length = v.ms.length ∧ 0 ∉ v.ss
instance (v : Vw) : Decidable (agreed v) := inferInstanceAs (Decidable (_ ∧ _ ∧ _ ∧ _ ∧ _ ∧ _ ∧ _))
def mayV (v : Vw) : Prop := if v.id.1 = 0 then mayL v.id.2 ∧ v = firstV v.id.2 else agreed v
instance (v : Vw) : Decidable (mayV v) := inferInstanceAs (Decidable (if v.id.1 = 0 then mayL v.id.2 ∧ v = firstV v.id.2 else agreed v))

theorem cmpI_zero (x y : Int) : cmpI x y = 0 ↔ x = y := by unfold cmpI; split <;> (try split) <;> omega
theorem cmpI_lt (x y : Int) : cmpI x y < 0 ↔ x < y := by unfold cmpI; split <;> (try split) <;> omega
theorem cmpI_neg (x y : Int) : cmpI y x = - cmpI x y := by unfold cmpI; split <;> split <;> (try split) <;> omega
theorem cmpI_range (x y : Int) : cmpI x y = -1 ∨ cmpI x y = 0 ∨ cmpI x y = 1 := by unfold cmpI; split <;> (try split) <;> omega
def beforeNm (i j : Nm) : Prop := i.1 < j.1 ∨ (i.1 = j.1 ∧ before i.2 j.2)
theorem cmpNm_lt (i j : Nm) : cmpNm i j < 0 ↔ beforeNm i j := by
  unfold cmpNm beforeNm
  split
  · rename_i h
    rw [cmpL_lt]
    have := (cmpI_zero _ _).1 h
    constructor
    · exact fun k => .inr ⟨this, k⟩
    · rintro (k | k)
      · omega
      · exact k.2
  · rename_i h
    rw [cmpI_lt]
    have : i.1 ≠ j.1 := fun e => h ((cmpI_zero _ _).2 e)
    constructor
    · exact fun k => .inl k
    · rintro (k | k)
      · exact k
      · exact absurd k.1 this
theorem cmpNm_zero (i j : Nm) : cmpNm i j = 0 ↔ i = j := by
  obtain ⟨i1, i2⟩ := i
  obtain ⟨j1, j2⟩ := j
  unfold cmpNm
  simp only
  split
  · rename_i h
    have := (cmpI_zero _ _).1 h
    rw [cmpL_zero]
    constructor
    · rintro rfl; rw [this]
    · intro k; exact (Prod.mk.inj k).2
  · rename_i h
    have : i1 ≠ j1 := fun e => h ((cmpI_zero _ _).2 e)
    rw [cmpI_zero]
    exact ⟨fun k => absurd k this, fun k => absurd (Prod.mk.inj k).1 this⟩
theorem cmpNm_neg (i j : Nm) : cmpNm j i = - cmpNm i j := by
  unfold cmpNm
  rw [cmpI_neg i.1 j.1, cmpL_neg i.2 j.2]
  split <;> split <;> omega
theorem cmpNm_range (i j : Nm) : cmpNm i j = -1 ∨ cmpNm i j = 0 ∨ cmpNm i j = 1 := by
  unfold cmpNm
  split
  · exact cmpL_range _ _
  · exact cmpI_range _ _
theorem beforeNm_trans {i j k : Nm} (h : beforeNm i j) (g : beforeNm j k) : beforeNm i k := by
  unfold beforeNm at *
  rcases h with h | ⟨h, h'⟩ <;> rcases g with g | ⟨g, g'⟩
  · exact .inl (by omega)
  · exact .inl (by omega)
  · exact .inl (by omega)
  · exact .inr ⟨by omega, before_trans h' g'⟩

/-! Nodes that are apart, of lists that are sets. -/
theorem rising_set {l : List Life} (h : isSet l) : Rising l := by
  have key : ∀ d i, i + d + 1 < l.length → before (atL l i) (atL l (i + d + 1)) := by
    intro d
    induction d with
    | zero => intro i hi; have := (h (i + 1) (by omega)).2 (by omega); simpa using this
    | succ d ih =>
      intro i hi
      have h1 := ih i (by omega)
      have h2 := (h (i + (d + 1) + 1) hi).2 (by omega)
      exact before_trans h1 (by simpa [Nat.add_assoc] using h2)
  refine List.pairwise_iff_getElem.2 fun i j hi hj hij => ?_
  have := key (j - i - 1) i (by omega)
  rw [show i + (j - i - 1) + 1 = j by omega, atL_lt hi, atL_lt hj] at this
  exact this
theorem nodes_length (l : List Life) (h : isSet l) : (nodesL l).length = l.length ↔ apart l := by
  have hs : setL l = l := setL_self (rising_set h)
  unfold nodesL
  rw [hs]
  have hd : ∀ k, k < l.length → (l.map (·.1)).toArray[k]! = (atL l k).1 := fun k hk => by
    rw [atL_lt hk]
    simp [hk]
  unfold Lib.compactUpTo
  rw [List.length_map]
  have hlen : (List.range l.length).length = l.length := List.length_range
  have e : ((List.range l.length).filter (Lib.keeps (l.map (·.1)).toArray)).length = l.length ↔ ∀ k, k < l.length → Lib.keeps (l.map (·.1)).toArray k = true := by
    have := @List.length_filter_eq_length_iff _ (Lib.keeps (l.map (·.1)).toArray) (List.range l.length)
    rw [hlen] at this
    rw [this]
    exact ⟨fun g k hk => g k (List.mem_range.2 hk), fun g k hk => g k (List.mem_range.1 hk)⟩
  rw [e]
  have hk : ∀ k, k < l.length → (Lib.keeps (l.map (·.1)).toArray k = true ↔ k = 0 ∨ (atL l k).1 ≠ (atL l (k - 1)).1) := fun k hk => by
    unfold Lib.keeps
    rw [decide_eq_true_iff, hd k hk, hd (k - 1) (by omega)]
  constructor
  · intro g
    have step : ∀ k, k + 1 < l.length → (atL l k).1 < (atL l (k + 1)).1 := fun k hk1 => by
      have h1 := (h (k + 1) hk1).2 (by omega)
      have h2 := (hk (k + 1) hk1).1 (g (k + 1) hk1)
      simp only [Nat.add_sub_cancel] at h1 h2
      unfold before at h1
      rcases h2 with h2 | h2
      · omega
      · omega
    have key : ∀ d i, i + d + 1 < l.length → (atL l i).1 < (atL l (i + d + 1)).1 := by
      intro d
      induction d with
      | zero => intro i hi; exact step i hi
      | succ d ih =>
        intro i hi
        have h1 := ih i (by omega)
        have h2 := step (i + d + 1) (by omega)
        rw [show i + (d + 1) + 1 = i + d + 1 + 1 by omega]
        omega
    intro i hi j hj
    have := key (i - j - 1) j (by omega)
    rw [show j + (i - j - 1) + 1 = i by omega] at this
    omega
  · intro g k hk1
    rw [hk k hk1]
    by_cases h0 : k = 0
    · exact .inl h0
    · exact .inr (g k hk1 (k - 1) (by omega)).symm
end Go.Proofs.Ytlcddfkhklmieaa
/-
  The program's order of two lives: the closure that it hands to the library, and Compare. No condition.
-/
namespace Go.Proofs.Ytlcddfkhklmieaa
set_option maxRecDepth 20000
open Go.RowKit Go.Sort

theorem cell_at_new (w : World) (cs : Array Value) (t : TypeId) (k : Nat) (v : Value) (h : cs[k]? = some v) : (w.alloc (.cells cs t)).cell? ⟨w.heap.size, k, none⟩ = some v := by
  rw [cell_of_row _ _ _ _ _ (0, 0) (heap_alloc_new w _)]; exact h
theorem cell_at_old {w : World} (o : Obj) {a : Addr} {v : Value} (h : w.cell? a = some v) : (w.alloc o).cell? a = some v := (World.cell?_alloc_lt w o a (World.block_lt_of_cell? w a h)).trans h
theorem grow_below (W : World) (n : Nat) (os : Array Obj) : Below W.heap.size W (grow (W.drewN n) os) := by
  refine ⟨rfl, rfl, rfl, by simp [grow, World.drewN], fun k hk => ?_⟩
  simp only [grow, World.drewN]
  rw [Array.getElem?_append_left hk]
theorem bdl {B : Nat} {w w' : World} (h : RowKit.Below B w.drew w') : RowKit.Below B w w' := ⟨h.os, h.tape, h.output, h.size, h.block⟩
theorem btr {w W W' : World} (h : RowKit.Below w.heap.size w W) (k : RowKit.Below W.heap.size W W') : RowKit.Below w.heap.size w W' := h.trans (k.mono h.size)
theorem btd {w W W' : World} (h : RowKit.Below w.heap.size w W) (k : RowKit.Below W.drew.heap.size W.drew W') : RowKit.Below w.heap.size w W' := btr h (show RowKit.Below W.heap.size W W' from ⟨k.os, k.tape, k.output, k.size, k.block⟩)
theorem grew_below {w w' : World} (h : ∃ n os, w' = Sort.grow (w.drewN n) os) : RowKit.Below w.heap.size w w' := by
  obtain ⟨n, os, rfl⟩ := h
  exact grow_below w n os
theorem grew_one (w : World) (o : Obj) : ∃ n os, w.alloc o = Sort.grow (w.drewN n) os := ⟨0, _, by rw [alloc_eq_grow]; rfl⟩
theorem grew_two (w : World) (o1 o2 : Obj) : ∃ n os, (w.alloc o1).alloc o2 = Sort.grow (w.drewN n) os := ⟨0, _, by rw [alloc_eq_grow, alloc_eq_grow, grow_grow]; rfl⟩
theorem grew_trans {w w1 w2 : World} (h : ∃ n os, w1 = Sort.grow (w.drewN n) os) (k : ∃ n os, w2 = Sort.grow (w1.drewN n) os) : ∃ n os, w2 = Sort.grow (w.drewN n) os := by
  obtain ⟨n, os, rfl⟩ := h
  obtain ⟨m, os', rfl⟩ := k
  exact ⟨n + m, os ++ os', by rw [← World.drewN_drewN, ← grow_grow]; rfl⟩
theorem grew_drew {w w' : World} (h : ∃ n os, w' = Sort.grow (w.drew.drewN n) os) : ∃ n os, w' = Sort.grow (w.drewN n) os := by
  obtain ⟨n, os, rfl⟩ := h
  exact ⟨1 + n, os, by rw [← World.drewN_drewN]; rfl⟩
/-- Two lives in blocks side by side, at B and behind it. -/
def Two (B : Nat) (p q : Life) (w : World) : Prop := w.cell? ⟨B, 0, none⟩ = some (.int .i64 p.1) ∧ w.cell? ⟨B, 1, none⟩ = some (.int .u64 p.2) ∧ w.cell? ⟨B + 1, 0, none⟩ = some (.int .i64 q.1) ∧ w.cell? ⟨B + 1, 1, none⟩ = some (.int .u64 q.2)
theorem cell_below {w w' : World} {a : Addr} {v : Value} (h : w.cell? a = some v) (hb : Below w.heap.size w w') : w'.cell? a = some v := (hb.cell (World.block_lt_of_cell? w a h)).trans h
theorem Two.below {B : Nat} {p q : Life} {w w' : World} (h : Two B p q w) (hb : Below w.heap.size w w') : Two B p q w' := ⟨cell_below h.1 hb, cell_below h.2.1 hb, cell_below h.2.2.1 hb, cell_below h.2.2.2 hb⟩
/-- Two parameters that were boxed. -/
theorem two_new (w : World) (p q : Life) : Two w.heap.size p q ((w.alloc (.cells #[.int .i64 p.1, .int .u64 p.2] 24)).alloc (.cells #[.int .i64 q.1, .int .u64 q.2] 24)) := by
  have e : (w.alloc (.cells #[.int .i64 p.1, .int .u64 p.2] 24)).heap.size = w.heap.size + 1 := by simp
  have k3 := cell_at_new (w.alloc (.cells #[.int .i64 p.1, .int .u64 p.2] 24)) #[.int .i64 q.1, .int .u64 q.2] 24 0 _ rfl
  have k4 := cell_at_new (w.alloc (.cells #[.int .i64 p.1, .int .u64 p.2] 24)) #[.int .i64 q.1, .int .u64 q.2] 24 1 _ rfl
  rw [e] at k3 k4
  exact ⟨cell_at_old _ (cell_at_new w _ _ 0 _ rfl), cell_at_old _ (cell_at_new w _ _ 1 _ rfl), k3, k4⟩
theorem two_below (w : World) (o1 o2 : Obj) : Below w.heap.size w ((w.alloc o1).alloc o2) := ((Below.refl _ w).alloc (Nat.le_refl _) _).alloc (by simp) _
/-! Whether a life may be; the document's order. -/
set_option maxHeartbeats 1000000 in
theorem may_g (p : Life) (hp : 0 ≤ p.2) (w : World) : Calls Try.prog 70 #[lifeV p] w fun e w' => e = .returned (.bool (decide (mayL p))) ∧ ∃ n os, w' = Sort.grow (w.drewN n) os := by
  obtain ⟨p1, p2⟩ := p
  simp only at hp
  generalize hr : decide (mayL (p1, p2)) = r
  have HR : Hid (decide (1 ≤ p1 ∧ p1 ≤ 10 ∧ 0 < p2) = r) := hr
  clear hr
  go_enter Try.func70, Try.ntmps70
  by_cases h1 : 1 ≤ p1
  · by_cases h2 : p1 ≤ 10
    · by_cases h3 : 0 < p2
      · have e : r = true := by rw [← HR.out]; exact decide_eq_true ⟨h1, h2, h3⟩
        subst e
        go_wp2
        go_ret
        exact ⟨rfl, grew_one w _⟩
      · have e : r = false := by rw [← HR.out]; exact decide_eq_false fun h => h3 h.2.2
        subst e
        go_wp2
        go_ret
        exact ⟨rfl, grew_one w _⟩
    · have e : r = false := by rw [← HR.out]; exact decide_eq_false fun h => h2 h.2.1
      subst e
      go_wp2
      go_ret
      exact ⟨rfl, grew_one w _⟩
  · have e : r = false := by rw [← HR.out]; exact decide_eq_false fun h => h1 h.1
    subst e
    go_wp2
    go_ret
    exact ⟨rfl, grew_one w _⟩
theorem may_any (p : Life) (hp : 0 ≤ p.2) (w : World) : Calls Try.prog 70 #[lifeV p] w fun e w' => e = .returned (.bool (decide (mayL p))) ∧ Hid (Below w.heap.size w w') :=
  (may_g p hp w).mono fun _ _ ⟨he, hg⟩ => ⟨he, Lib.hid (grew_below hg)⟩
set_option maxHeartbeats 1000000 in
theorem rmay_g (p : Life) (hp : 0 ≤ p.2) (w : World) : Calls Try.prog 53 #[lifeV p] w fun e w' => e = .returned (.bool (decide (mayL p))) ∧ ∃ n os, w' = Sort.grow (w.drewN n) os := by
  obtain ⟨p1, p2⟩ := p
  simp only at hp
  generalize hr : decide (mayL (p1, p2)) = r
  have HR : Hid (decide (1 ≤ p1 ∧ p1 ≤ 10 ∧ 0 < p2) = r) := hr
  clear hr
  go_enter Try.func53, Try.ntmps53
  by_cases h1 : 1 ≤ p1
  · by_cases h2 : p1 ≤ 10
    · by_cases h3 : p2 = 0
      · have e : r = false := by rw [← HR.out]; exact decide_eq_false fun h => by omega
        subst e
        go_wp2
        go_ret
        exact ⟨rfl, grew_one w _⟩
      · have e : r = true := by rw [← HR.out]; exact decide_eq_true ⟨h1, h2, by omega⟩
        subst e
        have h4 : (p2 != 0) = true := by simp [h3]
        go_wp2
        go_ret
        exact ⟨rfl, grew_one w _⟩
    · have e : r = false := by rw [← HR.out]; exact decide_eq_false fun h => h2 h.2.1
      subst e
      go_wp2
      go_ret
      exact ⟨rfl, grew_one w _⟩
  · have e : r = false := by rw [← HR.out]; exact decide_eq_false fun h => h1 h.1
    subst e
    go_wp2
    go_ret
    exact ⟨rfl, grew_one w _⟩
theorem rmay_any (p : Life) (hp : 0 ≤ p.2) (w : World) : Calls Try.prog 53 #[lifeV p] w fun e w' => e = .returned (.bool (decide (mayL p))) ∧ Hid (Below w.heap.size w w') :=
  (rmay_g p hp w).mono fun _ _ ⟨he, hg⟩ => ⟨he, Lib.hid (grew_below hg)⟩
set_option maxHeartbeats 1000000 in
theorem before_g (p q : Life) (w : World) : Calls Try.prog 71 #[lifeV p, lifeV q] w fun e w' => e = .returned (.bool (decide (before p q))) ∧ ∃ n os, w' = Sort.grow (w.drewN n) os := by
  obtain ⟨p1, p2⟩ := p
  obtain ⟨q1, q2⟩ := q
  generalize hr : decide (before (p1, p2) (q1, q2)) = r
  have HR : Hid (decide (p1 < q1 ∨ (p1 = q1 ∧ p2 < q2)) = r) := hr
  clear hr
  go_enter Try.func71, Try.ntmps71
  by_cases h1 : p1 < q1
  · have e : r = true := by rw [← HR.out]; exact decide_eq_true (.inl h1)
    subst e
    go_wp2
    go_ret
    exact ⟨rfl, grew_two w _ _⟩
  · by_cases h2 : p1 = q1
    · subst h2
      by_cases h3 : p2 < q2
      · have e : r = true := by rw [← HR.out]; exact decide_eq_true (.inr ⟨rfl, h3⟩)
        subst e
        go_wp2
        go_ret
        exact ⟨rfl, grew_two w _ _⟩
      · have e : r = false := by rw [← HR.out]; exact decide_eq_false fun h => by omega
        subst e
        go_wp2
        go_ret
        exact ⟨rfl, grew_two w _ _⟩
    · have e : r = false := by rw [← HR.out]; exact decide_eq_false fun h => by omega
      subst e
      go_wp2
      go_ret
      exact ⟨rfl, grew_two w _ _⟩
theorem before_any (p q : Life) (w : World) : Calls Try.prog 71 #[lifeV p, lifeV q] w fun e w' => e = .returned (.bool (decide (before p q))) ∧ Hid (Below w.heap.size w w') :=
  (before_g p q w).mono fun _ _ ⟨he, hg⟩ => ⟨he, Lib.hid (grew_below hg)⟩
end Go.Proofs.Ytlcddfkhklmieaa
/-
  The program's '==' at two lives, and '!='. No condition.
-/
namespace Go.Proofs.Ytlcddfkhklmieaa
open Go.RowKit Go.Sort

/-- '==' at two lives. -/
theorem eqP : EqlAt Try.prog 24 (fun x : Life => .agg (encP x).toArray) (fun x y => decide (x = y)) := by
  refine ⟨fun x y w => ?_, GuardAt.agg _ (by kernel_rfl)⟩
  have u3 := Try.underlying3
  have a3 := Try.isAgg3
  have z3 := Try.sizeOf3
  have u29 := Try.underlying22
  have a29 := Try.isAgg22
  have z29 := Try.sizeOf22
  have hS : Try.prog.underlying 24 = some (.struct (Try.prog.fieldsOf 24)) := by kernel_rfl
  have hp : Try.prog.stoodInHeld 24 = false := by kernel_rfl
  simp only [encP]
  rw [run_eql_struct, show (10000 : Nat) = 9999 + 1 from rfl, run_equalIn_agg w 9999 24 _ _ hS hp]
  simp only [Program.fieldsOf, Try.underlying24]
  go_simp
  obtain ⟨x1, x2⟩ := x
  obtain ⟨y1, y2⟩ := y
  by_cases h1 : x1 = y1 <;> by_cases h2 : x2 = y2 <;> simp [h1, h2]
theorem neP : NeqAt Try.prog 24 (fun x : Life => .agg (encP x).toArray) (fun x y => decide (x = y)) := by
  refine ⟨fun x y w => ?_, GuardAt.agg _ (by kernel_rfl)⟩
  have h := eqP.1 x y w
  have hS : Try.prog.underlying 24 = some (.struct (Try.prog.fieldsOf 24)) := by kernel_rfl
  rw [run_eql_struct] at h
  rw [run_neq_struct]
  cases hr : (Op.equalIn 10000 24 (.agg (encP x).toArray) (.agg (encP y).toArray)).run Try.prog w with
  | ok b w' =>
    rw [hr] at h
    simp only [Result.andThen] at h ⊢
    obtain ⟨h1, rfl⟩ : b = decide (x = y) ∧ w' = w := by simpa using h
    rw [h1]
  | _ => rw [hr] at h; simp [Result.andThen] at h
end Go.Proofs.Ytlcddfkhklmieaa
/-
  The document's answers on lists of lives: whether a life is among a list's, whether two lists are the same, whether one is a set. For lists of at most 2^40 lives.
-/
namespace Go.Proofs.Ytlcddfkhklmieaa
set_option maxRecDepth 20000
open Go.RowKit

theorem eq_run (x1 x2 y1 y2 : Int) (w : World) : Sem.run Try.prog (binOp .eql 24 (.agg #[.int .i64 x1, .int .u64 x2]) (.agg #[.int .i64 y1, .int .u64 y2])) w = .ok (.bool (decide (((x1, x2) : Life) = (y1, y2)))) w := eqP.1 (x1, x2) (y1, y2) w
theorem ne_run (x1 x2 y1 y2 : Int) (w : World) : Sem.run Try.prog (binOp .neq 24 (.agg #[.int .i64 x1, .int .u64 x2]) (.agg #[.int .i64 y1, .int .u64 y2])) w = .ok (.bool (!decide (((x1, x2) : Life) = (y1, y2)))) w := neP.1 (x1, x2) (y1, y2) w
theorem guard_run (op : BinOp) (a b : Operand) (x1 x2 y1 y2 : Int) (w : World) : Sem.run Try.prog (eqGuard op 24 a b (.agg #[.int .i64 x1, .int .u64 x2]) (.agg #[.int .i64 y1, .int .u64 y2])) w = .ok () w := eqP.2 op a b (x1, x2) (y1, y2) w
/-- The two cells of the life at place k. -/
theorem Lives.at_ {w : World} {B : Nat} {A : Option Addr} {l : List Life} (h : Lives w B A l) {k : Nat} (hk : k < l.length) : ∃ b off, A = some ⟨b, off, none⟩ ∧ b < B ∧ w.cell? ⟨b, off + k * 2, none⟩ = some (.int .i64 (atL l k).1) ∧ w.cell? ⟨b, off + k * 2 + 1, none⟩ = some (.int .u64 (atL l k).2) := by
  obtain ⟨b, off, e, hb, hc⟩ := h (by omega)
  exact ⟨b, off, e, hb, (hc k hk).1, (hc k hk).2⟩
theorem mem_upto {l : List Life} {p : Life} : (∀ j, j < l.length → atL l j ≠ p) ↔ p ∉ l := by
  constructor
  · intro h hm
    obtain ⟨j, hj, e⟩ := List.getElem_of_mem hm
    exact h j hj (by rw [atL_lt hj]; exact e)
  · intro h j hj e
    exact h (by rw [← e]; exact atL_mem hj)
end Go.Proofs.Ytlcddfkhklmieaa
/-
  Lists of lives compared, and looked through: the library's Equal, Index, Contains, the program's Has, the document's Equal. For lists of at most 2^40 lives.
-/
namespace Go.Proofs.Ytlcddfkhklmieaa
set_option maxRecDepth 20000
open Go.RowKit

theorem lives_ext {l m : List Life} (h : l.length = m.length) (he : ∀ j, j < l.length → atL l j = atL m j) : l = m := by
  apply List.ext_getElem h
  intro i h1 h2
  have := he i h1
  rwa [atL_lt h1, atL_lt h2] at this
theorem below_drewN' {w : World} (q : Nat) : Below w.heap.size w (w.drewN q) := ⟨rfl, rfl, rfl, Nat.le_refl _, fun _ _ => rfl⟩
set_option maxHeartbeats 1000000 in
theorem requal_any (A1 : Option Addr) (l : List Life) (n1 c1 : Nat) (A2 : Option Addr) (m : List Life) (n2 c2 : Nat) (w : World) (h1 : Lives w w.heap.size A1 l) (h2 : Lives w w.heap.size A2 m) (hn1 : l.length = n1) (hn2 : m.length = n2) (hb : n1 ≤ 1099511627776) (hb2 : n2 ≤ 1099511627776) :
    Calls Try.prog 62 #[.slice A1 n1 c1, .slice A2 n2 c2] w fun e w' => e = .returned (.bool (decide (l = m))) ∧ Hid (Below w.heap.size w w') := by
  generalize hr : decide (l = m) = r
  have HR := Lib.hid hr
  have H1 := Lib.hid h1
  have H2 := Lib.hid h2
  have N1 := Lib.hid hn1
  have N2 := Lib.hid hn2
  clear hr h1 h2 hn1 hn2
  go_enter Try.func62, Try.ntmps62
  by_cases hnn : n1 = n2
  · subst hnn
    go_wp2
    go_loopw [5] (fun i wr => ∃ k q : Nat, k ≤ n1 ∧ i = .int .i64 k ∧ wr = w.drewN q ∧ Hid (∀ j, j < k → atL l j = atL m j)) (fun i _ => n1 - (intOf i).toNat)
    case atStart => exact ⟨0, 0, Nat.zero_le _, rfl, rfl, Lib.hid fun j hj => absurd hj (Nat.not_lt_zero _)⟩
    case round =>
      obtain ⟨k, q, hk, rfl, rfl, hall⟩ := hrel
      by_cases hlt : k < n1
      · obtain ⟨b, off, rfl, hbb, c1, c2⟩ := H1.out.at_ (k := k) (by rw [N1.out]; exact hlt)
        obtain ⟨b', off', rfl, hbb', d1, d2⟩ := H2.out.at_ (k := k) (by rw [N2.out]; exact hlt)
        have g0 : (0 : Int) ≤ (k : Int) := by omega
        have g1 : (k : Int) < (n1 : Int) := by omega
        have he := fun w => ne_run (atL l k).1 (atL l k).2 (atL m k).1 (atL m k).2 w
        have hg := fun op a b w => guard_run op a b (atL l k).1 (atL l k).2 (atL m k).1 (atL m k).2 w
        have E1 := Lib.hid (show ((atL l k).1, (atL l k).2) = atL l k from rfl)
        have E2 := Lib.hid (show ((atL m k).1, (atL m k).2) = atL m k from rfl)
        generalize (atL l k).1 = x1 at *
        generalize (atL l k).2 = x2 at *
        generalize (atL m k).1 = y1 at *
        generalize (atL m k).2 = y2 at *
        by_cases hx : ((x1, x2) : Life) = (y1, y2)
        · have HX := Lib.hid hx
          rw [decide_eq_true hx] at he
          clear hx
          go_wp2_with fail
          go_quiet (fail)
          go_wp2
          go_roundw
          case rel => exact ⟨k + 1, q + nq, by omega, by go_num, rfl, Lib.hid fun j hj => by
            by_cases hjk : j = k
            · subst hjk
              rw [← E1.out, HX.out, E2.out]
            · exact hall.out j (by omega)⟩
          case measure => simp [intOf]; omega
        · have HX := Lib.hid hx
          rw [decide_eq_false hx] at he
          clear hx
          go_wp2_with fail
          go_quiet (fail)
          go_wp2
          go_ret
          have : l ≠ m := fun e => HX.out (by rw [E1.out, E2.out, e])
          refine ⟨?_, Lib.hid ⟨rfl, rfl, rfl, Nat.le_refl _, fun _ _ => rfl⟩⟩
          rw [← HR.out, decide_eq_false this]
          rfl
      · obtain rfl : k = n1 := by omega
        have g1 : ¬ (k : Int) < (k : Int) := by omega
        go_wp2
        go_ret
        have : l = m := lives_ext (N1.out.trans N2.out.symm) (by rw [N1.out]; exact hall.out)
        refine ⟨?_, Lib.hid (below_drewN' _)⟩
        rw [← HR.out, decide_eq_true this]
        rfl
  · have hne : ((n1 : Int) != (n2 : Int)) = true := by simp; omega
    go_wp2
    go_ret
    have : l ≠ m := fun e => hnn (by rw [← N1.out, ← N2.out, e])
    refine ⟨?_, Lib.hid (Below.refl _ _)⟩
    rw [← HR.out, decide_eq_false this]
    rfl
/-- Index: where a life is first among a list's; below 0 if nowhere. -/
def idxIs (l : List Life) (p : Life) (r : Int) : Prop := 0 ≤ r ↔ p ∈ l
end Go.Proofs.Ytlcddfkhklmieaa
/-
  No node twice, by the document's answer. For lists of at most 2^40 lives.
-/
namespace Go.Proofs.Ytlcddfkhklmieaa
set_option maxRecDepth 20000
open Go.RowKit

def apartTo (l : List Life) (n : Nat) : Prop := ∀ i, i < n → ∀ j, j < i → (atL l j).1 ≠ (atL l i).1
set_option maxHeartbeats 2000000 in
theorem rlives_any (A : Option Addr) (l : List Life) (n c : Nat) (w : World) (h : Lives w w.heap.size A l) (hn : l.length = n) (hb : n ≤ 1099511627776) :
    Calls Try.prog 52 #[.slice A n c] w fun e w' => e = .returned (.bool (decide (apart l))) ∧ Hid (Below w.heap.size w w') := by
  generalize hr : decide (apart l) = r
  have HR := Lib.hid hr
  have HL := Lib.hid h
  have HN := Lib.hid hn
  clear hr h hn
  go_enter Try.func52, Try.ntmps52
  go_wp2
  go_loopw [3, 4] (fun i jj wr => ∃ k q : Nat, k ≤ n ∧ i = .int .i64 k ∧ wr = w.drewN q ∧ Hid (apartTo l k)) (fun i jj _ => n - (intOf i).toNat)
  case atStart => exact ⟨0, 0, Nat.zero_le _, rfl, rfl, Lib.hid fun j hj => absurd hj (Nat.not_lt_zero _)⟩
  case round =>
    obtain ⟨k, q, hk, rfl, rfl, hall⟩ := hrel
    by_cases hlt : k < n
    · obtain ⟨b, off, rfl, hbb, hc1, -⟩ := HL.out.at_ (k := k) (by rw [HN.out]; exact hlt)
      have g0 : (0 : Int) ≤ (k : Int) := by omega
      have g1 : (k : Int) < (n : Int) := by omega
      generalize hy : (atL l k).1 = y at *
      have HY := Lib.hid hy
      clear hy
      go_wp2_with fail
      go_loopw [4] (fun i wr => ∃ k2 q2 : Nat, k2 ≤ k ∧ i = .int .i64 k2 ∧ wr = w.drewN q2 ∧ Hid (∀ j, j < k2 → (atL l j).1 ≠ y)) (fun i _ => k - (intOf i).toNat)
      case atStart => exact ⟨0, q, Nat.zero_le _, rfl, rfl, Lib.hid fun j hj => absurd hj (Nat.not_lt_zero _)⟩
      case round =>
        obtain ⟨k2, q2, hk2, rfl, rfl, hall2⟩ := hrel
        by_cases hlt2 : k2 < k
        · obtain ⟨b', off', e, hbb', hd1, -⟩ := HL.out.at_ (k := k2) (by rw [HN.out]; omega)
          cases e
          have g2 : (0 : Int) ≤ (k2 : Int) := by omega
          have g3 : (k2 : Int) < (k : Int) := by omega
          have g4 : (k2 : Int) < (n : Int) := by omega
          generalize hx : (atL l k2).1 = x at *
          have HX := Lib.hid hx
          clear hx
          by_cases hxy : x = y
          · subst hxy
            have e1 : (x == x) = true := by simp
            have hna : ¬ apart l := fun ha => ha k (by rw [HN.out]; exact hlt) k2 hlt2 (by rw [HX.out, HY.out])
            have : r = false := by rw [← HR.out]; exact decide_eq_false hna
            subst this
            clear hna
            go_wp2_with fail
            go_quiet (fail)
            go_wp2
            go_ret
            exact ⟨rfl, Lib.hid ⟨rfl, rfl, rfl, Nat.le_refl _, fun _ _ => rfl⟩⟩
          · have e1 : (x == y) = false := by simp [hxy]
            have HXY := Lib.hid hxy
            clear hxy
            go_wp2_with fail
            go_quiet (fail)
            go_wp2
            go_roundw
            case rel => exact ⟨k2 + 1, q2 + nq, by omega, by go_num, rfl, Lib.hid fun j hj => by
              by_cases hjk : j = k2
              · subst hjk
                rw [HX.out]
                exact HXY.out
              · exact hall2.out j (by omega)⟩
            case measure => simp [intOf]; omega
        · obtain rfl : k2 = k := by omega
          have g2 : ¬ (k2 : Int) < (k2 : Int) := by omega
          go_wp2
          go_roundw
          case rel => exact ⟨k2 + 1, q2, by omega, by go_num, rfl, Lib.hid fun i hi j hj => by
            by_cases hik : i = k2
            · subst hik
              rw [HY.out]
              exact hall2.out j hj
            · exact hall.out i (by omega) j hj⟩
          case measure => simp [intOf]; omega
    · obtain rfl : k = n := by omega
      have g1 : ¬ (k : Int) < (k : Int) := by omega
      have ha : apart l := by unfold apart; rw [HN.out]; exact hall.out
      have : r = true := by rw [← HR.out]; exact decide_eq_true ha
      subst this
      clear ha
      go_wp2
      go_ret
      exact ⟨rfl, Lib.hid (below_drewN' _)⟩
end Go.Proofs.Ytlcddfkhklmieaa
/-
  The library's Clone and Compact at lists of lives. For lists of at most 2^40 lives; Compact's row is the program's own.
-/
namespace Go.Proofs.Ytlcddfkhklmieaa
set_option maxRecDepth 20000
open Go.RowKit
open Go.Lib (keeps compactUpTo CompInv)

/-- A row of lives that may be written. -/
def RowP (w : World) (g o : Nat) (d : Array Life) : Prop := ∀ t, t < d.size → (w.cell? ⟨g, o + t * 2, none⟩ = some (.int .i64 d[t]!.1) ∧ w.cell? ⟨g, o + t * 2 + 1, none⟩ = some (.int .u64 d[t]!.2)) ∧ w.frozen? ⟨g, o + t * 2, none⟩ = false ∧ w.frozen? ⟨g, o + t * 2 + 1, none⟩ = false
theorem RowP.drewN {w : World} {g o : Nat} {d : Array Life} (h : RowP w g o d) (q : Nat) : RowP (w.drewN q) g o d := h
theorem RowP.drew {w : World} {g o : Nat} {d : Array Life} (h : RowP w g o d) : RowP w.drew g o d := h
theorem get_set_same (d : Array Life) (i : Nat) (u : Life) (h : i < d.size) : (d.setIfInBounds i u)[i]! = u := by
  rw [getElem!_pos _ _ (by simpa using h)]; simp
theorem get_set_other (d : Array Life) (i j : Nat) (u : Life) (h : j < d.size) (hne : j ≠ i) : (d.setIfInBounds i u)[j]! = d[j]! := by
  rw [getElem!_pos (d.setIfInBounds i u) j (by simpa using h), getElem!_pos d j h, Array.getElem_setIfInBounds_ne]
  exact Ne.symm hne
theorem RowP.set {w : World} {g o : Nat} {d : Array Life} (h : RowP w g o d) (i : Nat) (u : Life) (hi : i < d.size) :
    RowP ((w.setCell ⟨g, o + i * 2, none⟩ (.int .i64 u.1)).setCell ⟨g, o + i * 2 + 1, none⟩ (.int .u64 u.2)) g o (d.setIfInBounds i u) := by
  intro t ht
  have ht' : t < d.size := by simpa using ht
  obtain ⟨⟨c1, c2⟩, f1, f2⟩ := h t ht'
  refine ⟨?_, by simpa using f1, by simpa using f2⟩
  have ne : ∀ a b : Nat, a ≠ b → (⟨g, a, none⟩ : Addr) ≠ ⟨g, b, none⟩ := fun a b hab e => by simp at e <;> omega
  by_cases e : t = i
  · subst e
    rw [get_set_same d t u ht']
    constructor
    · rw [World.cell?_setCell_other _ _ _ _ (ne _ _ (by omega)), World.cell?_setCell_same _ _ _ c1]
    · exact World.cell?_setCell_same _ _ _ ((World.cell?_setCell_other _ _ _ _ (ne _ _ (by omega))).trans c2)
  · rw [get_set_other d i t u ht' e]
    constructor
    · rw [World.cell?_setCell_other _ _ _ _ (ne _ _ (by omega)), World.cell?_setCell_other _ _ _ _ (ne _ _ (by omega)), c1]
    · rw [World.cell?_setCell_other _ _ _ _ (ne _ _ (by omega)), World.cell?_setCell_other _ _ _ _ (ne _ _ (by omega)), c2]
/-- What the row holds, as a list in memory. -/
theorem RowP.lives {w : World} {g o : Nat} {d : Array Life} {L : List Life} (hg : g < w.heap.size) (h : RowP w g o d) (hL : L.length ≤ d.size) (he : ∀ j, j < L.length → atL L j = d[j]!) : Lives w w.heap.size (some ⟨g, o, none⟩) L := fun _ => by
  refine ⟨g, o, rfl, hg, fun k hk => ?_⟩
  rw [he k hk]
  exact (h k (by omega)).1
theorem setCells_other (g : Nat) : ∀ (vs : List Value) (s : Nat) (w : World) (t : Nat), t < s → (w.setCells g s vs).cell? ⟨g, t, none⟩ = w.cell? ⟨g, t, none⟩
  | [], _, _, _, _ => rfl
  | v :: r, s, w, t, h => by
    rw [World.setCells, setCells_other g r (s + 1) _ t (by omega)]
    exact World.cell?_setCell_other _ _ _ _ (fun e => by simp at e <;> omega)
theorem setCells_onlyP (g : Nat) : ∀ (vs : List Value) (o : Nat) (w : World), Only (fun k => k = g) w (w.setCells g o vs)
  | [], _, w => Only.refl _ w
  | v :: r, o, w => ((Only.refl (fun k => k = g) w).setCell (p := ⟨g, o, none⟩) (.inl rfl) v).trans (setCells_onlyP g r (o + 1) _) fun _ _ h => h
theorem zeroP (w : World) : (zeroValue 24).run Try.prog w = .ok (.agg #[.int .i64 0, .int .u64 0]) w := by kernel_rfl
theorem zeroP_cells (n : Nat) : ∀ v ∈ (Builtin.zeroCells #[.int .i64 0, .int .u64 0] n).toList, v.oneCell' = true := by
  intro v hv
  simp only [Builtin.zeroCells, Array.toList_map, List.mem_map] at hv
  obtain ⟨i, _, rfl⟩ := hv
  have : i % 2 = 0 ∨ i % 2 = 1 := by omega
  show (#[Value.int .i64 0, Value.int .u64 0][i % 2]!).oneCell' = true
  rcases this with e | e <;> rw [e] <;> rfl
theorem clearP (g o n c : Nat) (w : World) (d : Array Life) (k : Nat) (h : RowP w g o d) (hk : k + n = d.size) (hn : 0 < n) :
    ∃ w', (∀ ty, (Builtin.clear_ #[27] ty #[.slice (some ⟨g, o + k * 2, none⟩) n c]).run Try.prog w = .ok (.tuple #[]) w') ∧ Hid (Only (fun b => b = g) w w') ∧ Hid (∀ t, t < o + k * 2 → w'.cell? ⟨g, t, none⟩ = w.cell? ⟨g, t, none⟩) := by
  have hl : (Builtin.zeroCells #[.int .i64 0, .int .u64 0] n).toList.length = n * 2 := by simp [Builtin.zeroCells]
  have hcf : ∀ j, j < n * 2 → (w.cell? ⟨g, o + k * 2 + 0 + j, none⟩).isSome = true ∧ w.frozen? ⟨g, o + k * 2 + 0 + j, none⟩ = false := by
    intro j hj
    obtain ⟨⟨c1, c2⟩, f1, f2⟩ := h (k + j / 2) (by omega)
    rcases Nat.mod_two_eq_zero_or_one j with e | e
    · rw [show o + (k + j / 2) * 2 = o + k * 2 + 0 + j by omega] at c1 f1
      rw [c1, f1]; exact ⟨rfl, rfl⟩
    · rw [show o + (k + j / 2) * 2 + 1 = o + k * 2 + 0 + j by omega] at c2 f2
      rw [c2, f2]; exact ⟨rfl, rfl⟩
  have hst := run_storeCells_cells (P := Try.prog) g (o + k * 2) (Builtin.zeroCells #[.int .i64 0, .int .u64 0] n).toList 0 w (fun j hj => (hcf j (by omega)).1) (fun j hj => (hcf j (by omega)).2) (zeroP_cells n)
  refine ⟨_, fun ty => ?_, setCells_onlyP g (Builtin.zeroCells #[.int .i64 0, .int .u64 0] n).toList (o + k * 2) w, fun t ht => setCells_other g _ _ w t ht⟩
  simp only [Nat.add_zero] at hst
  obtain ⟨m, rfl⟩ : ∃ m, n = m + 1 := ⟨n - 1, by omega⟩
  have hz : (Value.agg #[.int .i64 0, .int .u64 0]).cells = #[.int .i64 0, .int .u64 0] := rfl
  simp [Builtin.clear_, run_underlying Try.underlying27, hz, hst]

theorem atL_toList (d : Array Life) (k : Nat) (h : k < d.size) : atL d.toList k = d[k]! := by
  rw [atL_lt (by simpa using h), getElem!_pos d k h]
  simp
end Go.Proofs.Ytlcddfkhklmieaa
/-
  Whether a list of lives is a set: the program's answer and the document's. For lists of at most 2^40 lives whose numbers are not below 0.
-/
namespace Go.Proofs.Ytlcddfkhklmieaa
set_option maxRecDepth 20000
open Go.RowKit
open Go.Sort (grow)

theorem wpQuiet_skip {P : Program} {ops : Array Oper} {C : World → Prop} {Q : Act → Prop} {o : Oper} {rest : List Oper} {a : Act} (hw : Region.wanted o (yielded ops a.tmps) = false) (h : wpQuiet P ops C Q rest (a.put o.dst undef)) : wpQuiet P ops C Q (o :: rest) a := by
  unfold wpQuiet
  rw [hw]
  exact h
theorem setUpTo_zero (l : List Life) : setUpTo l 0 := fun _ hi => absurd hi (Nat.not_lt_zero _)
theorem setUpTo_succ {l : List Life} {k : Nat} (h : setUpTo l k) (hm : mayL (atL l k)) (hb : 0 < k → before (atL l (k - 1)) (atL l k)) : setUpTo l (k + 1) := fun i hi => by
  by_cases e : i = k
  · subst e; exact ⟨hm, hb⟩
  · exact h i (by omega)
theorem setUpTo_not_may {l : List Life} {k n : Nat} (hk : k < n) (hm : ¬ mayL (atL l k)) : ¬ setUpTo l n := fun h => hm (h k hk).1
theorem setUpTo_not_before {l : List Life} {k n : Nat} (hk : k < n) (h0 : 0 < k) (hb : ¬ before (atL l (k - 1)) (atL l k)) : ¬ setUpTo l n := fun h => hb ((h k hk).2 h0)
/-- A life in a block of its own. -/
theorem one_new (w : World) (x1 x2 : Int) : (w.alloc (.cells #[.int .i64 x1, .int .u64 x2] 24)).cell? ⟨w.heap.size, 0, none⟩ = some (.int .i64 x1) ∧ (w.alloc (.cells #[.int .i64 x1, .int .u64 x2] 24)).cell? ⟨w.heap.size, 1, none⟩ = some (.int .u64 x2) := ⟨cell_at_new w _ _ 0 _ rfl, cell_at_new w _ _ 1 _ rfl⟩
end Go.Proofs.Ytlcddfkhklmieaa
/-
  Whether a list of lives is a set: the document's answer. For lists of at most 2^40 lives whose numbers are not below 0.
-/
namespace Go.Proofs.Ytlcddfkhklmieaa
set_option maxRecDepth 20000
open Go.RowKit
open Go.Sort (grow)

set_option maxHeartbeats 2000000 in
theorem rset_any (A : Option Addr) (l : List Life) (n c : Nat) (w : World) (h : Lives w w.heap.size A l) (hn : l.length = n) (hb : n ≤ 1099511627776) (hpos : ∀ p ∈ l, 0 ≤ p.2) :
    Calls Try.prog 50 #[.slice A n c] w fun e w' => e = .returned (.bool (decide (setUpTo l n))) ∧ Hid (Below w.heap.size w w') := by
  generalize hr : decide (setUpTo l n) = r
  have HR := Lib.hid hr
  have HL := Lib.hid h
  have HN := Lib.hid hn
  have HP := Lib.hid hpos
  clear hr h hn hpos
  have mixed : Try.prog.follows .mixedOrders = true := by kernel_rfl
  go_enter Try.func50, Try.ntmps50
  go_wp2
  go_loopw [3] (fun i wr => ∃ k : Nat, k ≤ n ∧ i = .int .i64 k ∧ Hid (Below w.heap.size w wr) ∧ Hid (setUpTo l k)) (fun i _ => n - (intOf i).toNat)
  case atStart => exact ⟨0, Nat.zero_le _, rfl, Lib.hid (Below.refl _ _), Lib.hid (setUpTo_zero l)⟩
  case round =>
    obtain ⟨k, hk, rfl, hbw, hset⟩ := hrel
    by_cases hlt : k < n
    · obtain ⟨b, off, rfl, hbb, hc1, hc2⟩ := (HL.out.below hbw.out).at_ (k := k) (by rw [HN.out]; exact hlt)
      have hbb2 := Lib.hid (Nat.lt_of_lt_of_le hbb hbw.out.size)
      have g0 : (0 : Int) ≤ (k : Int) := by omega
      have g1 : (k : Int) < (n : Int) := by omega
      have hp2 := HP.out _ (atL_mem (l := l) (k := k) (by rw [HN.out]; exact hlt))
      have HMay := Lib.hid (fun W => rmay_g (atL l k) hp2 W)
      have HSn := Lib.hid (show mayL (atL l k) → (0 < k → before (atL l (k - 1)) (atL l k)) → setUpTo l (k + 1) from setUpTo_succ hset.out)
      have HNm := Lib.hid (show ¬ mayL (atL l k) → ¬ setUpTo l n from setUpTo_not_may hlt)
      have HNb := Lib.hid (show 0 < k → ¬ before (atL l (k - 1)) (atL l k) → ¬ setUpTo l n from setUpTo_not_before hlt)
      have HCmp := Lib.hid (fun W => before_g (atL l (k - 1)) (atL l k) W)
      have HPrev : Hid (0 < k → wr.cell? ⟨b, off + (k - 1) * 2, none⟩ = some (.int .i64 (atL l (k - 1)).1) ∧ wr.cell? ⟨b, off + (k - 1) * 2 + 1, none⟩ = some (.int .u64 (atL l (k - 1)).2)) := Lib.hid fun h0 => by
        obtain ⟨b', off', e, _, q1, q2⟩ := (HL.out.below hbw.out).at_ (k := k - 1) (by rw [HN.out]; omega)
        cases e
        exact ⟨q1, q2⟩
      clear hp2 hbb
      generalize atL l k = x at *
      obtain ⟨x1, x2⟩ := x
      simp only at hc1 hc2
      have hbbw := hbb2.out
      have q1 := fun n os => cell_grown (n := n) (os := os) (a := ⟨b, off + k * 2, none⟩) hbbw hc1
      have q2 := fun n os => cell_grown (n := n) (os := os) (a := ⟨b, off + k * 2 + 1, none⟩) hbbw hc2
      clear hc1 hc2 hbbw
      go_wp2_with fail
      by_cases hm : mayL (x1, x2)
      · rw [decide_eq_true hm] at HMay
        have HM := Lib.hid hm
        clear hm HNm
        by_cases h0 : 0 < k
        · obtain ⟨z1, z2⟩ := HPrev.out h0
          have hbW := hbb2.out
          have z3 := fun n os => cell_grown (n := n) (os := os) (a := ⟨b, off + (k - 1) * 2, none⟩) hbW z1
          have z4 := fun n os => cell_grown (n := n) (os := os) (a := ⟨b, off + (k - 1) * 2 + 1, none⟩) hbW z2
          clear z1 z2 HPrev hbW
          generalize atL l (k - 1) = y at *
          obtain ⟨y1, y2⟩ := y
          simp only at z3 z4
          have h00 : (0 : Int) < (k : Int) := by omega
          have h01 : IntKind.i64.wrap ((k : Int) - 1) = ((k - 1 : Nat) : Int) := by
            rw [show ((k : Int) - 1) = ((k - 1 : Nat) : Int) by omega]
            simp [IntKind.wrap, IntKind.bits, IntKind.signed]; omega
          have h02 : ((k - 1 : Nat) : Int) < (n : Int) := by omega
          have h03 : (0 : Int) ≤ ((k - 1 : Nat) : Int) := by omega
          by_cases hc : before (y1, y2) (x1, x2)
          · rw [decide_eq_true hc] at HCmp
            have HS := Lib.hid (HSn.out HM.out fun _ => hc)
            clear hc HSn HNb
            go_quiet_grown (first | (go_at_call 53; refine Calls.grown_of (HMay.out _)) | (go_at_call 71; refine Calls.grown_of (HCmp.out _)))
            go_wp2
            go_roundw
            case rel => exact ⟨k + 1, by omega, by go_num, Lib.hid (btr hbw.out (grow_below _ _ _)), HS⟩
            case measure => simp [intOf]; omega
          · rw [decide_eq_false hc] at HCmp
            have HS := Lib.hid (HNb.out h0 hc)
            clear hc HSn HNb
            have : r = false := by rw [← HR.out]; exact decide_eq_false HS.out
            subst this
            go_quiet_grown (first | (go_at_call 53; refine Calls.grown_of (HMay.out _)) | (go_at_call 71; refine Calls.grown_of (HCmp.out _)))
            go_wp2
            go_ret
            exact ⟨rfl, Lib.hid (btr hbw.out (grow_below _ _ _))⟩
        · obtain rfl : k = 0 := by omega
          simp only [Nat.zero_mul, Nat.add_zero] at q1 q2
          have HS := Lib.hid (HSn.out HM.out fun h => absurd h h0)
          clear HCmp HSn HNb HPrev
          refine wp_region_quiet_grown mixed (by kernel_rfl) ?_
          iterate 10 (quiet_step ((go_at_call 53; refine Calls.grown_of (HMay.out _))))
          iterate 11 (generalize hact : ({ tmps := _, defers := [] } : Act) = aa; refine wpQuiet_skip (by rw [← hact]; kernel_rfl) ?_; subst hact; simp only [Act.put, List.setIfInBounds_toArray, List.set_cons_succ, List.set_cons_zero])
          iterate 2 (quiet_step ((go_at_call 53; refine Calls.grown_of (HMay.out _))))
          refine wpQuiet_nil ?_
          intro _ hw'
          obtain ⟨⟨nq, osq⟩, hw''⟩ := hw'
          subst hw''
          go_wp2
          go_roundw
          case rel => exact ⟨1, by omega, by go_num, Lib.hid (btr hbw.out (grow_below _ _ _)), HS⟩
          case measure => simp [intOf]; omega
      · rw [decide_eq_false hm] at HMay
        have : r = false := by rw [← HR.out]; exact decide_eq_false (HNm.out hm)
        subst this
        clear hm HNm HCmp HSn HNb HPrev
        refine wp_region_quiet_grown mixed (by kernel_rfl) ?_
        iterate 7 (quiet_step ((go_at_call 53; refine Calls.grown_of (HMay.out _))))
        iterate 15 (generalize hact : ({ tmps := _, defers := [] } : Act) = aa; refine wpQuiet_skip (by rw [← hact]; kernel_rfl) ?_; subst hact; simp only [Act.put, List.setIfInBounds_toArray, List.set_cons_succ, List.set_cons_zero])
        iterate 1 (quiet_step ((go_at_call 53; refine Calls.grown_of (HMay.out _))))
        refine wpQuiet_nil ?_
        intro _ hw'
        obtain ⟨⟨nq, osq⟩, hw''⟩ := hw'
        subst hw''
        go_wp2
        go_ret
        exact ⟨rfl, Lib.hid (btr hbw.out (grow_below _ _ _))⟩
    · obtain rfl : k = n := by omega
      have g1 : ¬ (k : Int) < (k : Int) := by omega
      go_wp2
      go_ret
      exact ⟨by rw [← HR.out, decide_eq_true hset.out]; rfl, hbw⟩
end Go.Proofs.Ytlcddfkhklmieaa
/-
  The document's Sorted: one by one, each put where it belongs. For lists of at most 2^38 lives.
-/
namespace Go.Proofs.Ytlcddfkhklmieaa
set_option maxRecDepth 20000
open Go.RowKit
open Go.Sort (grow)

theorem wpQuiet_skip2 {P : Program} {ops : Array Oper} {C : World → Prop} {Q : Act → Prop} {o : Oper} {rest : List Oper} {a : Act} (hw : Region.wanted o (yielded ops a.tmps) = false) (h : wpQuiet P ops C Q rest (a.put o.dst undef)) : wpQuiet P ops C Q (o :: rest) a := by
  unfold wpQuiet
  rw [hw]
  exact h
theorem ins_at (x : Life) : ∀ (S : List Life) (j : Nat), j ≤ S.length → (∀ i, i < j → before (atL S i) x) → (j < S.length → ¬ before (atL S j) x) → S.takeWhile (fun q => decide (before q x)) = S.take j ∧ S.dropWhile (fun q => decide (before q x)) = S.drop j
  | [], j, hj, _, _ => by simp at hj; subst hj; simp
  | a :: S, 0, _, _, h2 => by
    have : ¬ before a x := h2 (by simp)
    simp [this]
  | a :: S, j + 1, hj, h1, h2 => by
    have ha : before a x := h1 0 (Nat.succ_pos _)
    obtain ⟨e1, e2⟩ := ins_at x S j (by simpa using hj) (fun i hi => h1 (i + 1) (by omega)) (fun h => h2 (by simpa using h))
    simp [ha, e1, e2]
theorem ins_new {x : Life} {S : List Life} {j : Nat} (hx : x ∉ S) (hj : j ≤ S.length) (h1 : ∀ i, i < j → before (atL S i) x) (h2 : j < S.length → ¬ before (atL S j) x) : insL x S = S.take j ++ [x] ++ S.drop j := by
  obtain ⟨e1, e2⟩ := ins_at x S j hj h1 h2
  unfold insL
  rw [if_neg hx, e1, e2]
  simp
theorem setL_take_succ (l : List Life) (k : Nat) (hk : k < l.length) : setL (l.take (k + 1)) = insL (atL l k) (setL (l.take k)) := by
  rw [List.take_add_one, List.getElem?_eq_getElem hk, atL_lt hk]
  exact setL_snoc (l.take k) l[k]
theorem OwnP.base0 {w : World} {base n cap : Nat} {A : Option Addr} {l : List Life} (h : OwnP w base A n cap l) : ∀ k, blockOf A = some k → base ≤ k := fun k e => by
  rcases h.form with ⟨rfl, _⟩ | ⟨g, rfl, hg, _⟩
  · cases e
  · obtain rfl : g = k := by simpa [blockOf] using e
    exact hg
end Go.Proofs.Ytlcddfkhklmieaa
/-
  Arguments of lives, opened: a life, a list of lives. No condition.
-/
namespace Go.Proofs.Ytlcddfkhklmieaa
set_option maxRecDepth 20000
open Go.ChangeShapes Go.WideShapes Go.ChangeAt Go.WideMaps Go.WideElems Go.RowKit

theorem cellsLife : Try.prog.cellsOf 24 = 2 := by kernel_rfl
section
variable {H : Type} {enc : TypeId × Value → H} {W : World} {base : Nat} {v : Value} {d : DataW H} {p : List MemPlace}
theorem arg_lives (hv : Value.okWide Try.prog W .any base 27 v) (h : DataW.Trod enc Try.prog W 0 (fun _ => true) true 27 v d p) :
    ∃ (A : Option Addr) (aks : List (Int × Int)) (cap : Nat), v = .slice A aks.length cap ∧ aks.length ≤ maxLen ∧ Lives W W.heap.size A aks ∧ (A = none → cap = 0) ∧ ∀ a ∈ aks, I64 a.1 ∧ 0 ≤ a.2 ∧ a.2 < 18446744073709551616 := by
  obtain ⟨a0, len, cap, rfl⟩ := okWide_slice Try.underlying27 hv
  obtain ⟨fuel, hf⟩ := h
  rcases Deep.open_slice_pairs Try.underlying27 Try.underlying24 cellsLife rfl rfl cellsInt cells64 hf with ⟨hcs, _⟩ | ⟨a, len', cap', m, n, V0, V1, D0, D1, P0, P1, hcs, _, hl, hm, hmm, _, hcell⟩
  · obtain ⟨rfl, rfl, rfl⟩ : a0 = none ∧ len = 0 ∧ cap = 0 := by simpa [Value.cells] using hcs
    exact ⟨none, [], 0, rfl, by simp, Lives.nil_, fun _ => rfl, fun s hs => by cases hs⟩
  · obtain ⟨rfl, rfl, rfl⟩ : a0 = some a ∧ len = len' ∧ cap = cap' := by simpa [Value.cells] using hcs
    simp only [if_true] at hmm
    have hi : ∀ i, i < m → ∃ x y : Int, V0 i = .int .i64 x ∧ V1 i = .int .u64 y ∧ I64 x ∧ 0 ≤ y ∧ y < 18446744073709551616 := fun i hi => by
      obtain ⟨_, _, t0, t1⟩ := hcell i hi
      obtain ⟨x, hx, _, wx⟩ := DataW.trod_int Try.underlying3 t0
      obtain ⟨y, hy, _, wy⟩ := DataW.trod_int Try.underlying22 t1
      obtain ⟨y', rfl, hy'⟩ := wf_u64 wy
      exact ⟨x, y', by simpa using hx, by simpa using hy, wf_i64 wx, by omega, by omega⟩
    have hv0 : ∀ i, i < m → V0 i = .int .i64 (intOf (V0 i)) ∧ V1 i = .int .u64 (intOf (V1 i)) ∧ I64 (intOf (V0 i)) ∧ 0 ≤ intOf (V1 i) ∧ intOf (V1 i) < 18446744073709551616 := fun i hi' => by
      obtain ⟨x, y, e1, e2, h1, h2⟩ := hi i hi'
      rw [e1, e2]
      exact ⟨rfl, rfl, h1, h2⟩
    refine ⟨some a, (List.range len).map fun i => (intOf (V0 i), intOf (V1 i)), cap, by simp, by simp; omega, fun hn => ?_, fun e => (by cases e), fun s hs => ?_⟩
    · have hn' : 0 < m := by simp at hn; omega
      obtain ⟨b, off, rfl⟩ : ∃ b off, a = ⟨b, off, none⟩ := by
        have h0 := (hcell 0 hn').1
        obtain ⟨b, off, spot⟩ := a
        have hspot : spot = none := by simpa [Addr.add] using World.cell?_spot h0
        subst hspot
        exact ⟨b, off, rfl⟩
      refine ⟨b, off, rfl, ?_, fun k hk => ?_⟩
      · have h0 := (hcell 0 hn').1
        rw [add_mk] at h0
        exact World.block_lt_of_cell? _ _ h0
      · have hk1 : k < len := by simpa using hk
        obtain ⟨h1, h2, _⟩ := hcell k (by omega)
        obtain ⟨e1, e2, _⟩ := hv0 k (by omega)
        rw [add_mk] at h1 h2
        have hg : (((List.range len).map fun i => (intOf (V0 i), intOf (V1 i))).getD k (0, 0)) = (intOf (V0 k), intOf (V1 k)) := by simp [List.getD, hk1]
        rw [atL, hg, h1, Nat.add_assoc, h2]
        exact ⟨by rw [← e1], by rw [← e2]⟩
    · obtain ⟨i, hi', rfl⟩ := List.mem_map.1 hs
      exact (hv0 i (by have := List.mem_range.1 hi'; omega)).2.2
theorem arg_life (hv : Value.okWide Try.prog W .any base 24 v) (h : DataW.Trod enc Try.prog W 0 (fun _ => true) true 24 v d p) :
    ∃ q : Life, v = lifeV q ∧ I64 q.1 ∧ 0 ≤ q.2 ∧ q.2 < 18446744073709551616 := by
  obtain ⟨v0, v1, y0, y1, n, rfl, _, _, t0, t1⟩ := Go.Joins.open_agg2 Try.underlying24 (by kernel_rfl) cellsLife hv h
  obtain ⟨x, hx, _, wx⟩ := DataW.trod_int Try.underlying3 t0
  obtain ⟨y, hy, _, wy⟩ := DataW.trod_int Try.underlying22 t1
  obtain ⟨y', rfl, hy'⟩ := wf_u64 wy
  obtain rfl : v0 = .int .i64 x := by simpa using hx
  obtain rfl : v1 = .int .u64 y' := by simpa using hy
  exact ⟨(x, y'), rfl, wf_i64 wx, by simp only; omega, by simp only; omega⟩
end
end Go.Proofs.Ytlcddfkhklmieaa
