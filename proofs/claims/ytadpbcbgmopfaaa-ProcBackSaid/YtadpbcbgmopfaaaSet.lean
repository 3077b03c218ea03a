/-
  Lists of lives as sets: their order, a list's lives in that order, each once; what unions, meets and what is left obey. No condition.
-/
import Derived.Lib.SlicesCompact
import Derived.Sort.Statements
namespace Go.Proofs.Ytadpbcbgmopfaaa
open Go.Lib Go.Sort

/-- A life: its node, its number. -/
abbrev Life := Int × Int
def before (p q : Life) : Prop := p.1 < q.1 ∨ (p.1 = q.1 ∧ p.2 < q.2)
instance (p q : Life) : Decidable (before p q) := inferInstanceAs (Decidable (_ ∨ _))
theorem before_irrefl (p : Life) : ¬ before p p := by unfold before; omega
theorem before_trans {p q r : Life} (h : before p q) (k : before q r) : before p r := by unfold before at *; omega
theorem before_asymm {p q : Life} (h : before p q) : ¬ before q p := fun k => before_irrefl p (before_trans h k)
theorem before_total (p q : Life) : before p q ∨ p = q ∨ before q p := by
  by_cases e : p = q
  · exact .inr (.inl e)
  · have : p.1 ≠ q.1 ∨ p.2 ≠ q.2 := by
      by_cases h1 : p.1 = q.1
      · exact .inr fun h2 => e (Prod.ext h1 h2)
      · exact .inl h1
    unfold before
    omega
/-- How two lives stand. -/
def cmpL (p q : Life) : Int := if before p q then -1 else if before q p then 1 else 0
theorem cmpL_lt (p q : Life) : cmpL p q < 0 ↔ before p q := by
  unfold cmpL
  by_cases h : before p q
  · simp [h]
  · by_cases h2 : before q p <;> simp [h, h2]
theorem cmpL_ge (p q : Life) : 0 ≤ cmpL p q ↔ ¬ before p q := by rw [← cmpL_lt]; omega
theorem cmpL_zero (p q : Life) : cmpL p q = 0 ↔ p = q := by
  unfold cmpL
  by_cases h : before p q
  · simp [h]; rintro rfl; exact before_irrefl _ h
  · by_cases h2 : before q p
    · simp [h, h2]; rintro rfl; exact before_irrefl _ h2
    · simp [h, h2]
      rcases before_total p q with h' | h' | h'
      · exact absurd h' h
      · exact h'
      · exact absurd h' h2
theorem cmpL_neg (p q : Life) : cmpL q p = - cmpL p q := by
  unfold cmpL
  by_cases h : before p q
  · simp [h, before_asymm h]
  · by_cases h2 : before q p <;> simp [h, h2]
theorem cmpL_range (p q : Life) : cmpL p q = -1 ∨ cmpL p q = 0 ∨ cmpL p q = 1 := by
  unfold cmpL
  by_cases h : before p q
  · simp [h]
  · by_cases h2 : before q p <;> simp [h, h2]

abbrev Rising (s : List Life) : Prop := s.Pairwise before
theorem rising_ext : ∀ (s t : List Life), Rising s → Rising t → (∀ p, p ∈ s ↔ p ∈ t) → s = t
  | [], [], _, _, _ => rfl
  | [], b :: t, _, _, h => absurd ((h b).2 (by simp)) (by simp)
  | a :: s, [], _, _, h => absurd ((h a).1 (by simp)) (by simp)
  | a :: s, b :: t, hs, ht, h => by
    have hs' := List.pairwise_cons.1 hs
    have ht' := List.pairwise_cons.1 ht
    have e : a = b := by
      rcases List.mem_cons.1 ((h a).1 (by simp)) with e | e
      · exact e
      · rcases List.mem_cons.1 ((h b).2 (by simp)) with e2 | e2
        · exact e2.symm
        · exact absurd (ht'.1 a e) (before_asymm (hs'.1 b e2))
    subst e
    rw [rising_ext s t hs'.2 ht'.2 fun p => ⟨fun hp => ?_, fun hp => ?_⟩]
    · rcases List.mem_cons.1 ((h p).1 (List.mem_cons_of_mem _ hp)) with e | e
      · subst e; exact absurd (hs'.1 _ hp) (before_irrefl _)
      · exact e
    · rcases List.mem_cons.1 ((h p).2 (List.mem_cons_of_mem _ hp)) with e | e
      · subst e; exact absurd (ht'.1 _ hp) (before_irrefl _)
      · exact e

/-- p put where it belongs. -/
def insL (p : Life) (s : List Life) : List Life :=
  if p ∈ s then s else s.takeWhile (fun q => decide (before q p)) ++ p :: s.dropWhile (fun q => decide (before q p))
theorem mem_insL (p q : Life) (s : List Life) : q ∈ insL p s ↔ q = p ∨ q ∈ s := by
  unfold insL
  by_cases h : p ∈ s
  · rw [if_pos h]
    constructor
    · exact .inr
    · rintro (rfl | h2)
      · exact h
      · exact h2
  · rw [if_neg h]
    have e := List.takeWhile_append_dropWhile (p := fun q => decide (before q p)) (l := s)
    constructor
    · intro hq
      rcases List.mem_append.1 hq with hq | hq
      · exact .inr (by rw [← e]; exact List.mem_append_left _ hq)
      · rcases List.mem_cons.1 hq with hq | hq
        · exact .inl hq
        · exact .inr (by rw [← e]; exact List.mem_append_right _ hq)
    · rintro (rfl | hq)
      · simp
      · rw [← e] at hq
        rcases List.mem_append.1 hq with hq | hq
        · exact List.mem_append_left _ hq
        · exact List.mem_append_right _ (List.mem_cons_of_mem _ hq)
theorem take_before (p : Life) : ∀ (s : List Life), ∀ q, q ∈ s.takeWhile (fun q => decide (before q p)) → before q p
  | [], q, h => by cases h
  | a :: s, q, h => by
    rw [List.takeWhile_cons] at h
    by_cases ha : before a p
    · rw [if_pos (by simpa using ha)] at h
      rcases List.mem_cons.1 h with e | e
      · rw [e]; exact ha
      · exact take_before p s q e
    · rw [if_neg (by simpa using ha)] at h
      cases h
theorem drop_behind (p : Life) : ∀ (s : List Life), Rising s → p ∉ s → ∀ q, q ∈ s.dropWhile (fun q => decide (before q p)) → before p q
  | [], _, _, q, h => by cases h
  | a :: s, hs, hp, q, h => by
    have hs' := List.pairwise_cons.1 hs
    rw [List.dropWhile_cons] at h
    by_cases ha : before a p
    · rw [if_pos (by simpa using ha)] at h
      exact drop_behind p s hs'.2 (fun hh => hp (List.mem_cons_of_mem _ hh)) q h
    · rw [if_neg (by simpa using ha)] at h
      have hap : before p a := by
        rcases before_total p a with h1 | h1 | h1
        · exact h1
        · subst h1; exact absurd (by simp) hp
        · exact absurd h1 ha
      rcases List.mem_cons.1 h with e | e
      · rw [e]; exact hap
      · exact before_trans hap (hs'.1 q e)
theorem rising_insL (p : Life) (s : List Life) (hs : Rising s) : Rising (insL p s) := by
  unfold insL
  by_cases h : p ∈ s
  · rw [if_pos h]; exact hs
  · rw [if_neg h]
    have e := List.takeWhile_append_dropWhile (p := fun q => decide (before q p)) (l := s)
    have hs2 := hs
    rw [← e] at hs2
    obtain ⟨h1, h2, h3⟩ := List.pairwise_append.1 hs2
    refine List.pairwise_append.2 ⟨h1, List.pairwise_cons.2 ⟨fun q hq => drop_behind p s hs h q hq, h2⟩, fun a ha b hb => ?_⟩
    rcases List.mem_cons.1 hb with e2 | e2
    · rw [e2]; exact take_before p s a ha
    · exact h3 a ha b e2

/-- The lives of a list in their order, each once. -/
def setL (l : List Life) : List Life := l.foldl (fun s p => insL p s) []
theorem setL_foldl : ∀ (l s : List Life), Rising s → Rising (l.foldl (fun s p => insL p s) s) ∧ ∀ q, q ∈ l.foldl (fun s p => insL p s) s ↔ q ∈ s ∨ q ∈ l
  | [], s, hs => ⟨hs, fun q => by simp⟩
  | a :: l, s, hs => by
    obtain ⟨h1, h2⟩ := setL_foldl l (insL a s) (rising_insL a s hs)
    refine ⟨h1, fun q => ?_⟩
    rw [List.foldl_cons, h2, mem_insL, List.mem_cons]
    constructor
    · rintro ((h | h) | h)
      · exact .inr (.inl h)
      · exact .inl h
      · exact .inr (.inr h)
    · rintro (h | h | h)
      · exact .inl (.inr h)
      · exact .inl (.inl h)
      · exact .inr h
theorem rising_setL (l : List Life) : Rising (setL l) := (setL_foldl l [] List.Pairwise.nil).1
theorem mem_setL (l : List Life) (q : Life) : q ∈ setL l ↔ q ∈ l := by
  rw [setL, (setL_foldl l [] List.Pairwise.nil).2]
  simp
theorem setL_eq {s l : List Life} (hs : Rising s) (h : ∀ p, p ∈ s ↔ p ∈ l) : s = setL l := rising_ext _ _ hs (rising_setL l) fun p => (h p).trans (mem_setL l p).symm
theorem setL_self {s : List Life} (hs : Rising s) : setL s = s := (setL_eq hs fun _ => Iff.rfl).symm
theorem setL_idem (l : List Life) : setL (setL l) = setL l := setL_self (rising_setL l)
theorem setL_congr {l m : List Life} (h : ∀ p, p ∈ l ↔ p ∈ m) : setL l = setL m := setL_eq (rising_setL l) fun p => (mem_setL l p).trans (h p)
theorem setL_iff {l m : List Life} : setL l = setL m ↔ ∀ p, p ∈ l ↔ p ∈ m := ⟨fun h p => by rw [← mem_setL l, h, mem_setL], setL_congr⟩
theorem setL_snoc (l : List Life) (p : Life) : setL (l ++ [p]) = insL p (setL l) := by simp [setL, List.foldl_append]
theorem insL_length (p : Life) (s : List Life) : (insL p s).length ≤ s.length + 1 := by
  unfold insL
  by_cases h : p ∈ s
  · rw [if_pos h]; omega
  · rw [if_neg h]
    have e := congrArg List.length (List.takeWhile_append_dropWhile (p := fun q => decide (before q p)) (l := s))
    simp only [List.length_append, List.length_cons] at *
    omega
theorem setL_fold_le : ∀ (l s : List Life), (l.foldl (fun s p => insL p s) s).length ≤ s.length + l.length
  | [], s => by simp
  | a :: l, s => by
    have := setL_fold_le l (insL a s)
    have := insL_length a s
    simp only [List.foldl_cons, List.length_cons]
    omega
theorem setL_length (l : List Life) : (setL l).length ≤ l.length := by
  have := setL_fold_le l []
  simpa [setL] using this

/-- Those that a list keeps of another's set. -/
theorem setL_filter (f : Life → Bool) (l : List Life) : (setL l).filter f = setL (l.filter f) :=
  setL_eq ((rising_setL l).sublist List.filter_sublist) fun p => by simp [List.mem_filter, mem_setL]
def meetL (a b : List Life) : List Life := setL (a.filter fun p => decide (p ∈ b))
def minusL (a b : List Life) : List Life := setL (a.filter fun p => !decide (p ∈ b))
theorem mem_meetL (a b : List Life) (p : Life) : p ∈ meetL a b ↔ p ∈ a ∧ p ∈ b := by simp [meetL, mem_setL]
theorem mem_minusL (a b : List Life) (p : Life) : p ∈ minusL a b ↔ p ∈ a ∧ p ∉ b := by simp [minusL, mem_setL]

/-! What a list that is put in order comes to behind Compact. -/
theorem keeps_mem {α : Type} [Inhabited α] [DecidableEq α] (d : Array α) : ∀ m, m ≤ d.size → ∀ x, x ∈ compactUpTo d m ↔ ∃ j, j < m ∧ d[j]! = x
  | 0, _, x => by simp [compactUpTo]
  | m + 1, hm, x => by
    rw [compactUpTo_succ, List.mem_append, keeps_mem d m (by omega) x]
    by_cases hk : keeps d m = true
    · rw [if_pos hk]
      constructor
      · rintro (⟨j, hj, e⟩ | h)
        · exact ⟨j, by omega, e⟩
        · exact ⟨m, by omega, by simpa using (List.mem_singleton.1 h).symm⟩
      · rintro ⟨j, hj, e⟩
        by_cases h : j = m
        · subst h; exact .inr (by simp [e])
        · exact .inl ⟨j, by omega, e⟩
    · rw [if_neg hk]
      have hd : m ≠ 0 ∧ d[m]! = d[m - 1]! := by
        have : ¬ (m = 0 ∨ d[m]! ≠ d[m - 1]!) := fun h => hk (by simp [keeps, h])
        exact ⟨fun h => this (.inl h), by
          by_cases e : d[m]! = d[m - 1]!
          · exact e
          · exact absurd (.inr e) this⟩
      constructor
      · rintro (⟨j, hj, e⟩ | h)
        · exact ⟨j, by omega, e⟩
        · cases h
      · rintro ⟨j, hj, e⟩
        by_cases h : j = m
        · subst h; exact .inl ⟨j - 1, by omega, by rw [← hd.2]; exact e⟩
        · exact .inl ⟨j, by omega, e⟩
/-- A row whose neighbours never fall: what Compact leaves rises strictly. -/
theorem compact_rising {α : Type} {R : α → α → Prop} [Inhabited α] [DecidableEq α] (trans : ∀ x y z, R x y → R y z → R x z) (tot : ∀ x y, ¬ R y x → x = y ∨ R x y) (d : Array α) (hd : ∀ i j, i < j → j < d.size → ¬ R d[j]! d[i]!) :
    ∀ m, m ≤ d.size → (compactUpTo d m).Pairwise R
  | 0, _ => by simp [compactUpTo]
  | m + 1, hm => by
    rw [compactUpTo_succ]
    by_cases hk : keeps d m = true
    · rw [if_pos hk]
      refine List.pairwise_append.2 ⟨compact_rising trans tot d hd m (by omega), by simp, fun a ha b hb => ?_⟩
      obtain rfl : b = d[m]! := by simpa using hb
      obtain ⟨j, hj, rfl⟩ := (keeps_mem d m (by omega) a).1 ha
      have hk' : m = 0 ∨ d[m]! ≠ d[m - 1]! := by simpa [keeps] using hk
      have hne : d[m]! ≠ d[m - 1]! := by
        rcases hk' with h | h
        · omega
        · exact h
      have h1 : R d[m - 1]! d[m]! := by
        rcases tot _ _ (hd (m - 1) m (by omega) (by omega)) with h | h
        · exact absurd h.symm hne
        · exact h
      by_cases e : j = m - 1
      · subst e; exact h1
      · rcases tot _ _ (hd j (m - 1) (by omega) (by omega)) with h | h
        · rw [h]; exact h1
        · exact trans _ _ _ h h1
    · rw [if_neg hk, List.append_nil]
      exact compact_rising trans tot d hd m (by omega)
theorem ltOf_cmpL (p q : Life) : decide (cmpL p q < 0) = decide (before p q) := by
  rw [Bool.eq_iff_iff, decide_eq_true_iff, decide_eq_true_iff, cmpL_lt]
theorem mem_toList_get {α : Type} [Inhabited α] (d : Array α) (x : α) : x ∈ d.toList ↔ ∃ j, j < d.size ∧ d[j]! = x := by
  constructor
  · intro h
    obtain ⟨j, hj, rfl⟩ := List.getElem_of_mem h
    have hj' : j < d.size := by simpa using hj
    exact ⟨j, hj', by rw [getElem!_pos d j hj']; simp⟩
  · rintro ⟨j, hj, rfl⟩
    rw [getElem!_pos d j hj]
    exact Array.getElem_mem_toList hj
/-- Put in order, and compacted: the list's set. -/
theorem compact_set (l : List Life) (d : Array Life) (hp : d.toList.Perm l) (hs : ∀ i j, i < j → j < d.size → ¬ before d[j]! d[i]!) : compactUpTo d d.size = setL l :=
  setL_eq (compact_rising (R := before) (fun _ _ _ => before_trans) (fun x y h => by
      rcases before_total x y with h1 | h1 | h1
      · exact .inr h1
      · exact .inl h1
      · exact absurd h1 h) d hs d.size (Nat.le_refl _)) fun p => by
    rw [keeps_mem d d.size (Nat.le_refl _) p]
    exact (mem_toList_get d p).symm.trans hp.mem_iff

/-- May a life be? -/
def mayL (p : Life) : Prop := 1 ≤ p.1 ∧ p.1 ≤ 10 ∧ 0 < p.2
instance (p : Life) : Decidable (mayL p) := inferInstanceAs (Decidable (_ ∧ _))
/-- The life at place k. -/
abbrev atL (l : List Life) (k : Nat) : Life := l.getD k (0, 0)
/-- Up to place n it is a set. -/
def setUpTo (l : List Life) (n : Nat) : Prop := ∀ i, i < n → mayL (atL l i) ∧ (0 < i → before (atL l (i - 1)) (atL l i))
instance (l : List Life) (n : Nat) : Decidable (setUpTo l n) := inferInstanceAs (Decidable (∀ i, i < n → _))
abbrev isSet (l : List Life) : Prop := setUpTo l l.length
theorem atL_lt {l : List Life} {k : Nat} (h : k < l.length) : atL l k = l[k] := by simp [atL, List.getD, h]
theorem atL_mem {l : List Life} {k : Nat} (h : k < l.length) : atL l k ∈ l := by rw [atL_lt h]; exact List.getElem_mem h
theorem setUpTo_rising {s : List Life} (hs : Rising s) (hm : ∀ p, p ∈ s → mayL p) : isSet s := fun i hi => ⟨hm _ (atL_mem hi), fun h0 => by
  rw [atL_lt hi, atL_lt (show i - 1 < s.length by omega)]
  exact List.pairwise_iff_getElem.1 hs (i - 1) i (by omega) hi (by omega)⟩
/-- The nodes of lives that rise, each once. -/
def nodesL (l : List Life) : List Int := compactUpTo ((setL l).map (·.1)).toArray (setL l).length
end Go.Proofs.Ytadpbcbgmopfaaa
