/-
  Packets, as the document says them: which may be, their bytes, what bytes say; there and back, one form, their end. No condition; nothing here speaks of a program.
-/
import Derived.Test.YtlcddfkhklmieaaFset
import Derived.Test.YtlcddfkhklmieaaGc
namespace Go.Proofs.Ytlcddfkhklmieaa
open Go.RowKit

/-- A head. -/
structure Hd where
  dst : Int
  conn : Nat
  seq : Nat
  inc : Nat
deriving DecidableEq
def noH : Hd := ⟨0, 0, 0, 0⟩
/-- A packet. -/
structure Pk where
  kind : Int
  src : Life
  hops : Int
  heads : List Hd
  body : List UInt8
  srv : Life
  aseq : Nat
  peers : List Life
deriving DecidableEq
def noK : Pk := ⟨0, (0, 0), 0, [], [], (0, 0), 0, []⟩
def lifeK (p : Life) : Prop := mayL p ∧ p.2 < 34359738368
instance (p : Life) : Decidable (lifeK p) := inferInstanceAs (Decidable (_ ∧ _))
def srvK (p : Life) : Prop := lifeK p ∧ p.1 ≤ 4
instance (p : Life) : Decidable (srvK p) := inferInstanceAs (Decidable (_ ∧ _))
def srvsK (l : List Life) : Prop := ∀ i, i < l.length → srvK (atL l i)
instance (l : List Life) : Decidable (srvsK l) := inferInstanceAs (Decidable (∀ i, i < l.length → _))
/-- What an advert says may be. -/
def advK (srv : Life) (aseq : Nat) (peers : List Life) : Prop := srvK srv ∧ aseq ≠ 0 ∧ cnt aseq ∧ isSet peers ∧ srvsK peers ∧ apart (srv :: peers)
instance (srv : Life) (aseq : Nat) (peers : List Life) : Decidable (advK srv aseq peers) := inferInstanceAs (Decidable (_ ∧ _ ∧ _ ∧ _ ∧ _ ∧ _))
def atH (l : List Hd) (i : Nat) : Hd := l.getD i noH
def headK (kind n : Int) (h : Hd) : Prop := nodeF h.dst ∧ h.dst ≠ n ∧ h.conn ≠ 0 ∧ cnt h.conn ∧ cnt h.seq ∧ cnt h.inc ∧ ¬ (kind = 2 ∧ (h.seq = 0 ∨ h.inc ≠ 0)) ∧ ¬ (kind = 3 ∧ h.inc = 0)
instance (kind n : Int) (h : Hd) : Decidable (headK kind n h) := inferInstanceAs (Decidable (_ ∧ _ ∧ _ ∧ _ ∧ _ ∧ _ ∧ _ ∧ _))
def headsUpTo (kind n : Int) (l : List Hd) (k : Nat) : Prop := ∀ i, i < k → headK kind n (atH l i) ∧ (0 < i → (atH l (i - 1)).dst < (atH l i).dst)
instance (kind n : Int) (l : List Hd) (k : Nat) : Decidable (headsUpTo kind n l k) := inferInstanceAs (Decidable (∀ i, i < k → _))
def headsK (kind n : Int) (l : List Hd) : Prop := headsUpTo kind n l l.length ∧ 1 ≤ l.length
instance (kind n : Int) (l : List Hd) : Decidable (headsK kind n l) := inferInstanceAs (Decidable (_ ∧ _))
def aloneK (p : Pk) : Prop := p.src = (0, 0) ∧ p.hops = 0 ∧ p.heads = [] ∧ p.body = []
instance (p : Pk) : Decidable (aloneK p) := inferInstanceAs (Decidable (_ ∧ _ ∧ _ ∧ _))
def bareK (p : Pk) : Prop := p.srv = (0, 0) ∧ p.aseq = 0 ∧ p.peers = []
instance (p : Pk) : Decidable (bareK p) := inferInstanceAs (Decidable (_ ∧ _ ∧ _))
def endK (p : Pk) : Prop := (p.kind = 2 ∧ 1 ≤ p.body.length ∧ p.body.length ≤ 320) ∨ (p.kind = 3 ∧ p.body = [] ∧ p.heads.length = 1)
instance (p : Pk) : Decidable (endK p) := inferInstanceAs (Decidable (_ ∨ _))
/-- A packet may be. -/
def mayK (p : Pk) : Prop := (p.kind = 1 ∧ aloneK p ∧ advK p.srv p.aseq p.peers) ∨ (p.kind ≠ 1 ∧ bareK p ∧ lifeK p.src ∧ 0 ≤ p.hops ∧ p.hops ≤ 8 ∧ headsK p.kind p.src.1 p.heads ∧ endK p)
instance (p : Pk) : Decidable (mayK p) := inferInstanceAs (Decidable (_ ∨ _))
def headL (k3 : Bool) (h : Hd) : List UInt8 := byteI h.dst :: (shortL h.conn ++ shortL h.seq ++ if k3 = true then shortL h.inc else [])
def headsL (k3 : Bool) (l : List Hd) : List UInt8 := l.flatMap (headL k3)
def advL (p : Pk) : List UInt8 := putL p.srv ++ shortL p.aseq ++ byteI (p.peers.length : Nat) :: putsL p.peers
def restL (p : Pk) : List UInt8 := putL p.src ++ byteI p.hops :: byteI (p.heads.length : Nat) :: (headsL (decide (p.kind = 3)) p.heads ++ if p.kind = 2 then shortL p.body.length ++ p.body else [])
/-- Its bytes. -/
def packetL (p : Pk) : List UInt8 := byteI p.kind :: (if p.kind = 1 then advL p else restL p)

/-! What bytes say. -/
def getH (k3 : Bool) (s : RS) : Hd × RS :=
  (⟨((rWide s 1).1 : Int), (rUint (rWide s 1).2).1, (rUint (rUint (rWide s 1).2).2).1, if k3 = true then (rUint (rUint (rUint (rWide s 1).2).2).2).1 else 0⟩,
   if k3 = true then (rUint (rUint (rUint (rWide s 1).2).2).2).2 else (rUint (rUint (rWide s 1).2).2).2)
def getHs (k3 : Bool) : Nat → RS → List Hd × RS
  | 0, s => ([], s)
  | k + 1, s => ((getHs k3 k s).1 ++ [(getH k3 (getHs k3 k s).2).1], (getH k3 (getHs k3 k s).2).2)
def rawA (s : RS) : Pk × RS :=
  (⟨1, (0, 0), 0, [], [], (gotL s).1, (rUint (gotL s).2).1, (getSetL (rUint (gotL s).2).2 10).1⟩, (getSetL (rUint (gotL s).2).2 10).2)
def hopsS (s : RS) : Nat × RS := rWide (gotL s).2 1
def lenS (s : RS) : Nat × RS := rWide (hopsS s).2 1
def headS (k3 : Bool) (s : RS) : List Hd × RS := getHs k3 (lenS s).1 (lenS s).2
def bodyS (k : Nat) (s : RS) : List UInt8 × RS := if k = 2 then rText (headS (decide (k = 3)) s).2 320 else ([], (headS (decide (k = 3)) s).2)
def rawB (k : Nat) (s : RS) : Pk × RS := (⟨(k : Int), (gotL s).1, ((hopsS s).1 : Int), (headS (decide (k = 3)) s).1, (bodyS k s).1, (0, 0), 0, []⟩, (bodyS k s).2)
def rawK (s : RS) : Pk × RS := if (rWide s 1).1 = 1 then rawA (rWide s 1).2 else rawB (rWide s 1).1 (rWide s 1).2
/-- The packet whose bytes they are, if there is one. -/
def readK (b : List UInt8) : Option Pk :=
  if (rawK ⟨b, false⟩).2.bad = false ∧ mayK (rawK ⟨b, false⟩).1 ∧ packetL (rawK ⟨b, false⟩).1 = b then some (rawK ⟨b, false⟩).1 else none

theorem rWide_byte (x : UInt8) (r : List UInt8) : rWide ⟨x :: r, false⟩ 1 = (x.toNat, ⟨r, false⟩) := by
  unfold rWide
  rw [if_neg (by simp)]
  simp [numLE]
theorem cnt_u64 {x : Nat} (h : cnt x) : x < 18446744073709551616 := by unfold cnt at h; omega
theorem getH_put (k3 : Bool) (h : Hd) (h0 : 0 ≤ h.dst) (h1 : h.dst < 256) (hc : cnt h.conn) (hs : cnt h.seq) (hi : cnt h.inc) (hz : k3 = false → h.inc = 0) (r : List UInt8) :
    getH k3 ⟨headL k3 h ++ r, false⟩ = (h, ⟨r, false⟩) := by
  obtain ⟨dst, conn, seq, inc⟩ := h
  simp only at h0 h1 hc hs hi hz
  have e0 : rWide ⟨headL k3 ⟨dst, conn, seq, inc⟩ ++ r, false⟩ 1 = ((byteI dst).toNat, ⟨shortL conn ++ (shortL seq ++ ((if k3 = true then shortL inc else []) ++ r)), false⟩) := by
    unfold headL
    rw [List.cons_append, rWide_byte]
    simp
  have b0 := byteI_back h0 h1
  unfold getH
  rw [e0]
  simp only
  rw [rUint_wrote (cnt_u64 hc)]
  simp only
  rw [rUint_wrote (cnt_u64 hs)]
  simp only
  cases k3 with
  | true =>
    simp only [if_true]
    rw [rUint_wrote (cnt_u64 hi)]
    simp only
    rw [b0]
  | false =>
    obtain rfl := hz rfl
    simp only [Bool.false_eq_true, if_false, List.nil_append]
    rw [b0]
def goodH (k3 : Bool) (h : Hd) : Prop := 0 ≤ h.dst ∧ h.dst < 256 ∧ cnt h.conn ∧ cnt h.seq ∧ cnt h.inc ∧ (k3 = false → h.inc = 0)
theorem headsL_cons (k3 : Bool) (h : Hd) (l : List Hd) : headsL k3 (h :: l) = headL k3 h ++ headsL k3 l := rfl
theorem getHs_put (k3 : Bool) (l : List Hd) (hg : ∀ h ∈ l, goodH k3 h) (r : List UInt8) : ∀ k, k ≤ l.length → getHs k3 k ⟨headsL k3 l ++ r, false⟩ = (l.take k, ⟨headsL k3 (l.drop k) ++ r, false⟩)
  | 0, _ => by simp [getHs]
  | k + 1, hk => by
    have hk' : k < l.length := by omega
    obtain ⟨g0, g1, g2, g3, g4, g5⟩ := hg l[k] (List.getElem_mem hk')
    rw [getHs, getHs_put k3 l hg r k (by omega)]
    simp only
    have hd : l.drop k = l[k] :: l.drop (k + 1) := List.drop_eq_getElem_cons hk'
    rw [hd, headsL_cons, List.append_assoc, getH_put k3 l[k] g0 g1 g2 g3 g4 g5]
    have ht : l.take (k + 1) = l.take k ++ [l[k]] := by rw [List.take_add_one, List.getElem?_eq_getElem hk']; rfl
    rw [ht]
theorem atH_mem {l : List Hd} {h : Hd} (hm : h ∈ l) : ∃ i, i < l.length ∧ atH l i = h := by
  obtain ⟨i, hi, rfl⟩ := List.getElem_of_mem hm
  exact ⟨i, hi, by simp [atH, List.getD, hi]⟩
theorem heads_rise {kind n : Int} {l : List Hd} (h : headsUpTo kind n l l.length) : ∀ i, i < l.length → (i : Int) + 1 ≤ (atH l i).dst
  | 0, hi => by have := (h 0 hi).1.1; unfold nodeF at this; omega
  | i + 1, hi => by
    have h1 := heads_rise h i (by omega)
    have h2 := (h (i + 1) hi).2 (by omega)
    simp only [Nat.add_sub_cancel] at h2
    omega
theorem heads_ten {kind n : Int} {l : List Hd} (h : headsUpTo kind n l l.length) : l.length ≤ 10 := by
  rcases Nat.eq_zero_or_pos l.length with h0 | h0
  · omega
  · have h1 := heads_rise h (l.length - 1) (by omega)
    have h2 := (h (l.length - 1) (by omega)).1.1.2
    omega
theorem peers_rise {srv : Life} {l : List Life} (hs : isSet l) (ha : apart (srv :: l)) : ∀ i, i < l.length → (i : Int) + 1 ≤ (atL l i).1
  | 0, hi => (hs 0 hi).1.1
  | i + 1, hi => by
    have h1 := peers_rise hs ha i (by omega)
    have h2 := (hs (i + 1) hi).2 (by omega)
    have h3 := ha (i + 2) (by simp; omega) (i + 1) (by omega)
    simp only [Nat.add_sub_cancel] at h2
    have e1 : atL (srv :: l) (i + 2) = atL l (i + 1) := by simp [atL]
    have e2 : atL (srv :: l) (i + 1) = atL l i := by simp [atL]
    rw [e1, e2] at h3
    unfold before at h2
    omega
theorem peers_four {srv : Life} {aseq : Nat} {l : List Life} (h : advK srv aseq l) : l.length ≤ 4 := by
  obtain ⟨_, _, _, hs, hv, ha⟩ := h
  rcases Nat.eq_zero_or_pos l.length with h0 | h0
  · omega
  · have h1 := peers_rise hs ha (l.length - 1) (by omega)
    have h2 := (hv (l.length - 1) (by omega)).2
    omega
theorem set_may {l : List Life} (h : isSet l) : ∀ q ∈ l, mayL q := fun q hq => by
  obtain ⟨i, hi, rfl⟩ := List.getElem_of_mem hq
  have := (h i hi).1
  rwa [atL_lt hi] at this
theorem srvs_small {l : List Life} (h : srvsK l) : ∀ q ∈ l, q.2 < 34359738368 := fun q hq => by
  obtain ⟨i, hi, rfl⟩ := List.getElem_of_mem hq
  have := (h i hi).1.2
  rwa [atL_lt hi] at this
theorem getSetL_put (S : List Life) (hs : isSet S) (hu : Unsigned S) (n : Nat) (hn : S.length = n) (h10 : n ≤ 10) (r : List UInt8) : getSetL ⟨byteI (n : Nat) :: (putsL S ++ r), false⟩ 10 = (S, ⟨r, false⟩) := by
  subst hn
  have b0 : (byteI (S.length : Nat)).toNat = S.length := by have := byteI_back (x := (S.length : Int)) (by omega) (by omega); omega
  unfold getSetL
  rw [rWide_byte, b0]
  simp only
  have hg := gets_put S (set_may hs) hu r S.length (Nat.le_refl _)
  rw [hg]
  simp only [List.take_length, List.drop_length, putsL_nil, List.nil_append]
  rw [if_neg (by omega), if_pos hs]
theorem rawK_put {p : Pk} (h : mayK p) (r : List UInt8) : rawK ⟨packetL p ++ r, false⟩ = (p, ⟨r, false⟩) := by
  obtain ⟨kind, src, hops, heads, body, srv, aseq, peers⟩ := p
  unfold mayK at h
  simp only at h
  rcases h with ⟨rfl, ha, hv⟩ | ⟨hk1, hb, hl, hh0, hh8, hhs, he⟩
  · unfold aloneK at ha
    simp only at ha
    obtain ⟨rfl, rfl, rfl, rfl⟩ := ha
    have h4 := peers_four hv
    obtain ⟨hsv, _, hq, hst, hps, _⟩ := hv
    have e0 : rWide ⟨packetL ⟨1, (0, 0), 0, [], [], srv, aseq, peers⟩ ++ r, false⟩ 1 = (1, ⟨putL srv ++ (shortL aseq ++ (byteI (peers.length : Nat) :: (putsL peers ++ r))), false⟩) := by
      unfold packetL advL
      rw [List.cons_append, rWide_byte]
      simp
      decide
    have hu : Unsigned peers := fun q hq => ⟨by have := (set_may hst q hq).2.2; omega, by have := srvs_small hps q hq; omega⟩
    unfold rawK
    rw [e0]
    simp only [if_true]
    unfold rawA
    rw [gotL_put srv hsv.1.1 (by have := hsv.1.2; omega)]
    simp only
    rw [rUint_wrote (cnt_u64 hq)]
    simp only
    rw [getSetL_put peers hst hu _ rfl (by omega)]
  · unfold bareK at hb
    simp only at hb
    obtain ⟨rfl, rfl, rfl⟩ := hb
    unfold endK at he
    simp only at he
    have hk23 : kind = 2 ∨ kind = 3 := by rcases he with h | h; exact .inl h.1; exact .inr h.1
    have h10 := heads_ten hhs.1
    have bk : ((byteI kind).toNat : Int) = kind := byteI_back (by omega) (by omega)
    have bh : ((byteI hops).toNat : Int) = hops := byteI_back (by omega) (by omega)
    have bn : (byteI (heads.length : Nat)).toNat = heads.length := by have := byteI_back (x := (heads.length : Int)) (by omega) (by omega); omega
    have e3 : decide ((byteI kind).toNat = 3) = decide (kind = 3) := by rw [Bool.eq_iff_iff, decide_eq_true_iff, decide_eq_true_iff]; omega
    have e0 : rWide ⟨packetL ⟨kind, src, hops, heads, body, (0, 0), 0, []⟩ ++ r, false⟩ 1 = ((byteI kind).toNat, ⟨putL src ++ (byteI hops :: byteI (heads.length : Nat) :: (headsL (decide (kind = 3)) heads ++ ((if kind = 2 then shortL body.length ++ body else []) ++ r))), false⟩) := by
      unfold packetL restL
      rw [List.cons_append, rWide_byte]
      simp [hk1]
    have hg : ∀ h ∈ heads, goodH (decide (kind = 3)) h := fun h hm => by
      obtain ⟨i, hi, rfl⟩ := atH_mem hm
      obtain ⟨⟨a1, _, _, a4, a5, a6, a7, _⟩, _⟩ := hhs.1 i hi
      unfold nodeF at a1
      refine ⟨by omega, by omega, a4, a5, a6, fun h3 => ?_⟩
      have h3' : kind ≠ 3 := of_decide_eq_false h3
      have h2 : kind = 2 := by omega
      rcases Nat.eq_zero_or_pos (atH heads i).inc with h | h
      · exact h
      · exact absurd ⟨h2, .inr (by omega)⟩ a7
    have g0 : gotL ⟨putL src ++ (byteI hops :: byteI (heads.length : Nat) :: (headsL (decide (kind = 3)) heads ++ ((if kind = 2 then shortL body.length ++ body else []) ++ r))), false⟩ = (src, ⟨byteI hops :: byteI (heads.length : Nat) :: (headsL (decide (kind = 3)) heads ++ ((if kind = 2 then shortL body.length ++ body else []) ++ r)), false⟩) :=
      gotL_put src hl.1 (by have := hl.2; omega) _
    unfold rawK
    rw [e0]
    simp only
    generalize (putL src ++ (byteI hops :: byteI (heads.length : Nat) :: (headsL (decide (kind = 3)) heads ++ ((if kind = 2 then shortL body.length ++ body else []) ++ r)))) = L0 at g0 ⊢
    rw [if_neg (by omega)]
    have g1 : hopsS ⟨L0, false⟩ = ((byteI hops).toNat, ⟨byteI (heads.length : Nat) :: (headsL (decide (kind = 3)) heads ++ ((if kind = 2 then shortL body.length ++ body else []) ++ r)), false⟩) := by
      unfold hopsS
      rw [g0]
      exact rWide_byte _ _
    have g2 : lenS ⟨L0, false⟩ = (heads.length, ⟨headsL (decide (kind = 3)) heads ++ ((if kind = 2 then shortL body.length ++ body else []) ++ r), false⟩) := by
      unfold lenS
      rw [g1, rWide_byte, bn]
    have g3 : headS (decide (kind = 3)) ⟨L0, false⟩ = (heads, ⟨(if kind = 2 then shortL body.length ++ body else []) ++ r, false⟩) := by
      unfold headS
      rw [g2]
      simp only
      rw [getHs_put _ heads hg _ heads.length (Nat.le_refl _)]
      simp [headsL]
    have g4 : bodyS (byteI kind).toNat ⟨L0, false⟩ = (body, ⟨r, false⟩) := by
      unfold bodyS
      rw [e3, g3]
      simp only
      rcases he with ⟨rfl, hb1, hb2⟩ | ⟨rfl, rfl, _⟩
      · rw [if_pos (by omega), if_pos rfl]
        have hp := parse_short (x := body.length) (by omega) (body ++ r)
        have hpos := shortL_pos body.length
        rw [List.append_assoc, text_ok (by rw [hp]; simp only [List.length_append]; omega), hp]
        simp only [List.drop_left, List.take_left']
        rw [← List.drop_drop, List.drop_left, List.drop_left]
      · rw [if_neg (by omega), if_neg (by omega)]
        rfl
    unfold rawB
    rw [g0, g1, e3, g3, g4]
    simp only
    rw [bk, bh]
theorem rawK_all {p : Pk} (h : mayK p) : rawK ⟨packetL p, false⟩ = (p, ⟨[], false⟩) := by
  have := rawK_put h []
  rwa [List.append_nil] at this
theorem readK_put {p : Pk} (h : mayK p) : readK (packetL p) = some p := by
  unfold readK
  rw [rawK_all h]
  exact if_pos ⟨rfl, h, rfl⟩
theorem readK_some {b : List UInt8} {p : Pk} (h : readK b = some p) : mayK p ∧ packetL p = b := by
  unfold readK at h
  split at h
  · rename_i hc
    obtain rfl := Option.some.inj h
    exact ⟨hc.2.1, hc.2.2⟩
  · cases h
/-- P6.3. -/
theorem readK_iff {b : List UInt8} {p : Pk} : readK b = some p ↔ mayK p ∧ packetL p = b := ⟨readK_some, fun ⟨h, e⟩ => e ▸ readK_put h⟩
/-- P6.6. -/
theorem packetL_inj {p q : Pk} (hp : mayK p) (hq : mayK q) (h : packetL p = packetL q) : p = q := by
  have h1 := readK_put hp
  rw [h, readK_put hq] at h1
  exact (Option.some.inj h1).symm
/-- P6.7: what begins as a packet's bytes, and is another packet's, ends with them. -/
theorem packetL_ends {p q : Pk} (hp : mayK p) (hq : mayK q) {t : List UInt8} (h : packetL p = packetL q ++ t) : t = [] := by
  have h1 := rawK_all hp
  rw [h, rawK_put hq t] at h1
  exact congrArg (fun x : Pk × RS => x.2.l) h1
theorem putL_six {q : Life} (h : q.2 < 34359738368) : (putL q).length ≤ 6 := by
  unfold putL
  have := shortL_le 4 q.2.toNat (by omega)
  rw [List.length_append, wideL_length]
  omega
theorem putsL_six : ∀ (l : List Life), (∀ q ∈ l, q.2 < 34359738368) → (putsL l).length ≤ 6 * l.length
  | [], _ => by simp [putsL]
  | q :: l, h => by
    have h1 := putsL_six l (fun x hx => h x (by simp [hx]))
    have h2 := putL_six (h q (by simp))
    rw [putsL_cons, List.length_append, List.length_cons]
    omega
theorem headL_le {k3 : Bool} {h : Hd} (hc : cnt h.conn) (hs : cnt h.seq) (hi : cnt h.inc) : (headL k3 h).length ≤ if k3 = true then 16 else 11 := by
  have h1 := shortL_five hc
  have h2 := shortL_five hs
  have h3 := shortL_five hi
  unfold headL
  cases k3 <;> simp only [Bool.false_eq_true, if_false, if_true, List.length_cons, List.length_append, List.length_nil] <;> omega
theorem headsL_le {k3 : Bool} {m : Nat} : ∀ (l : List Hd), (∀ h ∈ l, (headL k3 h).length ≤ m) → (headsL k3 l).length ≤ m * l.length
  | [], _ => by simp [headsL]
  | a :: l, h => by
    have h1 := headsL_le l (fun x hx => h x (by simp [hx]))
    have h2 := h a (by simp)
    rw [headsL_cons, List.length_append, List.length_cons, Nat.mul_add]
    omega
/-- P6.5: at most 448 bytes. -/
theorem packetL_le {p : Pk} (h : mayK p) : (packetL p).length ≤ 448 := by
  obtain ⟨kind, src, hops, heads, body, srv, aseq, peers⟩ := p
  unfold mayK at h
  simp only at h
  unfold packetL
  rcases h with ⟨rfl, ha, hv⟩ | ⟨hk1, hb, hl, hh0, hh8, hhs, he⟩
  · have h4 := peers_four hv
    obtain ⟨hsv, _, hq, hst, hps, _⟩ := hv
    have h1 := putL_six hsv.1.2
    have h2 := putsL_six peers (srvs_small hps)
    have h3 := shortL_five hq
    simp only [if_true, advL, List.length_cons, List.length_append]
    omega
  · have h10 := heads_ten hhs.1
    have h1 := putL_six hl.2
    have hc : ∀ h ∈ heads, cnt h.conn ∧ cnt h.seq ∧ cnt h.inc := fun h hm => by
      obtain ⟨i, hi, rfl⟩ := atH_mem hm
      obtain ⟨⟨_, _, _, a4, a5, a6, _, _⟩, _⟩ := hhs.1 i hi
      exact ⟨a4, a5, a6⟩
    rw [if_neg hk1]
    unfold endK at he
    simp only at he
    rcases he with ⟨rfl, hb1, hb2⟩ | ⟨rfl, rfl, hn1⟩
    · have h2 := headsL_le (k3 := decide ((2 : Int) = 3)) (m := 11) heads (fun h hm => by obtain ⟨c1, c2, c3⟩ := hc h hm; have := headL_le (k3 := decide ((2 : Int) = 3)) c1 c2 c3; simpa using this)
      have h3 := shortL_le 1 body.length (by omega)
      simp only [restL, if_true, List.length_cons, List.length_append]
      omega
    · have h2 := headsL_le (k3 := true) (m := 16) heads (fun h hm => by obtain ⟨c1, c2, c3⟩ := hc h hm; have := headL_le (k3 := true) c1 c2 c3; simpa using this)
      unfold restL
      simp only [decide_true]
      simp only [List.length_cons, List.length_append]
      rw [if_neg (by decide)]
      simp only [List.length_nil]
      omega
end Go.Proofs.Ytlcddfkhklmieaa
