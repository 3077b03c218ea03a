/-
  Frames, as the document says them: which may be, their bytes, what bytes say; there and back, one form, spoilt, apart. No condition; nothing here speaks of a program.
-/
import Derived.Test.YtlcddfkhklmieaaCrc
import Derived.Test.YtlcddfkhklmieaaUints
namespace Go.Proofs.Ytlcddfkhklmieaa
open Go.RowKit

/-- A frame. -/
structure Fr where
  kind : Int
  src : Int
  dst : Int
  inc : Nat
  conn : Nat
  pinc : Nat
  pconn : Nat
  ack : Nat
  seq : Nat
  body : List UInt8
deriving DecidableEq
def noF : Fr := ⟨0, 0, 0, 0, 0, 0, 0, 0, 0, []⟩
def cnt (x : Nat) : Prop := x < 34359738368
instance (x : Nat) : Decidable (cnt x) := by unfold cnt; infer_instance
def nodeF (n : Int) : Prop := 1 ≤ n ∧ n ≤ 10
instance (n : Int) : Decidable (nodeF n) := by unfold nodeF; infer_instance
/-- Its peer is none, or known. -/
def noPeer (f : Fr) : Prop := f.pinc = 0 ∧ f.pconn = 0 ∧ f.ack = 0
def peer (f : Fr) : Prop := f.pinc ≠ 0 ∧ f.pconn ≠ 0
instance (f : Fr) : Decidable (noPeer f) := by unfold noPeer; infer_instance
instance (f : Fr) : Decidable (peer f) := by unfold peer; infer_instance
def helloF (f : Fr) : Prop := f.kind = 1 ∧ f.seq = 0 ∧ f.body = []
def dataF (f : Fr) : Prop := f.kind = 2 ∧ peer f ∧ f.seq ≠ 0 ∧ 1 ≤ f.body.length ∧ f.body.length ≤ 448
instance (f : Fr) : Decidable (helloF f) := by unfold helloF; infer_instance
instance (f : Fr) : Decidable (dataF f) := by unfold dataF; infer_instance
def countsF (f : Fr) : Prop := cnt f.inc ∧ cnt f.conn ∧ cnt f.pinc ∧ cnt f.pconn ∧ cnt f.ack ∧ cnt f.seq
instance (f : Fr) : Decidable (countsF f) := by unfold countsF; infer_instance
/-- A frame may be. -/
def mayF (f : Fr) : Prop := nodeF f.src ∧ nodeF f.dst ∧ f.src ≠ f.dst ∧ countsF f ∧ f.inc ≠ 0 ∧ f.conn ≠ 0 ∧ (noPeer f ∨ peer f) ∧ (helloF f ∨ dataF f)
instance (f : Fr) : Decidable (mayF f) := by unfold mayF; infer_instance
def numsF (f : Fr) : List Nat := [f.inc, f.conn, f.pinc, f.pconn, f.ack, f.seq]
def byteI (x : Int) : UInt8 := UInt8.ofNat x.toNat
def headF (f : Fr) : List UInt8 := [byteI f.kind, byteI f.src, byteI f.dst]
def tailF (f : Fr) : List UInt8 := if f.kind = 2 then shortL f.body.length ++ f.body else []
/-- Its bytes, ahead of the sum. -/
def inF (f : Fr) : List UInt8 := headF f ++ shortsL (numsF f) ++ tailF f
def frameL (f : Fr) : List UInt8 := Crc.seal_ (inF f)
/-- The numbers and the text behind the three bytes. -/
def restF (l : List UInt8) : List Nat × (List UInt8 × RS) :=
  ((uints 6 ⟨l, false⟩).1, if 0 < (uints 6 ⟨l, false⟩).2.l.length then rText (uints 6 ⟨l, false⟩).2 448 else ([], (uints 6 ⟨l, false⟩).2))
/-- What the bytes say, ahead of whether it may be. -/
def rawF (l : List UInt8) : Fr :=
  ⟨((l.getD 0 0).toNat : Int), ((l.getD 1 0).toNat : Int), ((l.getD 2 0).toNat : Int), (restF (l.drop 3)).1.getD 0 0, (restF (l.drop 3)).1.getD 1 0, (restF (l.drop 3)).1.getD 2 0, (restF (l.drop 3)).1.getD 3 0, (restF (l.drop 3)).1.getD 4 0, (restF (l.drop 3)).1.getD 5 0, (restF (l.drop 3)).2.1⟩
def openF (b : List UInt8) : List UInt8 := b.take (b.length - 4)
/-- The frame whose bytes they are, if there is one. -/
def readF (b : List UInt8) : Option Fr :=
  if Crc.sealed b = true ∧ 3 ≤ (openF b).length ∧ (restF ((openF b).drop 3)).2.2.bad = false ∧ mayF (rawF (openF b)) ∧ frameL (rawF (openF b)) = b then some (rawF (openF b)) else none

theorem byteI_back {x : Int} (h0 : 0 ≤ x) (h : x < 256) : ((byteI x).toNat : Int) = x := by
  unfold byteI
  rw [UInt8.toNat_ofNat']
  omega
theorem numsF_lt {f : Fr} (h : countsF f) : ∀ x ∈ numsF f, cnt x := by
  obtain ⟨h1, h2, h3, h4, h5, h6⟩ := h
  intro x hx
  simp only [numsF, List.mem_cons, List.not_mem_nil, or_false] at hx
  rcases hx with rfl | rfl | rfl | rfl | rfl | rfl <;> assumption
theorem numsF_u64 {f : Fr} (h : countsF f) : ∀ x ∈ numsF f, x < 18446744073709551616 := fun x hx => by
  have := numsF_lt h x hx
  unfold cnt at this
  omega
theorem mayF_kind {f : Fr} (h : mayF f) : f.kind = 1 ∨ f.kind = 2 := by
  rcases h.2.2.2.2.2.2.2 with h | h
  · exact .inl h.1
  · exact .inr h.1
theorem tailF_read {f : Fr} (h : mayF f) : (if 0 < (tailF f).length then rText ⟨tailF f, false⟩ 448 else ([], ⟨tailF f, false⟩)) = (f.body, ⟨[], false⟩) := by
  rcases h.2.2.2.2.2.2.2 with h | h
  · have e : tailF f = [] := by unfold tailF; rw [if_neg (by rw [h.1]; decide)]
    rw [e, h.2.2]
    rfl
  · have e : tailF f = shortL f.body.length ++ f.body := by unfold tailF; rw [if_pos h.1]
    have hpos := shortL_pos f.body.length
    have hp := parse_short (x := f.body.length) (by have := h.2.2.2.2; omega) f.body
    rw [e, if_pos (by simp; omega), text_ok (by rw [hp]; simp only [List.length_append]; have := h.2.2.2.2; omega), hp]
    simp only [List.drop_left, List.take_length]
    rw [← List.drop_drop, List.drop_left, List.drop_length]
theorem restF_put {f : Fr} (h : mayF f) : restF (shortsL (numsF f) ++ tailF f) = (numsF f, (f.body, ⟨[], false⟩)) := by
  have hu := uints_put (numsF f) (numsF_u64 h.2.2.2.1) (tailF f) 6 (by simp [numsF])
  have e1 : (numsF f).take 6 = numsF f := rfl
  have e2 : shortsL ((numsF f).drop 6) ++ tailF f = tailF f := rfl
  rw [e1, e2] at hu
  unfold restF
  rw [hu]
  simp only
  rw [tailF_read h]
theorem inF_drop (f : Fr) : (inF f).drop 3 = shortsL (numsF f) ++ tailF f := by
  unfold inF headF
  simp
theorem rawF_put {f : Fr} (h : mayF f) : rawF (inF f) = f := by
  have hk := mayF_kind h
  have hs := h.1
  have hd := h.2.1
  unfold nodeF at hs hd
  unfold rawF
  rw [inF_drop, restF_put h]
  obtain ⟨kind, src, dst, inc, conn, pinc, pconn, ack, seq, body⟩ := f
  simp only [inF, headF, numsF, List.cons_append, List.nil_append, List.getD_cons_zero, List.getD_cons_succ]
  simp only at hk hs hd
  rw [byteI_back (by omega) (by omega), byteI_back (by omega) (by omega), byteI_back (by omega) (by omega)]
theorem openF_seal (l : List UInt8) : openF (Crc.seal_ l) = l := by
  unfold openF
  have e : (Crc.seal_ l).length - 4 = l.length := by simp [Crc.seal_, Crc.le4]
  rw [e, Crc.take_seal]
theorem inF_three (f : Fr) : 3 ≤ (inF f).length := by unfold inF headF; simp
theorem readF_put {f : Fr} (h : mayF f) : readF (frameL f) = some f := by
  unfold readF
  have e : openF (frameL f) = inF f := openF_seal _
  rw [e, rawF_put h, inF_drop, restF_put h]
  exact if_pos ⟨Crc.sealed_seal _, inF_three f, rfl, h, rfl⟩
theorem readF_some {b : List UInt8} {f : Fr} (h : readF b = some f) : mayF f ∧ frameL f = b := by
  unfold readF at h
  split at h
  · rename_i hc
    obtain rfl := Option.some.inj h
    exact ⟨hc.2.2.2.1, hc.2.2.2.2⟩
  · cases h
/-- P5.3. -/
theorem readF_iff {b : List UInt8} {f : Fr} : readF b = some f ↔ mayF f ∧ frameL f = b := ⟨readF_some, fun ⟨h, e⟩ => e ▸ readF_put h⟩
theorem readF_none {b : List UInt8} : readF b = none ↔ ∀ f, mayF f → frameL f ≠ b := by
  refine ⟨fun h f hf e => ?_, fun h => ?_⟩
  · rw [← e, readF_put hf] at h; cases h
  · cases hr : readF b with
    | none => rfl
    | some f => exact absurd (readF_some hr).2 (h f (readF_some hr).1)
/-- P5.8. -/
theorem frameL_inj {f g : Fr} (hf : mayF f) (hg : mayF g) (h : frameL f = frameL g) : f = g := by
  have h1 := readF_put hf
  rw [h, readF_put hg] at h1
  exact (Option.some.inj h1).symm
theorem shortL_five {x : Nat} (h : cnt x) : (shortL x).length ≤ 5 := shortL_le 4 x (by unfold cnt at h; omega)
theorem shortsL_five (l : List Nat) (h : ∀ x ∈ l, cnt x) : (shortsL l).length ≤ 5 * l.length := by
  induction l with
  | nil => simp [shortsL]
  | cons a l ih =>
    rw [shortsL_cons, List.length_append, List.length_cons]
    have := shortL_five (h a (by simp))
    have := ih fun x hx => h x (by simp [hx])
    omega
theorem tailF_le {f : Fr} (h : mayF f) : (tailF f).length ≤ 450 := by
  unfold tailF
  split
  · rename_i hk
    rcases h.2.2.2.2.2.2.2 with hh | hh
    · have e1 := hh.1
      omega
    · have h1 := hh.2.2.2.2
      have h2 := shortL_le 1 f.body.length (by omega)
      rw [List.length_append]
      omega
  · simp
theorem inF_le {f : Fr} (h : mayF f) : (inF f).length ≤ 483 := by
  have h1 := shortsL_five (numsF f) (numsF_lt h.2.2.2.1)
  have h2 := tailF_le h
  unfold inF
  simp only [List.length_append]
  have e1 : (headF f).length = 3 := rfl
  have e2 : (numsF f).length = 6 := rfl
  omega
/-- P5.5: at most 512 bytes. -/
theorem frameL_le {f : Fr} (h : mayF f) : (frameL f).length ≤ 487 := by
  have := inF_le h
  unfold frameL Crc.seal_
  simp [Crc.le4]
  omega
/-- P5.7. -/
theorem frameL_spoilt {f : Fr} (h : mayF f) {js : List Nat} (h1 : 1 ≤ js.length) (h3 : js.length ≤ 3) (hr : ∀ j ∈ js, j < 8 * (frameL f).length) (hn : js.Nodup) : Crc.sealed (Crc.flips (frameL f) js) = false := by
  have e : (frameL f).length = (inF f).length + 4 := by unfold frameL Crc.seal_; simp [Crc.le4]
  have hle := inF_le h
  rw [e] at hr
  exact Crc.spoilt (inF f) js hr (Crc.few_seen (by unfold Crc.period; omega) h1 h3 hr hn)
theorem readF_unsealed {b : List UInt8} (h : Crc.sealed b = false) : readF b = none := by
  unfold readF
  rw [if_neg (by rw [h]; simp)]
/-- What stands behind the three bytes, read to its end without a fault, is what was read. -/
theorem restF_form {l : List UInt8} (hb : (restF l).2.2.bad = false) (he : (restF l).2.2.l = []) :
    l = shortsL (restF l).1 ++ (if (uints 6 ⟨l, false⟩).2.l = [] then [] else shortL (restF l).2.1.length ++ (restF l).2.1) ∧ (restF l).1.length = 6 := by
  have h6 : (restF l).1.length = 6 := uints_length 6 _
  refine ⟨?_, h6⟩
  unfold restF at hb he ⊢
  simp only at hb he ⊢
  by_cases h0 : 0 < (uints 6 ⟨l, false⟩).2.l.length
  · rw [if_pos h0] at hb he ⊢
    rw [if_neg (by intro e; rw [e] at h0; simp at h0)]
    have hub : (uints 6 ⟨l, false⟩).2.bad = false := by
      cases hub : (uints 6 ⟨l, false⟩).2.bad with
      | false => rfl
      | true =>
        unfold rText at hb
        rw [if_pos (.inl hub)] at hb
        cases hb
    have h1 := uints_form 6 hub
    generalize (uints 6 ⟨l, false⟩).1 = xs at h1 ⊢
    generalize (uints 6 ⟨l, false⟩).2 = z at hub hb he h1 ⊢
    obtain ⟨zl, zb⟩ := z
    simp only at hub
    subst hub
    have h2 := (rText_form hb).1
    rw [he, List.append_nil] at h2
    rw [← h2]
    exact h1
  · rw [if_neg h0] at hb he ⊢
    have h1 := uints_form 6 hb
    simp only at he
    rw [he] at h1 ⊢
    simpa using h1
end Go.Proofs.Ytlcddfkhklmieaa
