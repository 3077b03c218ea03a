/-
  What bytes say as a packet, by package packet's Decode. For at most 1,048,576 bytes.
-/
import Derived.Test.YtlcddfkhklmieaaKgetc
import Derived.Test.YtlcddfkhklmieaaKmayc
import Derived.Test.YtlcddfkhklmieaaGa
namespace Go.Proofs.Ytlcddfkhklmieaa
set_option maxRecDepth 20000
open Go.RowKit

/-- A packet's ten cells, its lists at H, A, P. -/
def pkA (p : Pk) (H : Option Addr) (ch : Nat) (A : Option Addr) (cb : Nat) (P : Option Addr) (cp : Nat) : Array Value := #[.int .i64 p.kind, .int .i64 p.src.1, .int .u64 p.src.2, .int .i64 p.hops, .slice H p.heads.length ch, .slice A p.body.length cb, .int .i64 p.srv.1, .int .u64 p.srv.2, .int .u64 (p.aseq : Int), .slice P p.peers.length cp]
/-- A packet's lists, in memory that a call itself made, at base or behind. -/
def PkM (w : World) (base : Nat) (p : Pk) (H : Option Addr) (ch : Nat) (A : Option Addr) (cb : Nat) (P : Option Addr) (cp : Nat) : Prop := OwnH w base H p.heads.length ch p.heads ∧ Wbl w base A cb p.body ∧ OwnP w base P p.peers.length cp p.peers
theorem PkM.lower {w : World} {base base' : Nat} {p : Pk} {H A P : Option Addr} {ch cb cp : Nat} (h : PkM w base p H ch A cb P cp) (hb : base' ≤ base) : PkM w base' p H ch A cb P cp := ⟨h.1.lower hb, h.2.1.lower hb, h.2.2.lower hb⟩
theorem PkM.keep {w w' : World} {base b : Nat} {p : Pk} {H A P : Option Addr} {ch cb cp : Nat} (h : PkM w base p H ch A cb P cp) (ho : Only (fun k => k = b) w w') (hb : b < base) : PkM w' base p H ch A cb P cp :=
  ⟨h.1.keep ho (fun k e e2 => by have := ownH_base h.1 k e; omega), h.2.1.keep ho (fun k e e2 => by have := (h.2.1.lt e).1; omega), h.2.2.keep ho (fun k e e2 => by have := ownP_base h.2.2 k e; omega)⟩
theorem PkM.keep2 {w w' : World} {base b c : Nat} {p : Pk} {H A P : Option Addr} {ch cb cp : Nat} (h : PkM w base p H ch A cb P cp) (ho : Only (fun k => k = b ∨ k = c) w w') (hb : b < base) (hc : c < base) : PkM w' base p H ch A cb P cp :=
  ⟨h.1.keep ho (fun k e e2 => by have := ownH_base h.1 k e; omega), h.2.1.keep ho (fun k e e2 => by have := (h.2.1.lt e).1; omega), h.2.2.keep ho (fun k e e2 => by have := ownP_base h.2.2 k e; omega)⟩
theorem PkM.on {w w' : World} {base : Nat} {p : Pk} {H A P : Option Addr} {ch cb cp : Nat} (h : PkM w base p H ch A cb P cp) (hb : Below w.heap.size w w') : PkM w' base p H ch A cb P cp :=
  ⟨h.1.on hb, h.2.1.keep (Only.ofBelow (S := fun _ => False) hb) (fun _ _ e => e), h.2.2.on hb⟩
theorem pkM_no (w : World) (base : Nat) : PkM w base noK none 0 none 0 none 0 := ⟨OwnH.nil_, Wbl.nil_, OwnP.nil_⟩
/-- What Decode answers. -/
def DecK (w : World) (l : List UInt8) (e : Ending) (w' : World) : Prop :=
  ∃ H ch A cb P cp, e = .returned (.tuple #[.agg (pkA ((readK l).getD noK) H ch A cb P cp), .int .i64 (if (readK l).isSome then 0 else 3)]) ∧ Hid (PkM w' w.heap.size ((readK l).getD noK) H ch A cb P cp) ∧ Hid (Below w.heap.size w w')
theorem decK_none {w w' : World} {l : List UInt8} (h : readK l = none) (hb : Hid (Below w.heap.size w w')) : DecK w l (.returned (.tuple #[.agg #[.int .i64 0, .int .i64 0, .int .u64 0, .int .i64 0, .slice none 0 0, .slice none 0 0, .int .i64 0, .int .u64 0, .int .u64 0, .slice none 0 0], .int .i64 3])) w' := by
  refine ⟨none, 0, none, 0, none, 0, by rw [h]; rfl, Lib.hid ?_, hb⟩
  rw [h]
  exact pkM_no _ _
/-- What the method of a kind answers. -/
def GotK (q : Nat) (d : Option Nat) (kn : Nat) (s : RS) (w : World) (e : Ending) (w' : World) : Prop :=
  ∃ H ch A cb P cp, e = .returned (.agg (pkA (rawC kn s).1 H ch A cb P cp)) ∧ Hid (PkM w' w.heap.size (rawC kn s).1 H ch A cb P cp) ∧ Hid (Rd RdT w' q d (rawC kn s).2.l (rawC kn s).2.bad) ∧ Hid (Only (fun k => k = q) w w')
theorem get_kind (q : Nat) (d : Option Nat) (s : RS) (kn : Nat) (h1 : 1 ≤ kn) (h3 : kn ≤ 3) (hr : s.l.length ≤ 70368744177664) :
    ∃ fn, (fn = 64 ∨ fn = 65 ∨ fn = 66) ∧ (∀ W, (Instr.index 68 (.agg rtabC) (.int .i64 (kn : Int))).run Try.prog W = .ok (fnV fn) W) ∧
      ∀ W, Rd RdT W q d s.l s.bad → Calls Try.prog fn #[.agg #[.int .i64 (kn : Int), .int .i64 0, .int .u64 0, .int .i64 0, .slice none 0 0, .slice none 0 0, .int .i64 0, .int .u64 0, .int .u64 0, .slice none 0 0], .pointer (some ⟨q, 0, none⟩)] W (GotK q d kn s W) := by
  have hc : kn = 1 ∨ kn = 2 ∨ kn = 3 := by omega
  rcases hc with rfl | rfl | rfl
  · refine ⟨_, .inl rfl, rtab_1, fun W h => (getadv_any q d s 1 W h hr).mono ?_⟩
    rintro e W' ⟨P, cp, rfl, h1, h2, h3⟩
    have hl := gets_length (peersN s).1 (peersN s).2
    refine ⟨none, 0, none, 0, P, cp, ?_, Lib.hid ⟨OwnH.nil_, Wbl.nil_, ?_⟩, h2, h3⟩
    · unfold pkA rawC rawCA
      simp only [if_true]
      rw [hl]
      rfl
    · unfold rawC rawCA
      simp only [if_true]
      rw [hl]
      exact h1.out
  · refine ⟨_, .inr (.inl rfl), rtab_2, fun W h => (getdata_any q d s 2 W h hr).mono ?_⟩
    rintro e W' ⟨H, ch, A, cb, rfl, h1, h2, h3, h4⟩
    have hl := getHs_length false (lenS s).1 (lenS s).2
    refine ⟨H, ch, A, cb, none, 0, ?_, Lib.hid ⟨?_, h2.out, OwnP.nil_⟩, h3, h4⟩
    · change _ = Ending.returned (.agg #[_, _, _, _, .slice H (getHs false (lenS s).1 (lenS s).2).1.length ch, _, _, _, _, _])
      rw [hl]
      rfl
    · change OwnH W' W.heap.size H (getHs false (lenS s).1 (lenS s).2).1.length ch _
      rw [hl]
      exact h1.out
  · refine ⟨_, .inr (.inr rfl), rtab_3, fun W h => (getackp_any q d s 3 W h hr).mono ?_⟩
    rintro e W' ⟨H, ch, rfl, h1, h3, h4⟩
    have hl := getHs_length true (lenS s).1 (lenS s).2
    refine ⟨H, ch, none, 0, none, 0, ?_, Lib.hid ⟨?_, Wbl.nil_, OwnP.nil_⟩, h3, h4⟩
    · change _ = Ending.returned (.agg #[_, _, _, _, .slice H (getHs true (lenS s).1 (lenS s).2).1.length ch, _, _, _, _, _])
      rw [hl]
      rfl
    · change OwnH W' W.heap.size H (getHs true (lenS s).1 (lenS s).2).1.length ch _
      rw [hl]
      exact h1.out
/-- What is taken has unsigned numbers, and short lists. -/
theorem rawC_fine (kn : Nat) (s : RS) : 0 ≤ (rawC kn s).1.src.2 ∧ 0 ≤ (rawC kn s).1.srv.2 ∧ (rawC kn s).1.heads.length ≤ 1000000 ∧ (rawC kn s).1.peers.length ≤ 1000000 ∧ ∀ p ∈ (rawC kn s).1.peers, 0 ≤ p.2 := by
  unfold rawC
  split
  · have hl := gets_length (peersN s).1 (peersN s).2
    have hw : (peersN s).1 < 256 := by have := rWide_lt (rUint (gotL s).2).2 1; simpa [peersN] using this
    refine ⟨by simp [rawCA], gotL_pos s, by simp [rawCA], ?_, gets_pos _ _⟩
    unfold rawCA
    simp only
    omega
  · have hl := getHs_length (decide (kn = 3)) (lenS s).1 (lenS s).2
    have hw : (lenS s).1 < 256 := by have := rWide_lt (hopsS s).2 1; simpa [lenS] using this
    refine ⟨gotL_pos s, by simp [rawB], ?_, by simp [rawB], by simp [rawB]⟩
    change (getHs (decide (kn = 3)) (lenS s).1 (lenS s).2).1.length ≤ _
    omega
/-! The region's state: the Reader, the packet's cells. -/
structure Clo (lst : Array Bool) : Prop where
  h76 : lst.getD 7 false = true → lst.getD 6 false = true
  h64 : lst.getD 6 false = true → lst.getD 4 false = true
  h63 : lst.getD 6 false = true → lst.getD 3 false = true
  h32 : lst.getD 3 false = true → lst.getD 2 false = true
theorem no_of {b : Bool} (h : b = true → False) : b = false := by cases b; rfl; exact (h rfl).elim
theorem Clo.six {lst : Array Bool} (h : Clo lst) (hl : lst.getD 6 false = false) : lst.getD 7 false = false := no_of fun e => by have := h.h76 e; rw [hl] at this; cases this
theorem Clo.four {lst : Array Bool} (h : Clo lst) (hl : lst.getD 4 false = false) : lst.getD 7 false = false := h.six (no_of fun e => by have := h.h64 e; rw [hl] at this; cases this)
theorem Clo.two {lst : Array Bool} (h : Clo lst) (hl : lst.getD 2 false = false) : lst.getD 7 false = false := h.six (no_of fun e => by have := h.h32 (h.h63 e); rw [hl] at this; cases this)
theorem set_true {lst : Array Bool} {j a : Nat} (h : lst.getD a false = true) : (lst.setIfInBounds j true).getD a false = true := by
  by_cases e : j = a
  · subst e
    have hs : j < lst.size := by
      rcases Nat.lt_or_ge j lst.size with hh | hh
      · exact hh
      · simp [hh] at h
    simp [hs]
  · rw [getD_set_ne false e]; exact h
theorem clo_set {lst : Array Bool} {j a b : Nat} (h : lst.getD a false = true → lst.getD b false = true) (hj : j = a → lst.getD b false = true) (e : (lst.setIfInBounds j true).getD a false = true) : (lst.setIfInBounds j true).getD b false = true := by
  by_cases ej : j = a
  · exact set_true (hj ej)
  · rw [getD_set_ne false ej] at e
    exact set_true (h e)
def DecV (W0 : World) (q pb : Nat) (P0 : Pk) (w : World) (v : Value) : Prop := ∃ H ch A cb P cp, v = .agg (pkA P0 H ch A cb P cp) ∧ PkM w W0.heap.size P0 H ch A cb P cp ∧ q < W0.heap.size ∧ pb < W0.heap.size
theorem DecV.mono {W0 w w' : World} {q pb : Nat} {P0 : Pk} {v : Value} (hb : Only (fun j => j = q ∨ j = pb) w w') (h : DecV W0 q pb P0 w v) : DecV W0 q pb P0 w' v := by
  obtain ⟨H, ch, A, cb, P, cp, e, hm, h1, h2⟩ := h
  exact ⟨H, ch, A, cb, P, cp, e, hm.keep2 hb h1 h2, h1, h2⟩
def DecRow (W0 : World) (pb : Nat) (P0 : Pk) (w : World) : Prop := ∃ H ch A cb P cp, Row10 pb (.int .i64 P0.kind) (.int .i64 P0.src.1) (.int .u64 P0.src.2) (.int .i64 P0.hops) (.slice H P0.heads.length ch) (.slice A P0.body.length cb) (.int .i64 P0.srv.1) (.int .u64 P0.srv.2) (.int .u64 (P0.aseq : Int)) (.slice P P0.peers.length cp) 58 w ∧ PkM w W0.heap.size P0 H ch A cb P cp
structure DecI (W0 : World) (q : Nat) (d : Option Nat) (pb : Nat) (ki : Int) (s s' : RS) (P0 : Pk) (lst : Array Bool) (w : World) : Prop where
  clo : Clo lst
  rd : if lst.getD 6 false = true then Rd RdT w q d s'.l s'.bad else Rd RdT w q d s.l s.bad
  row : if lst.getD 7 false = true then DecRow W0 pb P0 w else Row10 pb (.int .i64 ki) (.int .i64 0) (.int .u64 0) (.int .i64 0) (.slice none 0 0) (.slice none 0 0) (.int .i64 0) (.int .u64 0) (.int .u64 0) (.slice none 0 0) 58 w
section
variable {W0 w w' : World} {q pb : Nat} {ki : Int} {d : Option Nat} {s s' : RS} {P0 : Pk} {lst : Array Bool}
theorem DecI.row0 (h : DecI W0 q d pb ki s s' P0 lst w) (hl : lst.getD 7 false = false) : Row10 pb (.int .i64 ki) (.int .i64 0) (.int .u64 0) (.int .i64 0) (.slice none 0 0) (.slice none 0 0) (.int .i64 0) (.int .u64 0) (.int .u64 0) (.slice none 0 0) 58 w := by
  have := h.row
  rwa [if_neg (by rw [hl]; simp)] at this
theorem DecI.rd0 (h : DecI W0 q d pb ki s s' P0 lst w) (hl : lst.getD 6 false = false) : Rd RdT w q d s.l s.bad := by
  have := h.rd
  rwa [if_neg (by rw [hl]; simp)] at this
theorem DecI.step (h : DecI W0 q d pb ki s s' P0 lst w) (j : Nat) (h6 : j ≠ 6) (h7 : j ≠ 7) (_h : j < 8) (hb : Below w.heap.size w w') (h3 : j = 3 → lst.getD 2 false = true) : DecI W0 q d pb ki s s' P0 (lst.setIfInBounds j true) w' := by
  refine ⟨⟨clo_set h.clo.h76 (fun e => absurd e h7), clo_set h.clo.h64 (fun e => absurd e h6), clo_set h.clo.h63 (fun e => absurd e h6), clo_set h.clo.h32 h3⟩, ?_, ?_⟩
  · rw [getD_set_ne false h6]
    have := h.rd
    split at this
    · rename_i hl; rw [if_pos hl]; exact this.on2 hb
    · rename_i hl; rw [if_neg hl]; exact this.on2 hb
  · rw [getD_set_ne false h7]
    have := h.row
    split at this
    · rename_i hl
      rw [if_pos hl]
      obtain ⟨H, ch, A, cb, P, cp, hr, hm⟩ := this
      exact ⟨H, ch, A, cb, P, cp, hr.below hb, hm.on hb⟩
    · rename_i hl; rw [if_neg hl]; exact this.below hb
theorem DecI.got (h : DecI W0 q d pb ki s s' P0 lst w) (hs : (lst.setIfInBounds 6 true).getD 6 false = true) (h4 : lst.getD 4 false = true) (h3 : lst.getD 3 false = true) (hR : Row10 pb (.int .i64 ki) (.int .i64 0) (.int .u64 0) (.int .i64 0) (.slice none 0 0) (.slice none 0 0) (.int .i64 0) (.int .u64 0) (.int .u64 0) (.slice none 0 0) 58 w') (hr : Rd RdT w' q d s'.l s'.bad) (hl : lst.getD 7 false = false) : DecI W0 q d pb ki s s' P0 (lst.setIfInBounds 6 true) w' := by
  refine ⟨⟨clo_set h.clo.h76 (fun e => by cases e), clo_set h.clo.h64 (fun _ => h4), clo_set h.clo.h63 (fun _ => h3), clo_set h.clo.h32 (fun e => by cases e)⟩, ?_, ?_⟩
  · rw [if_pos hs]; exact hr
  · rw [getD_set_ne false (by decide), if_neg (by rw [hl]; simp)]; exact hR
theorem DecI.done (h : DecI W0 q d pb ki s s' P0 lst w) (hs : (lst.setIfInBounds 7 true).getD 7 false = true) (h6 : lst.getD 6 false = true) (hO : Only (fun k => k = pb) w w') (hq : pb ≠ q) (hqd : ∀ k, d = some k → k ≠ pb) (hR : DecRow W0 pb P0 w') : DecI W0 q d pb ki s s' P0 (lst.setIfInBounds 7 true) w' := by
  refine ⟨⟨clo_set h.clo.h76 (fun _ => h6), clo_set h.clo.h64 (fun e => by cases e), clo_set h.clo.h63 (fun e => by cases e), clo_set h.clo.h32 (fun e => by cases e)⟩, ?_, ?_⟩
  · rw [getD_set_ne false (by decide), if_pos h6]
    have := h.rd
    rw [if_pos h6] at this
    exact this.keep hO (fun e => hq e.symm) (fun k e e2 => hqd k e e2)
  · rw [if_pos hs]; exact hR
end
def DecG (W0 : World) (q pb fn : Nat) (ki : Int) (P0 : Pk) (i : Nat) (w : World) (v : Value) : Prop :=
  match i with
  | 0 => v = .agg rtabC
  | 1 => v = .pointer (some ⟨pb, 0, none⟩)
  | 2 => v = .int .i64 ki
  | 3 => v = fnV fn
  | 4 => v = .agg #[.int .i64 ki, .int .i64 0, .int .u64 0, .int .i64 0, .slice none 0 0, .slice none 0 0, .int .i64 0, .int .u64 0, .int .u64 0, .slice none 0 0]
  | 5 => v = .pointer (some ⟨q, 0, none⟩)
  | 6 => DecV W0 q pb P0 w v
  | _ => v = undef
theorem DecG.mono {W0 : World} {q pb fn : Nat} {ki : Int} {P0 : Pk} {i : Nat} {v : Value} {w w' : World} (hb : Only (fun j => j = q ∨ j = pb) w w') (h : DecG W0 q pb fn ki P0 i w v) : DecG W0 q pb fn ki P0 i w' v := by
  unfold DecG at *
  split at h <;> first | exact h | exact DecV.mono hb h
end Go.Proofs.Ytlcddfkhklmieaa
