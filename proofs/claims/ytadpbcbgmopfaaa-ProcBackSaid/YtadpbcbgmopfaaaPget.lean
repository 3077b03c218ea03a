/-
  The program's Put, Get and GetSet: lives written, and read. For lists of at most 1000 lives whose numbers are unsigned, Readers of at most 2^46 bytes.
-/
import Derived.Test.YtadpbcbgmopfaaaAtr
import Derived.Test.YtadpbcbgmopfaaaPset
import Derived.Test.YtadpbcbgmopfaaaPrsort
namespace Go.Proofs.Ytadpbcbgmopfaaa
set_option maxRecDepth 20000
open Go.RowKit

/-- A life's node, its lowest byte alone. -/
def lowB (q : Life) : Nat := (q.1 % 256).toNat
theorem lowB_lt (q : Life) : lowB q < 256 := by unfold lowB; omega
def putL (q : Life) : List UInt8 := wideL (lowB q) 1 ++ shortL q.2.toNat
def putsL (s : List Life) : List UInt8 := s.flatMap putL
theorem putsL_nil : putsL [] = [] := rfl
theorem putsL_cons (q : Life) (s : List Life) : putsL (q :: s) = putL q ++ putsL s := rfl
theorem putsL_append (s t : List Life) : putsL (s ++ t) = putsL s ++ putsL t := by simp [putsL]
abbrev Unsigned (s : List Life) : Prop := ∀ q ∈ s, 0 ≤ q.2 ∧ q.2 < 18446744073709551616
theorem putL_le (q : Life) (h : q.2 < 18446744073709551616) : (putL q).length ≤ 11 := by
  unfold putL
  have h9 : (18446744073709551616 : Nat) ≤ 128 ^ (9 + 1) := by decide
  have h8 : q.2.toNat < 128 ^ (9 + 1) := by omega
  have := shortL_le 9 q.2.toNat h8
  rw [List.length_append, wideL_length]
  omega
theorem putsL_le : ∀ (s : List Life), Unsigned s → (putsL s).length ≤ s.length * 11
  | [], _ => by simp [putsL]
  | q :: s, h => by
    have h1 := putsL_le s (fun x hx => h x (List.mem_cons_of_mem _ hx))
    have h2 := putL_le q (h q (by simp)).2
    rw [putsL_cons, List.length_append, List.length_cons]
    omega
theorem putsL_take_succ (s : List Life) (k : Nat) (hk : k < s.length) : putsL (s.take (k + 1)) = putsL (s.take k) ++ wideL (lowB (atL s k)) 1 ++ shortL (atL s k).2.toNat := by
  rw [List.take_add_one, List.getElem?_eq_getElem hk, putsL_append, atL_lt hk]
  simp [putsL, putL]

/-! What Get and GetSet answer. -/
def gotL (s : RS) : Life × RS :=
  if mayL (((rWide s 1).1 : Int), ((rUint (rWide s 1).2).1 : Int)) then ((((rWide s 1).1 : Int), ((rUint (rWide s 1).2).1 : Int)), (rUint (rWide s 1).2).2) else ((0, 0), ⟨(rUint (rWide s 1).2).2.l, true⟩)
def gets : Nat → RS → List Life × RS
  | 0, s => ([], s)
  | k + 1, s => ((gets k s).1 ++ [(gotL (gets k s).2).1], (gotL (gets k s).2).2)
theorem gets_length : ∀ (k : Nat) (s : RS), (gets k s).1.length = k
  | 0, _ => rfl
  | k + 1, s => by simp [gets, gets_length k s]
theorem gotL_pos (s : RS) : 0 ≤ (gotL s).1.2 := by
  unfold gotL
  split <;> simp
theorem gets_pos : ∀ (k : Nat) (s : RS), ∀ q ∈ (gets k s).1, 0 ≤ q.2
  | 0, _, q, h => by simp [gets] at h
  | k + 1, s, q, h => by
    rw [gets] at h
    rcases List.mem_append.1 h with h | h
    · exact gets_pos k s q h
    · rw [List.mem_singleton.1 h]; exact gotL_pos _
theorem rWide_le (s : RS) (n : Nat) : (rWide s n).2.l.length ≤ s.l.length := by
  unfold rWide
  split
  · exact Nat.le_refl _
  · simp
theorem rUint_le (s : RS) : (rUint s).2.l.length ≤ s.l.length := by
  unfold rUint
  split
  · exact Nat.le_refl _
  · simp
theorem gotL_le (s : RS) : (gotL s).2.l.length ≤ s.l.length := by
  have h1 := rUint_le (rWide s 1).2
  have h2 := rWide_le s 1
  unfold gotL
  split <;> (simp only; omega)
theorem gets_le : ∀ (k : Nat) (s : RS), (gets k s).2.l.length ≤ s.l.length
  | 0, _ => Nat.le_refl _
  | k + 1, s => by
    have h1 := gets_le k s
    have h2 := gotL_le (gets k s).2
    simp only [gets]
    omega
def getSetL (s : RS) (most : Int) : List Life × RS :=
  if most < ((rWide s 1).1 : Int) then ([], ⟨(rWide s 1).2.l, true⟩)
  else if setUpTo (gets (rWide s 1).1 (rWide s 1).2).1 (rWide s 1).1 then gets (rWide s 1).1 (rWide s 1).2 else ([], ⟨(gets (rWide s 1).1 (rWide s 1).2).2.l, true⟩)
theorem rWide_one (b : Nat) (hb : b < 256) (r : List UInt8) : rWide ⟨wideL b 1 ++ r, false⟩ 1 = (b, ⟨r, false⟩) := by
  have e : wideL b 1 = [UInt8.ofNat b] := by simp [wideL, Nat.mod_eq_of_lt hb]
  rw [e]
  unfold rWide
  rw [if_neg (by simp)]
  have : (UInt8.ofNat b).toNat = b := toNat_lo hb
  simp [numLE, this]
theorem gotL_put (q : Life) (hm : mayL q) (hq : q.2 < 18446744073709551616) (r : List UInt8) : gotL ⟨putL q ++ r, false⟩ = (q, ⟨r, false⟩) := by
  have h0 : lowB q = q.1.toNat := by unfold lowB; have := hm.1; have := hm.2.1; omega
  have e1 : ((lowB q : Nat) : Int) = q.1 := by rw [h0]; have := hm.1; omega
  have e2 : ((q.2.toNat : Nat) : Int) = q.2 := by have := hm.2.2; omega
  have hp := parse_short (x := q.2.toNat) (by omega) r
  have hpos : (shortL q.2.toNat).length ≠ 0 := by have := shortL_pos q.2.toNat; omega
  have h1 : rWide ⟨putL q ++ r, false⟩ 1 = (lowB q, ⟨shortL q.2.toNat ++ r, false⟩) := by
    unfold putL
    rw [List.append_assoc]
    exact rWide_one _ (lowB_lt q) _
  have h2 : rUint ⟨shortL q.2.toNat ++ r, false⟩ = (q.2.toNat, ⟨r, false⟩) := by
    rw [uint_some (by rw [hp]; exact hpos), hp]
    simp
  unfold gotL
  rw [h1]
  simp only
  rw [h2]
  simp only [e1, e2]
  rw [if_pos hm]
theorem gets_put (S : List Life) (hm : ∀ q ∈ S, mayL q) (hu : Unsigned S) (r : List UInt8) : ∀ k, k ≤ S.length → gets k ⟨putsL S ++ r, false⟩ = (S.take k, ⟨putsL (S.drop k) ++ r, false⟩)
  | 0, _ => by simp [gets]
  | k + 1, hk => by
    have hk' : k < S.length := by omega
    rw [gets, gets_put S hm hu r k (by omega)]
    simp only
    have hd : S.drop k = S[k] :: S.drop (k + 1) := List.drop_eq_getElem_cons hk'
    rw [hd, putsL_cons, List.append_assoc, gotL_put S[k] (hm _ (List.getElem_mem hk')) (hu _ (List.getElem_mem hk')).2]
    have ht : S.take (k + 1) = S.take k ++ [S[k]] := by rw [List.take_add_one, List.getElem?_eq_getElem hk']; rfl
    rw [ht]

set_option maxHeartbeats 2000000 in
theorem pput_at {B : Nat} {w0 W : World} {p : Nat} {g : Option Nat} {L : List UInt8} (h : WS B w0 W p g L) (A : Option Addr) (s : List Life) (n c : Nat) (hl : Lives w0 B A s) (hn : s.length = n) (hu : Unsigned s) (hb : n ≤ 1000) (hr : L.length ≤ 1048576) :
    Calls Try.prog 60 #[.pointer (some ⟨p, 0, none⟩), .slice A n c] W fun e W' => e = .returned (.tuple #[]) ∧ ∃ g', Hid (WS B w0 W' p g' (L ++ putsL s)) := by
  have HL := Lib.hid hl
  have HN := Lib.hid hn
  have HU := Lib.hid hu
  have HW := Lib.hid h
  clear hl hn hu h
  go_enter Try.func60, Try.ntmps60
  go_wp2
  go_loopw [8] (fun i wr => ∃ k : Nat, ∃ g', k ≤ n ∧ i = .int .i64 k ∧ Hid (WS B w0 wr p g' (L ++ putsL (s.take k)))) (fun i _ => n - (intOf i).toNat)
  case atStart => exact ⟨0, g, Nat.zero_le _, rfl, Lib.hid (by simpa [putsL] using HW.out)⟩
  case round =>
    obtain ⟨k, g1, hk, rfl, hw1⟩ := hrel
    by_cases hlt : k < n
    · obtain ⟨b, off, rfl, hbb, h1, h2⟩ := (HL.out.below hw1.out.below).at_ (k := k) (by rw [HN.out]; exact hlt)
      have g0 : (0 : Int) ≤ (k : Int) := by omega
      have g2 : (k : Int) < (n : Int) := by omega
      have HT := Lib.hid (putsL_take_succ s k (by rw [HN.out]; exact hlt))
      have hux := HU.out _ (atL_mem (l := s) (k := k) (by rw [HN.out]; exact hlt))
      have hlen : (L ++ putsL (s.take k)).length ≤ 2097152 := by
        have h3 := putsL_le (s.take k) (fun q hq => HU.out q (List.mem_of_mem_take hq))
        rw [List.length_take, HN.out] at h3
        rw [List.length_append]
        omega
      generalize hx : atL s k = x at *
      have hlb := lowB_lt x
      have hlw : IntKind.u8.wrap x.1 = ((lowB x : Nat) : Int) := by
        unfold lowB
        simp [IntKind.wrap, IntKind.bits, IntKind.signed]
        omega
      obtain ⟨x1, x2⟩ := x
      simp only at h1 h2 hux hlw
      obtain ⟨y, rfl⟩ : ∃ y : Nat, x2 = (y : Int) := ⟨x2.toNat, by omega⟩
      have hy : y < 18446744073709551616 := by omega
      simp only [Int.toNat_natCast] at HT
      generalize lowB (x1, (y : Int)) = lb at *
      obtain ⟨k1, k2⟩ := one_new wr x1 (y : Int)
      have B3 := Lib.hid ((Below.refl wr.heap.size wr).alloc (Nat.le_refl _) (.cells #[.int .i64 x1, .int .u64 (y : Int)] 70))
      have hw2 := Lib.hid (hw1.out.later B3.out)
      have HLn := Lib.hid hlen
      have hbx : wr.heap.size ≠ p := by have := hw1.out.wr.lt; omega
      have hbg : ∀ j, g1 = some j → j ≠ wr.heap.size := fun j e => by have := hw1.out.wr.glt j e; omega
      have HBX := Lib.hid hbx
      have HBG := Lib.hid hbg
      clear hw1 hlen hux hx hbx hbg
      go_wp2_with fail
      generalize wr.alloc (.cells #[.int .i64 x1, .int .u64 (y : Int)] 70) = W2 at *
      generalize hB : wr.heap.size = B2 at k1 k2 HBX HBG ⊢
      have HB := Lib.hid hB
      have K2 := Lib.hid k2
      have hB2 : B2 < W2.heap.size := World.block_lt_of_cell? W2 _ k1
      have HB2 := Lib.hid hB2
      clear hB h1 h2 k1 k2 hB2
      refine (wu8_any p g1 _ lb W2 hlb hw2.out.wr (by have := HLn.out; omega)).mono ?_
      rintro e W3 hE
      obtain ⟨rfl, g3, hw3, hn3, ho3⟩ := WsE.of hw2.out hE
      have k3 := (ho3.out.cell (p := ⟨B2, 1, none⟩) HB2.out (by rintro (e | e); exact HBX.out e; exact HBG.out _ e rfl)).trans K2.out
      clear hE hn3 ho3 hw2
      go_wp2_with fail
      refine (uint_at hw3.out y hy (by have := HLn.out; rw [List.length_append, wideL_length]; omega)).mono ?_
      rintro e W4 ⟨rfl, g4, hw4, _, _⟩
      go_wp2
      go_roundw
      case rel => exact ⟨k + 1, g4, by omega, by go_num, Lib.hid (by rw [HT.out, ← List.append_assoc, ← List.append_assoc]; exact hw4.out)⟩
      case measure => simp [intOf]; omega
    · obtain rfl : k = n := by omega
      have g2 : ¬ (k : Int) < (k : Int) := by omega
      have HTk := Lib.hid (show s.take k = s by rw [← HN.out, List.take_length])
      go_wp2
      go_end0
      exact ⟨rfl, g1, Lib.hid (by rw [← HTk.out]; exact hw1.out)⟩
theorem set_two {W : World} {B : Nat} {a1 a2 : Value} {t : TypeId} (h : W.heap[B]? = some (.cells #[a1, a2] t (0, 0))) (v1 v2 : Value) : ((W.setCell ⟨B, 0, none⟩ v1).setCell ⟨B, 1, none⟩ v2).heap[B]? = some (.cells #[v1, v2] t (0, 0)) := by
  simp [World.setCell, Array.getElem?_modify, h]
set_option maxHeartbeats 2000000 in
theorem get_any (q : Nat) (d : Option Nat) (s : RS) (w : World) (h : Rd RdT w q d s.l s.bad) (hr : s.l.length ≤ 70368744177664) :
    Calls Try.prog 93 #[.pointer (some ⟨q, 0, none⟩)] w fun e w' => e = .returned (lifeV (gotL s).1) ∧ Hid (Rd RdT w' q d (gotL s).2.l (gotL s).2.bad) ∧ Hid (Only (fun k => k = q) w w') := by
  have B0 := Lib.hid ((Below.refl w.heap.size w).alloc (Nat.le_refl _) (.cells #[.int .i64 0, .int .u64 0] 70))
  have hq := h.lt
  have h1 := Lib.hid (h.keep (S := fun _ => False) (Only.ofBelow B0.out) (fun h => h) (fun _ _ h => h))
  have hB0 : (w.alloc (.cells #[.int .i64 0, .int .u64 0] 70)).heap[w.heap.size]? = some (.cells #[.int .i64 0, .int .u64 0] 70 (0, 0)) := heap_alloc_new w _
  have HB0 := Lib.hid hB0
  have HDl := Lib.hid h.dlt
  have HSz := Lib.hid (show (w.alloc (.cells #[.int .i64 0, .int .u64 0] 70)).heap.size = w.heap.size + 1 by simp)
  clear hB0
  have HQ := Lib.hid hq
  have HRl := Lib.hid (Nat.le_trans (rWide_le s 1) hr)
  have HG := Lib.hid (show gotL s = if mayL (((rWide s 1).1 : Int), ((rUint (rWide s 1).2).1 : Int)) then ((((rWide s 1).1 : Int), ((rUint (rWide s 1).2).1 : Int)), (rUint (rWide s 1).2).2) else ((0, 0), ⟨(rUint (rWide s 1).2).2.l, true⟩) from rfl)
  generalize gotL s = gs at *
  clear h hq hr
  go_enter Try.func93, Try.ntmps93
  go_wp2_with fail
  refine (ru8_any q d s _ h1.out).mono ?_
  rintro e W1 ⟨rfl, r1, o1⟩
  have hlt1 := rWide_lt s 1
  generalize (rWide s 1).1 = x at *
  generalize (rWide s 1).2 = s1 at *
  have hx : x < 256 := by simpa using hlt1
  have e1 : IntKind.i64.wrap (x : Int) = (x : Int) := by simp [IntKind.wrap, IntKind.bits, IntKind.signed]; omega
  clear h1 hlt1
  go_wp2_with fail
  refine (uint_any q d s1 W1 r1.out HRl.out).mono ?_
  rintro e W2 ⟨rfl, r2, o2⟩
  generalize (rUint s1).1 = y at *
  generalize (rUint s1).2 = s2 at *
  generalize hB : w.heap.size = B at *
  have HB := Lib.hid hB
  have hqB : ¬ B = q := by have := HQ.out; omega
  have b1 := (o1.out.block B (by rw [HSz.out]; omega) hqB).trans HB0.out
  have b2 := Lib.hid ((o2.out.block B (lt_of_heap b1) hqB).trans b1)
  have oo := Lib.hid (show Only (fun k => k = q) w W2 from ((Only.ofBelow (S := fun k => k = q) (by rw [← hB] at B0; exact B0.out)).trans o1.out fun _ _ h => h).trans o2.out fun _ _ h => h)
  have HqB := Lib.hid hqB
  clear hB b1 o1 o2 r1 HB0 B0 HSz hqB
  obtain ⟨x1, x2⟩ := one_new W2 (x : Int) (y : Int)
  have B3 := Lib.hid ((Below.refl W2.heap.size W2).alloc (Nat.le_refl _) (.cells #[.int .i64 (x : Int), .int .u64 (y : Int)] 70))
  have HMay := Lib.hid (fun W => may_any ((x : Int), (y : Int)) (by simp only; omega) W)
  go_wp2_with fail
  generalize W2.alloc (.cells #[.int .i64 (x : Int), .int .u64 (y : Int)] 70) = W3 at *
  refine (HMay.out W3).mono ?_
  rintro e W4 ⟨rfl, hb4⟩
  have B4 := Lib.hid (btr B3.out hb4.out)
  have y1 := cell_below x1 hb4.out
  have y2 := cell_below x2 hb4.out
  have b4 := Lib.hid ((B4.out.block B (lt_of_heap b2.out)).trans b2.out)
  have r4 := Lib.hid (r2.out.keep (S := fun _ => False) (Only.ofBelow B4.out) (fun h => h) (fun _ _ h => h))
  have o4 := Lib.hid (oo.out.trans (Only.ofBelow (S := fun k => k = q) B4.out) fun _ _ h => h)
  clear x1 x2 hb4 B3 B4 r2 oo b2 HMay
  by_cases hm : mayL ((x : Int), (y : Int))
  · have HG2 := HG.out
    rw [if_pos hm] at HG2
    subst HG2
    rw [decide_eq_true hm]
    have z1 : W4.cell? ⟨B, 0, none⟩ = some (.int .i64 0) := by simpa using cell_plain b4.out 0
    have z2 : W4.cell? ⟨B, 1, none⟩ = some (.int .u64 0) := by simpa using cell_plain b4.out 1
    have f1 : W4.frozen? ⟨B, 0, none⟩ = false := frozen_plain b4.out 0
    have f2 : W4.frozen? ⟨B, 1, none⟩ = false := frozen_plain b4.out 1
    have O5 := Lib.hid (((Only.refl (fun k => k = B) W4).setCell (p := ⟨B, 0, none⟩) (.inl rfl) (.int .i64 (x : Int))).setCell (p := ⟨B, 1, none⟩) (.inl rfl) (.int .u64 (y : Int)))
    clear hm HG
    go_wp2
    have HF := set_two b4.out (.int .i64 (x : Int)) (.int .u64 (y : Int))
    (try simp only [Exit.inBlock, Exit.then])
    refine bodyPost_ret (results_cell_row rfl _ _ B 70 #[.int .i64 (x : Int), .int .u64 (y : Int)] (0, 0) _ rfl HF Try.underlying70 rfl (by kernel_rfl)) rfl ?_
    exact ⟨rfl, Lib.hid (r4.out.keep (S := fun k => k = B) O5.out (fun e => HqB.out e.symm) (fun k e e2 => by have := HDl.out k e; omega)), Lib.hid ((o4.out.setCell (p := ⟨B, 0, none⟩) (.inr (Nat.le_of_eq HB.out)) _).setCell (p := ⟨B, 1, none⟩) (.inr (Nat.le_of_eq HB.out)) _)⟩
  · have HG2 := HG.out
    rw [if_neg hm] at HG2
    subst HG2
    rw [decide_eq_false hm]
    clear hm HG
    go_wp2_with fail
    refine (fail_any q d s2.l s2.bad W4 r4.out).mono ?_
    rintro e W5 ⟨rfl, r5, o5⟩
    have b5 := Lib.hid ((o5.out.block B (lt_of_heap b4.out) HqB.out).trans b4.out)
    have z1 : W5.cell? ⟨B, 0, none⟩ = some (.int .i64 0) := by simpa using cell_plain b5.out 0
    have z2 : W5.cell? ⟨B, 1, none⟩ = some (.int .u64 0) := by simpa using cell_plain b5.out 1
    have f1 : W5.frozen? ⟨B, 0, none⟩ = false := frozen_plain b5.out 0
    have f2 : W5.frozen? ⟨B, 1, none⟩ = false := frozen_plain b5.out 1
    have O5 := Lib.hid (((Only.refl (fun k => k = B) W5).setCell (p := ⟨B, 0, none⟩) (.inl rfl) (.int .i64 0)).setCell (p := ⟨B, 1, none⟩) (.inl rfl) (.int .u64 0))
    have o6 := Lib.hid (o4.out.trans o5.out fun _ _ h => h)
    clear y1 y2 r4
    go_wp2
    have HF := set_two b5.out (.int .i64 0) (.int .u64 0)
    (try simp only [Exit.inBlock, Exit.then])
    refine bodyPost_ret (results_cell_row rfl _ _ B 70 #[.int .i64 0, .int .u64 0] (0, 0) _ rfl HF Try.underlying70 rfl (by kernel_rfl)) rfl ?_
    exact ⟨rfl, Lib.hid (r5.out.keep (S := fun k => k = B) O5.out (fun e => HqB.out e.symm) (fun k e e2 => by have := HDl.out k e; omega)), Lib.hid ((o6.out.setCell (p := ⟨B, 0, none⟩) (.inr (Nat.le_of_eq HB.out)) _).setCell (p := ⟨B, 1, none⟩) (.inr (Nat.le_of_eq HB.out)) _)⟩
end Go.Proofs.Ytadpbcbgmopfaaa
