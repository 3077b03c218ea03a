/-
  Package window's Due: the iterator over what is due. For senders of bodies of at most 1,000,000 bytes.
-/
import Derived.Test.YtmkkhknbokfciaaQnum
import Derived.Test.YtmkkhknbokfciaaQdue
import Derived.Test.YtmkkhknbokfciaaQcopy
namespace Go.Proofs.Ytmkkhknbokfciaa
set_option maxRecDepth 20000
open Go.RowKit Go.Shelf
attribute [local go_sem] Oper.semAt_some wideDepth wideFn

theorem two_of {vs : Array Value} (h : vs.size = 2) : ∃ x y, vs = #[x, y] := by
  obtain ⟨l⟩ := vs
  rcases l with _ | ⟨x, _ | ⟨y, _ | ⟨z, l⟩⟩⟩
  · simp at h
  · simp at h
  · exact ⟨x, y, rfl⟩
  · simp at h
/-- What is due. -/
def dueL (b : Nat) (ls : List (List UInt8)) : List (List UInt8) := ls.take (dueS b ls)
theorem dueL_length (b : Nat) (ls : List (List UInt8)) : (dueL b ls).length = dueS b ls := by
  unfold dueL
  rw [List.length_take]
  have := (dueS_le b ls).2
  omega
theorem below_grown {w w' : World} (h : Below w.heap.size w w') : w.grownBy w' none := ⟨h.os, h.tape, h.output, h.size, fun k hk _ => h.block k hk⟩
theorem own_lift {β : Type} {B B' : Nat} {I : β → World → Prop} (h : OwnFrom B I) (hB : B ≤ B') : OwnFrom B' I := fun s W W' row hs hg hr => h s W W' row hs hg (fun r e => ⟨Nat.le_trans hB (hr r e).1, (hr r e).2⟩)
theorem own_on {β : Type} {B : Nat} {I : β → World → Prop} (h : OwnFrom B I) {s : β} {W W' : World} (hs : I s W) (hb : Below W.heap.size W W') : I s W' := h s W W' none hs (below_grown hb) (fun r e => by cases e)
/-- What the i-th round is handed: its number, a body in memory of its own. -/
def DueArg (b : Nat) (ls : List (List UInt8)) (i : Nat) (vs : Array Value) (g : Nat) (W : World) : Prop :=
  ∃ c, vs = #[.int .u64 ((b + 1 + i : Nat) : Int), .slice (some ⟨g, 0, none⟩) (bodK ls i).length c] ∧ Own8 W g (some ⟨g, 0, none⟩) (bodK ls i).length c (bodK ls i)
theorem own8_grown {W W' : World} {base g n c : Nat} {l : List UInt8} {row : Option Nat} (h : Own8 W base (some ⟨g, 0, none⟩) n c l) (hg : W.grownBy W' row) (hr : ∀ r, row = some r → ∃ o : Obj, W.heap[r]? = some o ∧ o.isCells = false) : Own8 W' base (some ⟨g, 0, none⟩) n c l :=
  h.keep (Only.ofGrown hg) (fun k e e2 => by
    have e' : g = k := Option.some.inj e
    subst e'
    obtain ⟨_, cur, hh, _⟩ := h.block (g := g) rfl
    obtain ⟨o, ho, hc⟩ := hr g e2
    rw [hh] at ho
    cases ho
    cases hc)
theorem dueArg_own (b : Nat) (ls : List (List UInt8)) (B i : Nat) (vs : Array Value) (g : Nat) : OwnFrom B (fun (_ : Unit) W => DueArg b ls i vs g W) := fun _ W W' row hs hg hr => by
  obtain ⟨c, e, h⟩ := hs
  exact ⟨c, e, own8_grown h hg (fun r hr' => (hr r hr').2)⟩
theorem own8_at {w w' : World} {base n c : Nat} {A : Option Addr} {l : List UInt8} (h : Own8 w base A n c l) (hk : ∀ k, blockOf A = some k → w'.heap[k]? = w.heap[k]?) : Own8 w' base A n c l := by
  refine ⟨h.1, ?_⟩
  rcases h.2 with h1 | ⟨g, c', cur, hv, hg, hh, hrest⟩
  · exact .inl h1
  · have hv' : A = some ⟨g, 0, none⟩ ∧ c = c' := by simpa using hv
    exact .inr ⟨g, c', cur, hv, hg, (hk g (by rw [hv'.1]; rfl)).trans hh, hrest⟩
theorem own8_base {w : World} {B B' g n c : Nat} {l : List UInt8} (h : Own8 w B (some ⟨g, 0, none⟩) n c l) (hg : B' ≤ g) : Own8 w B' (some ⟨g, 0, none⟩) n c l := own8_raise (h.lower (Nat.zero_le _)) (fun k e => by have e' : g = k := Option.some.inj e; omega)
/-- The blocks that a round leaves alone: those of the row (n1 to n2), and the iterator's own four. -/
def dueR (n1 n2 s j : Nat) : Prop := (n1 ≤ j ∧ j < n2) ∨ (s ≤ j ∧ j < s + 4)
/-- The iterator's promise. -/
def DueSeqX (b : Nat) (ls : List (List UInt8)) (p n1 n2 : Nat) (w : World) : Prop := SeqX Try.prog 37 #[.pointer (some ⟨p, 0, none⟩)] ls.length (DueArg b ls) 4 (dueR n1 n2) w
/-- The same, with more left alone. -/
def DueSeq (b : Nat) (ls : List (List UInt8)) (p n1 : Nat) (w : World) : Prop := SeqG Try.prog 37 #[.pointer (some ⟨p, 0, none⟩)] ls.length (DueArg b ls) (fun j => n1 ≤ j) w
theorem dueSeq_of {b : Nat} {ls : List (List UInt8)} {p n1 n2 : Nat} {w : World} (h : DueSeqX b ls p n1 n2 w) (h1 : n1 ≤ w.heap.size) : DueSeq b ls p n1 w := fun l J Jx W hW hJ hJx hY h0 =>
  h l J Jx W hW hJ hJx (fun i vs b W1 a1 a2 a3 a4 a5 => by
    obtain ⟨fn, tmps, assign, body, hy, hR⟩ := hY i vs b W1 a1 (show W.heap.size + 0 ≤ W1.heap.size by omega) a3 a4 a5
    refine ⟨fn, tmps, assign, body, hy, hR.mono ?_⟩
    rintro e V (⟨e1, e2, e3⟩ | h)
    · exact .inl ⟨e1, e2, ⟨e3.size, fun j hj => e3.same j (by
        have h2 := hW.size
        rcases hj with h3 | h3
        · exact h3.1
        · show n1 ≤ j
          omega)⟩⟩
    · exact .inr h) h0

set_option maxHeartbeats 8000000 in
theorem due1x_any (p b n1 : Nat) (A : Option Addr) (n c : Nat) (ls : List (List UInt8)) (w : World) (hx : SBox p (b : Int) A n c w) (hp : n1 ≤ p) (hb : b + n < 9223372036854775808) (ho : ORws w n1 A n c ls) (hls : ∀ k, k < n → 1 ≤ (bodK ls k).length ∧ (bodK ls k).length ≤ 1000000) (hn1 : n1 ≤ w.heap.size) :
    DueSeqX b ls p n1 w.heap.size w := by
  intro l J Jx W hW hJ hJx hY h0
  rw [ho.len] at hY ⊢
  have X1 := Lib.hid (hx.below hW)
  have O1 := Lib.hid (ho.on hW)
  have HY := Lib.hid hY
  have HJ := Lib.hid hJ
  have HJx := Lib.hid hJx
  have HJ0 := Lib.hid h0
  have Hb := Lib.hid hb
  have HL := Lib.hid hls
  have Hp := Lib.hid hp
  have Hn1 := Lib.hid (Nat.le_trans hn1 hW.size)
  have HwW := Lib.hid hW.size
  obtain ⟨vals, hv0⟩ : ∃ vals : Nat → Value, ∀ i, i < n → ∃ A' c', vals i = .slice A' (bodK ls i).length c' ∧ Own8 W n1 A' (bodK ls i).length c' (bodK ls i) ∧ (∀ g, blockOf A' = some g → g < w.heap.size) ∧ ∃ g, A = some ⟨g, 0, none⟩ ∧ (n1 ≤ g ∧ g < w.heap.size) ∧ W.cell? ⟨g, 0 + i, none⟩ = some (vals i) := by
    obtain ⟨vs, ho1, ho2, ho3⟩ := ho
    refine ⟨fun i => vs.getD i undef, fun i hi => ?_⟩
    obtain ⟨A', c', e1, e2, _⟩ := ho3 i (by omega)
    rcases ho1.form with ⟨_, h0, _⟩ | ⟨g, rfl, hg, hl⟩
    · omega
    · have ev : vs.getD i undef = .slice A' (bodK ls i).length c' := by simp [List.getD, e1]
      refine ⟨A', c', ev, e2.keep (S := fun _ => False) (Only.ofBelow hW) (fun _ _ h => h), fun g2 e => (e2.lt e).2, g, rfl, ⟨hg, hl⟩, ?_⟩
      show W.cell? _ = some (vs.getD i undef)
      rw [ev, Nat.zero_add]
      exact qold ((ho1.cells rfl).2 i _ e1).1 hW
  have HV0 := Lib.hid hv0
  clear hx hb ho hY h0 hW hJ hJx hls hp hn1 hv0
  refine callsIn_wide.2 (calls_of_marks Try.func37 rfl ?_)
  simp only [Try.ntmps37, List.size_toArray, List.length_cons, List.length_nil, Nat.reduceAdd, Nat.reduceSub, Array.replicate_succ, Array.replicate_zero, List.push_toArray, List.append_toArray, List.nil_append, List.cons_append]
  have BY := Lib.hid (qbox W (.cells #[.func (.yield l) #[] #[]] 68))
  have ky := (cell_of_row _ _ 0 _ _ (0, 0) (qnew W #[.func (.yield l) #[] #[]] 68)).trans (show _ = some (Value.func (.yield l) #[] #[]) from rfl)
  have X2 := Lib.hid (X1.out.below BY.out)
  have O2 := Lib.hid (O1.out.on BY.out)
  have HJ1 := Lib.hid (own_on HJ.out HJ0.out BY.out)
  have HWs := Lib.hid (show (W.alloc (.cells #[.func (.yield l) #[] #[]] 68)).heap.size = W.heap.size + 1 by simp)
  obtain ⟨k0, k1⟩ := X2.out
  clear X1 O1 HJ0
  go_wp2_with fail
  generalize W.alloc (.cells #[.func (.yield l) #[] #[]] 68) = W1 at *
  refine (numbered_any b A n c W1).mono ?_
  rintro e W2 ⟨rfl, hx2, hb2, hs2⟩
  have O3 := Lib.hid (O2.out.on hb2.out)
  have HJ2 := Lib.hid (own_on HJ.out HJ1.out hb2.out)
  have hyc := qold ky hb2.out
  have S2 := Lib.hid (show W2.heap.size = W.heap.size + 2 by have := hs2.out; have := HWs.out; omega)
  clear X2 O2 HJ1 k0 k1 ky
  have hx3 := Lib.hid hx2
  go_wp2_with fail
  have HV : Hid (∀ i, i < n → ∃ A' c', vals i = .slice A' (bodK ls i).length c' ∧ Own8 W2 n1 A' (bodK ls i).length c' (bodK ls i) ∧ (∀ g, blockOf A' = some g → g < w.heap.size) ∧ ∃ g, A = some ⟨g, 0, none⟩ ∧ (n1 ≤ g ∧ g < w.heap.size) ∧ W2.cell? ⟨g, 0 + i, none⟩ = some (vals i)) := Lib.hid (fun i hi => by
    obtain ⟨A', c', e1, e2, e3, g, e4, e5, e6⟩ := HV0.out i hi
    have hb12 := qtr BY.out hb2.out
    exact ⟨A', c', e1, e2.keep (S := fun _ => False) (Only.ofBelow hb12) (fun _ _ h => h), e3, g, e4, e5, qold e6 hb12⟩)
  have hseq := numbered1_any W1.heap.size b A n c vals (fun j => (n1 ≤ j ∧ j < w.heap.size) ∨ (W.heap.size ≤ j ∧ j < W.heap.size + 2)) W2 hx3.out Hb.out (fun hn => by
    obtain ⟨_, _, _, _, _, g, rfl, hg, _⟩ := HV.out 0 hn
    refine ⟨g, 0, rfl, .inl hg, by have := HwW.out; have := S2.out; omega, fun i hi => ?_⟩
    obtain ⟨_, _, _, _, _, g2, e2, _, h2⟩ := HV.out i hi
    cases e2
    exact h2) (.inr (by have := HWs.out; omega))
  clear HV0
  refine wp_rangeG (lb := #[.pointer (some ⟨W1.heap.size, 0, none⟩)]) rfl (enters_of Try.func39 (by kernel_rfl) rfl) hseq (fun i vs b' W' e => by rw [e]; rfl) (fun i vs b' _ _ _ _ hs _ _ => hs)
    (fun i W' => J i W' ∧ (W2.heap.size ≤ W'.heap.size ∧ ∀ j, ((n1 ≤ j ∧ j < w.heap.size) ∨ (W.heap.size ≤ j ∧ j < W.heap.size + 2)) → W'.heap[j]? = W2.heap[j]?))
    (fun cc i W' => cc = .ret ∧ Jx i W')
    (OwnFrom.and (own_lift HJ.out (by have := S2.out; omega)) (fun _ X Y row hs hg hr => ⟨Nat.le_trans hs.1 hg.size, fun j h1 => by
      have h2 : j < W2.heap.size := by have := HwW.out; have := S2.out; omega
      exact (hg.block j (Nat.lt_of_lt_of_le h2 hs.1) (fun e => by have := (hr j e.symm).1; omega)).trans (hs.2 j h1)⟩))
    (fun cc i X Y row hs hg hr => ⟨hs.1, own_lift HJx.out (by have := S2.out; omega) i X Y row hs.2 hg hr⟩)
    ⟨HJ2.out, Nat.le_refl _, fun _ _ => rfl⟩
    (fun vs => { tmps := #[.func (.yield l) #[] #[], .pointer (some ⟨p, 0, none⟩), .pointer (some ⟨W.heap.size, 0, none⟩), vs.getD 0 undef, vs.getD 1 undef, .agg #[.int .u64 (b : Int), .slice A n c], .func (.func 39) #[] #[.pointer (some ⟨W1.heap.size, 0, none⟩)], vs.getD 0 undef, vs.getD 1 undef, undef, undef, undef, undef, undef, undef], defers := [] }) ?assign ?body ?done ?stop
  case assign =>
    intro l2 vs W' K hvs hK
    obtain ⟨x, y, rfl⟩ := two_of hvs
    gi_wp2
    exact hK
  case done =>
    rintro W' ⟨hJ', _⟩ hK
    refine leave_end hK (results_none rfl _ _ _) ⟨⟨_, rfl⟩, .inl (HJ.out.putObj _ hJ' (by have := S2.out; omega) hK rfl)⟩
  case stop =>
    rintro cc i W' hi ⟨rfl, hJ'⟩ hK
    go_wp2
    refine leave_mark hK (results_none rfl _ _ _) ⟨⟨_, rfl⟩, .inr ⟨i, hi, HJx.out.putObj _ hJ' (by have := S2.out; omega) hK rfl⟩⟩
  case body =>
    rintro l2 i vs b' W3 hi hW3 _ ⟨hJ3, hs3, hk3⟩ rfl
    obtain ⟨A', c', ev, ho1, hbnd, g0, rfl, _⟩ := HV.out i hi
    have hlen := HL.out i hi
    have h2len := S2.out
    have ho3 : Own8 W3 n1 A' (bodK ls i).length c' (bodK ls i) := own8_at ho1 (fun j e => hk3 j (.inl ⟨(ho1.lt e).1, hbnd j e⟩))
    have HC := Lib.hid (clone_any A' (bodK ls i) (bodK ls i).length c' W3.heap.size W3.drew rfl ho3.none_cap ho3.bytes (Nat.le_refl _) (by omega))
    have hyc3 : W3.cell? ⟨W.heap.size, 0, none⟩ = some (.func (.yield l) #[] #[]) := (World.cell?_of_block (w := W2) (hk3 W.heap.size (.inr ⟨Nat.le_refl _, by omega⟩))).trans hyc
    have HYi : Hid (∀ (A1 : Option Addr) (c1 : Nat) (V1 : World), Own8 V1 W3.heap.size A1 (bodK ls i).length c1 (bodK ls i) → Below W3.heap.size W3 V1 → ∃ fn tmps assign body,
        (Instr.yield l #[.int .u64 ((b : Int) + 1 + (i : Int)), .slice A1 (bodK ls i).length c1]).run Try.prog V1 = .ok (.round l fn tmps assign body) V1 ∧
        RoundIn Fence.wide 0 Try.prog l fn tmps assign body V1 fun e V2 => ∃ t, e = .returned (.bool t) ∧
          Hid ((t = true ∧ postG (fun j => (n1 ≤ j ∧ j < w.heap.size) ∨ (W.heap.size ≤ j ∧ j < W.heap.size + 2)) (fun i W' => J i W' ∧ (W2.heap.size ≤ W'.heap.size ∧ ∀ j, ((n1 ≤ j ∧ j < w.heap.size) ∨ (W.heap.size ≤ j ∧ j < W.heap.size + 2)) → W'.heap[j]? = W2.heap[j]?)) (fun cc i W' => cc = .ret ∧ Jx i W') W2.heap.size b' (i + 1) W3 .normal { tmps := #[], defers := [] } V2) ∨
            (t = false ∧ postG (fun j => (n1 ≤ j ∧ j < w.heap.size) ∨ (W.heap.size ≤ j ∧ j < W.heap.size + 2)) (fun i W' => J i W' ∧ (W2.heap.size ≤ W'.heap.size ∧ ∀ j, ((n1 ≤ j ∧ j < w.heap.size) ∨ (W.heap.size ≤ j ∧ j < W.heap.size + 2)) → W'.heap[j]? = W2.heap[j]?)) (fun cc i W' => cc = .ret ∧ Jx i W') W2.heap.size b' (i + 1) W3 .ret { tmps := #[], defers := [] } V2))) := Lib.hid (fun A1 c1 V1 o1 b1 => by
      obtain ⟨g1, rfl⟩ : ∃ g1, A1 = some ⟨g1, 0, none⟩ := by
        rcases o1.form8 with rfl | h
        · have := o1.bytes.none_
          rw [this] at hlen
          simp at hlen
        · exact h
      have hg1 : W3.heap.size ≤ g1 := (o1.lt rfl).1
      obtain ⟨fn, tmps, assign, body, hy, hR2⟩ := HY.out i _ g1 V1 hi (by have := b1.size; omega) (by omega) (own_on HJ.out hJ3 b1) ⟨c1, rfl, own8_base o1 (Nat.le_refl _)⟩
      rw [show ((b + 1 + i : Nat) : Int) = (b : Int) + 1 + (i : Int) by omega] at hy
      refine ⟨fn, tmps, assign, body, hy, hR2.mono ?_⟩
      rintro e V2 (⟨rfl, hJ4, hK4⟩ | ⟨rfl, hJ4, hK4⟩)
      · have hwW := HwW.out
        have hsame : ∀ j, (((n1 ≤ j ∧ j < w.heap.size) ∨ (W.heap.size ≤ j ∧ j < W.heap.size + 2)) ∨ j = W2.heap.size ∨ j = W2.heap.size + 1) → j < W3.heap.size → V2.heap[j]? = W3.heap[j]? := fun j h1 h2 => (hK4.same j (by unfold dueR; omega) (by omega) (by have := b1.size; omega)).trans (b1.block j h2)
        refine ⟨true, rfl, Lib.hid (.inl ⟨rfl, ⟨by have := hK4.size; have := b1.size; omega, fun j hj _ hlt => hsame j hj hlt⟩, hJ4, by have := hK4.size; have := b1.size; omega, fun j h1 => (hsame j (.inl h1) (by omega)).trans (hk3 j h1)⟩)⟩
      · refine ⟨false, rfl, Lib.hid (.inr ⟨rfl, ⟨by have := hK4.size; have := b1.size; omega, fun j hj _ hlt => (hK4.same j (by omega) (by omega) (by have := b1.size; omega)).trans (b1.block j hlt)⟩, rfl, hJ4⟩)⟩)
    have hmix : Try.prog.follows .mixedOrders = true := by kernel_rfl
    clear HY HJ HJx HL HV
    rw [ev]
    clear hseq ho1 ho3 ev
    simp only [Array.getD_eq_getD_getElem?, List.getElem?_toArray, List.getElem?_cons_zero, List.getElem?_cons_succ, Option.getD_some]
    gi_wp2
    gi_region_with_o (first
      | (gi_at_call 32; refine (CallsIn.inRound l2 (callsIn_wide.2 HC.out)).mono ?_; rintro e V1 ⟨A1, c1, rfl, o1, b1⟩; have hyc4 := qold hyc3 (undrew b1.out); obtain ⟨fn, tmps, assign, body, hy, hR2⟩ := HYi.out A1 c1 V1 o1.out (undrew b1.out))
      | (refine hR2.mono ?_; rintro e V2 ⟨t, rfl, hres⟩))
    all_goals
      rcases hres.out with ⟨rfl, hp⟩ | ⟨rfl, hp⟩
      · have HP := Lib.hid hp
        clear hp hres HYi
        gi_wp2
        exact HP.out
      · have HP := Lib.hid hp
        clear hp hres HYi
        gi_wp2
        exact HP.out
theorem due1_any (p b n1 : Nat) (A : Option Addr) (n c : Nat) (ls : List (List UInt8)) (w : World) (hx : SBox p (b : Int) A n c w) (hp : n1 ≤ p) (hb : b + n < 9223372036854775808) (ho : ORws w n1 A n c ls) (hls : ∀ k, k < n → 1 ≤ (bodK ls k).length ∧ (bodK ls k).length ≤ 1000000) (hn1 : n1 ≤ w.heap.size) :
    DueSeq b ls p n1 w := dueSeq_of (due1x_any p b n1 A n c ls w hx hp hb ho hls hn1) hn1
end Go.Proofs.Ytmkkhknbokfciaa
