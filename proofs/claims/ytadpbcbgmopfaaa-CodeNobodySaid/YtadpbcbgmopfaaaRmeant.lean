/-
  The document's own Reader: what a call of it answers (meant), and whether a Reader stands as it does (stands). For at most 2^46 bytes.
-/
import Derived.Test.YtadpbcbgmopfaaaRtext
import Derived.Test.YtadpbcbgmopfaaaAsked
import Derived.Test.YtadpbcbgmopfaaaRegion2
namespace Go.Proofs.Ytadpbcbgmopfaaa
set_option maxRecDepth 20000
open Go.RowKit

theorem Rd.nobytes {T : TypeId} {w : World} {q B : Nat} {d : Option Nat} {l xs : List UInt8} {bad : Bool} {A : Option Addr} (h : Rd T w q d l bad) (hb : Bytes w B A xs) (hp : 0 < xs.length) : blockOf A ≠ some q := by
  obtain ⟨b, off, rfl, _, hc⟩ := hb hp
  intro e
  obtain rfl : b = q := by simpa [blockOf] using e
  obtain ⟨A', cap', h1, _⟩ := h
  have h2 := hc 0 hp
  rw [cell_of_row _ _ _ _ _ (0, 0) h1] at h2
  rcases off with _ | _ | off <;> simp at h2
def BytesP (q : Nat) (l : List UInt8) (w : World) (v : Value) : Prop := ∃ A cap, v = .slice A l.length cap ∧ Bytes w w.heap.size A l ∧ (0 < l.length → blockOf A ≠ some q)
theorem BytesP.mono {q : Nat} {l : List UInt8} {v : Value} {w w' : World} (ho : Only (fun k => k = q) w w') (h : BytesP q l w v) : BytesP q l w' v := by
  obtain ⟨A, cap, e, h1, h2⟩ := h
  refine ⟨A, cap, e, fun hn => ?_, h2⟩
  obtain ⟨b, off, rfl, hb, hc⟩ := h1 hn
  exact ⟨b, off, rfl, Nat.lt_of_lt_of_le hb ho.size, fun k hk => (ho.cell (p := ⟨b, off + k, none⟩) hb (fun e => h2 hn (by simpa [blockOf] using e))).trans (hc k hk)⟩
/-- What a call of the document's Reader leaves. -/
def AskF (w : World) (q : Nat) (d : Option Nat) (a : Nat × List UInt8 × RS) (e : Ending) (w' : World) : Prop :=
  e = .returned (.tuple #[.int .u64 ((a.1 : Nat) : Int), .string ⟨a.2.1.toArray⟩]) ∧ Hid (Rd RfT w' q d a.2.2.l a.2.2.bad) ∧ Hid (Only (fun k => k = q) w w')
theorem AskF.of {w w' : World} {q : Nat} {d : Option Nat} {s : RS} (h1 : Hid (Rd RfT w' q d s.l s.bad)) (h2 : Hid (Only (fun k => k = q) w w')) (x : Nat) (l : List UInt8) : AskF w q d (x, l, s) (.returned (.tuple #[.int .u64 (x : Int), .string ⟨l.toArray⟩])) w' := ⟨rfl, h1, h2⟩
/-- How the Reader stands within a region: number 3 takes the bytes. -/
def I8 (q : Nat) (d : Option Nat) (s s2 : RS) (lst : Array Bool) (V : World) : Prop := Rd RfT V q d (if lst.getD 3 false = true then s2 else s).l (if lst.getD 3 false = true then s2 else s).bad
theorem I8.same {q i : Nat} {d : Option Nat} {s s2 : RS} {lst : Array Bool} {V : World} (h : i ≠ 3) (hI : I8 q d s s2 lst V) : I8 q d s s2 (lst.setIfInBounds i true) V := by unfold I8 at *; rwa [getD_set_ne false h]
theorem getD_set_same2 {lst : Array Bool} {i : Nat} (h : i < lst.size) : (lst.setIfInBounds i true).getD i false = true := by simp [h]
def T8 (q B : Nat) (n : Int) (L : List UInt8) (i : Nat) (w : World) (v : Value) : Prop :=
  match i with
  | 0 => v = .pointer (some ⟨q, 0, none⟩)
  | 1 => v = .pointer (some ⟨B, 1, none⟩)
  | 2 => v = .int .i64 n
  | 3 => BytesP q L w v
  | 4 => v = Value.string ⟨L.toArray⟩
  | 5 => v = .int .u64 0
  | _ => v = Value.string ⟨L.toArray⟩
theorem T8.mono {q B : Nat} {n : Int} {L : List UInt8} {i : Nat} {v : Value} {w w' : World} (hb : Only (fun k => k = q) w w') (h : T8 q B n L i w v) : T8 q B n L i w' v := by
  unfold T8 at *
  split at h <;> first | exact h | exact BytesP.mono hb h
set_option maxHeartbeats 1600000 in
theorem meant_any (q : Nat) (d : Option Nat) (s : RS) (x n : Int) (w : World) (hn : I64 n) (h : Rd RfT w q d s.l s.bad) (hr8 : s.l.length ≤ 70368744177664) :
    Calls Try.prog 29 #[.pointer (some ⟨q, 0, none⟩), .agg #[.int .i64 x, .int .i64 n]] w (AskF w q d (ask s (kind x) n)) := by
  have HK := Lib.hid (kind_int x)
  have hk9 := kind_lt x
  have hqw := Lib.hid h.lt
  obtain ⟨W1, hW1⟩ : ∃ W1, w.alloc (.cells #[.int .i64 x, .int .i64 n] 54) = W1 := ⟨_, rfl⟩
  have HW := Lib.hid hW1
  have c1 : W1.cell? ⟨w.heap.size, 0, none⟩ = some (.int .i64 x) := by rw [← hW1]; exact cell_plain (heap_alloc_new w _) 0
  have c2 : W1.cell? ⟨w.heap.size, 1, none⟩ = some (.int .i64 n) := by rw [← hW1]; exact cell_plain (heap_alloc_new w _) 1
  have H : Hid (Rd RfT W1 q d s.l s.bad) := Lib.hid (by rw [← hW1]; exact h.keep (S := fun _ => False) ((Only.refl _ _).alloc _) (fun h => h) (fun _ _ h => h))
  have HO : Hid (Only (fun k => k = q) w W1) := Lib.hid (by rw [← hW1]; exact (Only.refl _ _).alloc _)
  clear hW1 h
  have hcs : kind x = 0 ∨ kind x = 1 ∨ kind x = 2 ∨ kind x = 3 ∨ kind x = 4 ∨ kind x = 5 ∨ kind x = 6 ∨ kind x = 7 ∨ kind x = 8 := by omega
  obtain ⟨ek1, ek2, b9⟩ := kind_emod x
  clear hk9
  rcases hcs with hk | hk | hk | hk | hk | hk | hk | hk | hk <;> (rw [hk] at ek1 ek2)
  · have HE := Lib.hid (show ask s (kind x) n = ((rWide s 1).1, [], (rWide s 1).2) by rw [hk]; rfl)
    have HC := Lib.hid (fwide_any q d s 1 W1 (by omega) H.out hr8)
    generalize (rWide s 1).1 = v at *
    generalize (rWide s 1).2 = s' at *
    clear hk
    go_enter Try.func29, Try.ntmps29
    go_wp2_with fail
    rw [HW.out]
    refine HC.out.mono ?_
    rintro e w2 ⟨rfl, h1, h2⟩
    have h3 := Lib.hid (only_trans HO.out h2.out)
    go_wp2
    go_ret2
    rw [HE.out]
    exact AskF.of h1 h3 v []
  · have HE := Lib.hid (show ask s (kind x) n = ((rWide s 2).1, [], (rWide s 2).2) by rw [hk]; rfl)
    have HC := Lib.hid (fwide_any q d s 2 W1 (by omega) H.out hr8)
    generalize (rWide s 2).1 = v at *
    generalize (rWide s 2).2 = s' at *
    clear hk
    go_enter Try.func29, Try.ntmps29
    go_wp2_with fail
    rw [HW.out]
    refine HC.out.mono ?_
    rintro e w2 ⟨rfl, h1, h2⟩
    have h3 := Lib.hid (only_trans HO.out h2.out)
    go_wp2
    go_ret2
    rw [HE.out]
    exact AskF.of h1 h3 v []
  · have HE := Lib.hid (show ask s (kind x) n = ((rWide s 4).1, [], (rWide s 4).2) by rw [hk]; rfl)
    have HC := Lib.hid (fwide_any q d s 4 W1 (by omega) H.out hr8)
    generalize (rWide s 4).1 = v at *
    generalize (rWide s 4).2 = s' at *
    clear hk
    go_enter Try.func29, Try.ntmps29
    go_wp2_with fail
    rw [HW.out]
    refine HC.out.mono ?_
    rintro e w2 ⟨rfl, h1, h2⟩
    have h3 := Lib.hid (only_trans HO.out h2.out)
    go_wp2
    go_ret2
    rw [HE.out]
    exact AskF.of h1 h3 v []
  · have HE := Lib.hid (show ask s (kind x) n = ((rWide s 8).1, [], (rWide s 8).2) by rw [hk]; rfl)
    have HC := Lib.hid (fwide_any q d s 8 W1 (by omega) H.out hr8)
    generalize (rWide s 8).1 = v at *
    generalize (rWide s 8).2 = s' at *
    clear hk
    go_enter Try.func29, Try.ntmps29
    go_wp2_with fail
    rw [HW.out]
    refine HC.out.mono ?_
    rintro e w2 ⟨rfl, h1, h2⟩
    have h3 := Lib.hid (only_trans HO.out h2.out)
    go_wp2
    go_ret2
    rw [HE.out]
    exact AskF.of h1 h3 v []
  · have HE := Lib.hid (show ask s (kind x) n = ((rUint s).1, [], (rUint s).2) by rw [hk]; rfl)
    have HC := Lib.hid (fuint_any q d s W1 H.out hr8)
    generalize (rUint s).1 = v at *
    generalize (rUint s).2 = s' at *
    clear hk
    go_enter Try.func29, Try.ntmps29
    go_wp2_with fail
    rw [HW.out]
    refine HC.out.mono ?_
    rintro e w2 ⟨rfl, h1, h2⟩
    have h3 := Lib.hid (only_trans HO.out h2.out)
    go_wp2
    go_ret2
    rw [HE.out]
    exact AskF.of h1 h3 v []
  · have HE := Lib.hid (show ask s (kind x) n = (0, (rText s n).1, (rText s n).2) by rw [hk]; rfl)
    have HC := Lib.hid (ftext_any q d s n W1 hn.1 hn.2 H.out hr8)
    clear hk
    go_enter Try.func29, Try.ntmps29
    go_wp2_with fail
    rw [HW.out]
    refine HC.out.mono ?_
    rintro e w2 ⟨rfl, h1, h2⟩
    have h3 := Lib.hid (only_trans HO.out h2.out)
    generalize (rText s n).1 = L at *
    generalize (rText s n).2 = s' at *
    generalize hst : (⟨L.toArray⟩ : ByteArray) = st at *
    have HS := Lib.hid hst
    clear hst
    go_wp2
    go_ret2
    rw [HE.out, ← HS.out]
    exact AskF.of h1 h3 0 L
  · have HE := Lib.hid (show ask s (kind x) n = (0, (rRaw s n).1, (rRaw s n).2) by rw [hk]; rfl)
    have HRR := Lib.hid (show rRaw s n = ((rRaw s n).1, (rRaw s n).2) from rfl)
    generalize (rRaw s n).1 = L at *
    generalize (rRaw s n).2 = s' at *
    have hBlt : w.heap.size < W1.heap.size := by rw [← HW.out]; simp
    have hBq : ¬ w.heap.size = q := by have := hqw.out; omega
    generalize hB : w.heap.size = B at *
    have HB := Lib.hid hB
    clear hk hB
    go_enter Try.func29, Try.ntmps29
    go_wp2_with fail
    rw [HW.out, HB.out]
    go_wp2_with fail
    refine region_steps2 (n := 43) (fun a b => Only (fun k => k = q) a b) (I8 q d s s') (T8 q B n L) (by kernel_rfl) (by kernel_rfl) rfl (fun _ => Only.refl _ _) (fun _ _ _ h1 h2 => h1.trans h2 fun _ _ h => h) (by unfold I8; rw [if_neg (by simp)]; exact H.out) (fun _ _ _ _ hb h => T8.mono hb h) ?_ ?_
    · refine And.intro ?_ (And.intro ?_ (And.intro ?_ (And.intro ?_ (And.intro ?_ (And.intro ?_ (And.intro ?_ (True.intro)))))))
      · intro listed a' w' hw hl hd K hK
        refine step_free rfl ?_
        apply wp_move
        exact hK _ _ (Only.refl _ _) (I8.same (i := 0) (by decide) hw.inv) (fun s hs => by cases hs; exact hw.kept 0 (by kernel_rfl))
      · intro listed a' w' hw hl hd K hK
        have hv3 := hw.kept 3 (by kernel_rfl)
        refine step_free rfl ?_
        unfold Oper.wp
        simp only [execOp]
        go_simp
        exact hK _ _ (Only.refl _ _) (I8.same (i := 1) (by decide) hw.inv) (fun s hs => by cases hs; rfl)
      · intro listed a' w' hw hl hd K hK
        have hv26 : a'.tmps.getD 26 undef = .pointer (some ⟨B, 1, none⟩) := (hw.at_ 1 26 rfl (hd ⟨1, .data⟩ (by simp) rfl))
        have hcl := (hw.held.cell (p := ⟨B, 1, none⟩) hBlt hBq).trans c2
        refine step_free rfl ?_
        unfold Oper.wp
        simp only [execOp]
        go_simp
        exact hK _ _ (Only.refl _ _) (I8.same (i := 2) (by decide) hw.inv) (fun s hs => by cases hs; rfl)
      · intro listed a' w' hw hl hd K hK
        have hv25 : a'.tmps.getD 25 undef = .pointer (some ⟨q, 0, none⟩) := (hw.at_ 0 25 rfl (hd ⟨0, .data⟩ (by simp) rfl))
        have hv27 : a'.tmps.getD 27 undef = .int .i64 n := (hw.at_ 2 27 rfl (hd ⟨2, .data⟩ (by simp) rfl))
        refine step_free rfl ?_
        unfold Oper.wp
        simp only [execOp]
        go_simp
        have hI := hw.inv
        unfold I8 at hI
        rw [hl, if_neg (by simp)] at hI
        refine (fraw_any q d s n w' hI hr8).mono ?_
        unfold RawF
        rw [HRR.out]
        rintro e w2 ⟨A2, c2, rfl, h1, h2, h3, h4⟩
        exact hK _ _ h4.out (by unfold I8; rw [getD_set_same2 (by rw [hw.lsize]; exact Nat.lt_of_lt_of_eq (show 3 < 7 by omega) rfl), if_pos rfl]; exact h1.out) (fun s hs => by cases hs; exact ⟨A2, c2, rfl, h2.out, fun hp => h1.out.nobytes h2.out hp⟩)
      · intro listed a' w' hw hl hd K hK
        have hv28 : BytesP q L w' (a'.tmps.getD 28 undef) := (hw.at_ 3 28 rfl (hd ⟨3, .data⟩ (by simp) rfl))
        refine step_free rfl ?_
        obtain ⟨A2, c2, hv, hb2, _⟩ := hv28
        have C := conv_str c2 hb2 rfl
        unfold Oper.wp
        simp only [execOp]
        go_simp
        exact hK _ _ (Only.refl _ _) (I8.same (by decide) hw.inv) (fun s hs => by cases hs; rfl)
      · intro listed a' w' hw hl hd K hK
        refine step_free rfl ?_
        unfold Oper.wp
        simp only [execOp]
        go_simp
        exact hK _ _ (Only.refl _ _) (I8.same (i := 5) (by decide) hw.inv) (fun s hs => by cases hs; rfl)
      · intro listed a' w' hw hl hd K hK
        refine step_free rfl ?_
        apply wp_assign
        exact hK _ _ (Only.refl _ _) (I8.same (i := 6) (by decide) hw.inv) (fun s hs => by cases hs; exact (hw.at_ 4 29 rfl (hd ⟨4, .data⟩ (by simp) rfl)))
    · intro listed a' w' hw hall
      have hk4 : a'.tmps.getD 4 undef = .int .u64 0 := hw.at_ 5 4 rfl (hall 5 (Nat.lt_of_lt_of_eq (show 5 < 7 by omega) rfl))
      have hk5 : a'.tmps.getD 5 undef = Value.string ⟨L.toArray⟩ := hw.at_ 6 5 rfl (hall 6 (Nat.lt_of_lt_of_eq (show 6 < 7 by omega) rfl))
      have hR : Hid (Rd RfT w' q d s'.l s'.bad) := Lib.hid (by have h := hw.inv; unfold I8 at h; rw [hall 3 (Nat.lt_of_lt_of_eq (show 3 < 7 by omega) rfl), if_pos rfl] at h; exact h)
      have h3 : Hid (Only (fun k => k = q) w w') := Lib.hid (HO.out.trans (Only.drew_left hw.held) fun _ _ h => h)
      have hp := hw.puts [25, 26, 27, 28, 29, 4, 5] (by kernel_rfl)
      clear hw hall
      rw [hp]
      simp only [List.foldl_cons, List.foldl_nil, hk4, hk5]
      generalize a'.tmps.getD 25 undef = u25
      generalize a'.tmps.getD 26 undef = u26
      generalize a'.tmps.getD 27 undef = u27
      generalize a'.tmps.getD 28 undef = u28
      generalize a'.tmps.getD 29 undef = u29
      clear hp hk4 hk5
      simp only [Act.put, List.setIfInBounds_toArray, List.set_cons_succ, List.set_cons_zero]
      generalize hst : (⟨L.toArray⟩ : ByteArray) = st at *
      have HS := Lib.hid hst
      clear hst
      go_wp2
      go_ret2
      rw [HE.out, ← HS.out]
      exact AskF.of (s := s') hR h3 0 L
  · have HE := Lib.hid (show ask s (kind x) n = (0, [], ⟨s.l, true⟩) by rw [hk]; rfl)
    obtain ⟨_, _, _, C1, F1, _⟩ := H.out.flat
    obtain ⟨r1, o1⟩ := H.out.bad1
    have R1 := Lib.hid r1
    have O1 := Lib.hid (only_trans HO.out o1)
    rw [← HW.out] at C1 F1
    clear hk r1 o1
    go_enter Try.func29, Try.ntmps29
    go_wp2
    go_ret2
    rw [HW.out, HE.out]
    exact AskF.of (s := ⟨s.l, true⟩) R1 O1 0 []
  · have HE := Lib.hid (show ask s (kind x) n = ((errOf (rEnd s).bad).toNat, [], rEnd s) by rw [hk]; rfl)
    have HC := Lib.hid (fend_any q d s W1 H.out)
    generalize rEnd s = s' at *
    clear hk
    cases hb : s'.bad with
    | true =>
      rw [hb] at HC HE
      go_enter Try.func29, Try.ntmps29
      go_wp2_with fail
      rw [HW.out]
      refine HC.out.mono ?_
      rintro e w2 ⟨rfl, h1, h2⟩
      have h3 := Lib.hid (only_trans HO.out h2.out)
      go_wp2
      go_ret2
      rw [HE.out]
      exact AskF.of (s := s') h1 h3 3 []
    | false =>
      rw [hb] at HC HE
      go_enter Try.func29, Try.ntmps29
      go_wp2_with fail
      rw [HW.out]
      refine HC.out.mono ?_
      rintro e w2 ⟨rfl, h1, h2⟩
      have h3 := Lib.hid (only_trans HO.out h2.out)
      go_wp2
      go_ret2
      rw [HE.out]
      exact AskF.of (s := s') h1 h3 0 []
def T4 (q q2 m cap : Nat) (A : Option Addr) (er : Int) (i : Nat) (_ : World) (v : Value) : Prop :=
  match i with
  | 0 => v = .pointer (some ⟨q, 0, none⟩)
  | 1 => v = .int .i64 (m : Int)
  | 2 => v = .pointer (some ⟨q2, 0, none⟩)
  | 3 => v = .pointer (some ⟨q2, 0, none⟩)
  | 4 => v = .pointer (some ⟨q2, 0, none⟩)
  | 5 => v = .slice A m cap
  | 6 => v = .int .i64 (m : Int)
  | 7 => v = .bool true
  | 8 => v = .bool true
  | 9 => v = .pointer (some ⟨q, 0, none⟩)
  | 10 => v = .int .i64 er
  | 11 => v = .int .i64 er
  | 12 => v = .bool true
  | 13 => v = .bool true
  | _ => v = .bool true
set_option maxHeartbeats 1600000 in
theorem stands_any (q q2 : Nat) (d d2 : Option Nat) (s : RS) (w : World) (h1 : Rd RdT w q d s.l s.bad) (h2 : Rd RfT w q2 d2 s.l s.bad) :
    Calls Try.prog 30 #[.pointer (some ⟨q, 0, none⟩), .pointer (some ⟨q2, 0, none⟩)] w fun e w' => e = .returned (.bool true) ∧ Hid (Below w.heap.size w w') := by
  obtain ⟨l, bad⟩ := s
  simp only at h1 h2
  obtain ⟨A, cap, C0, C1, _⟩ := h2.flat
  clear h2
  generalize hm : l.length = m at *
  have HM := Lib.hid hm
  have HC0 := Lib.hid C0
  clear hm
  cases hb : bad with
  | true =>
    rw [hb] at C1 h1
    have H1 := Lib.hid (show Rd RdT w.drew q d l true from h1)
    have HErr := Lib.hid (err_bad q d l w.drew H1.out)
    clear h1 hb
    go_enter Try.func30, Try.ntmps30
    go_wp2_with fail
    refine region_steps2 (n := 24) (fun a b => a = b) (fun _ _ => True) (T4 q q2 m cap A 3) (by kernel_rfl) (by kernel_rfl) rfl (fun _ => rfl) (fun _ _ _ h1 h2 => h1.trans h2) trivial (fun _ _ _ _ hb h => hb ▸ h) ?_ ?_
    · refine And.intro ?_ (And.intro ?_ (And.intro ?_ (And.intro ?_ (And.intro ?_ (And.intro ?_ (And.intro ?_ (And.intro ?_ (And.intro ?_ (And.intro ?_ (And.intro ?_ (And.intro ?_ (And.intro ?_ (And.intro ?_ (And.intro ?_ (True.intro)))))))))))))))
      · intro listed a' w' hw hl hd K hK
        refine step_free rfl ?_
        apply wp_move
        exact hK _ _ (rfl) trivial (fun s hs => by cases hs; exact hw.kept 0 (by kernel_rfl))
      · intro listed a' w' hw hl hd K hK
        have hv10 : a'.tmps.getD 10 undef = .pointer (some ⟨q, 0, none⟩) := (hw.at_ 0 10 rfl (hd ⟨0, .data⟩ (by simp) rfl))
        refine step_free rfl ?_
        have hwe : w' = w.drew := hw.held.symm
        subst hwe
        unfold Oper.wp
        simp only [execOp]
        go_simp
        refine (left_any q d l true m w.drew H1.out HM.out).mono ?_
        rintro e w2 ⟨rfl, rfl⟩
        exact hK _ _ rfl trivial (fun s hs => by cases hs; rfl)
      · intro listed a' w' hw hl hd K hK
        refine step_free rfl ?_
        apply wp_move
        exact hK _ _ (rfl) trivial (fun s hs => by cases hs; exact hw.kept 1 (by kernel_rfl))
      · intro listed a' w' hw hl hd K hK
        have hv12 : a'.tmps.getD 12 undef = .pointer (some ⟨q2, 0, none⟩) := (hw.at_ 2 12 rfl (hd ⟨2, .data⟩ (by simp) rfl))
        refine step_free rfl ?_
        unfold Oper.wp
        simp only [execOp]
        go_simp
        exact hK _ _ (rfl) trivial (fun s hs => by cases hs; rfl)
      · intro listed a' w' hw hl hd K hK
        have hv13 : a'.tmps.getD 13 undef = .pointer (some ⟨q2, 0, none⟩) := (hw.at_ 3 13 rfl (hd ⟨3, .data⟩ (by simp) rfl))
        refine step_free rfl ?_
        unfold Oper.wp
        simp only [execOp]
        go_simp
        exact hK _ _ (rfl) trivial (fun s hs => by cases hs; rfl)
      · intro listed a' w' hw hl hd K hK
        have hv14 : a'.tmps.getD 14 undef = .pointer (some ⟨q2, 0, none⟩) := (hw.at_ 4 14 rfl (hd ⟨4, .data⟩ (by simp) rfl))
        have hwe : w' = w.drew := hw.held.symm
        subst hwe
        have hcl : w.drew.cell? ⟨q2, 0, none⟩ = some (.slice A m cap) := HC0.out
        refine step_free rfl ?_
        unfold Oper.wp
        simp only [execOp]
        go_simp
        exact hK _ _ (rfl) trivial (fun s hs => by cases hs; rfl)
      · intro listed a' w' hw hl hd K hK
        have hv15 : a'.tmps.getD 15 undef = .slice A m cap := (hw.at_ 5 15 rfl (hd ⟨5, .data⟩ (by simp) rfl))
        refine step_free rfl ?_
        unfold Oper.wp
        simp only [execOp]
        go_simp
        exact hK _ _ (rfl) trivial (fun s hs => by cases hs; rfl)
      · intro listed a' w' hw hl hd K hK
        have hv11 : a'.tmps.getD 11 undef = .int .i64 (m : Int) := (hw.at_ 1 11 rfl (hd ⟨1, .data⟩ (by simp) rfl))
        have hv16 : a'.tmps.getD 16 undef = .int .i64 (m : Int) := (hw.at_ 6 16 rfl (hd ⟨6, .data⟩ (by simp) rfl))
        refine step_free rfl ?_
        unfold Oper.wp
        simp only [execOp]
        go_simp
        exact hK _ _ (rfl) trivial (fun s hs => by cases hs; rfl)
      · intro listed a' w' hw hl hd K hK
        refine step_free rfl ?_
        apply wp_move
        exact hK _ _ (rfl) trivial (fun s hs => by cases hs; exact (hw.at_ 7 17 rfl (hd ⟨7, .data⟩ (by simp) rfl)))
      · intro listed a' w' hw hl hd K hK
        have hgd : a'.tmps.getD 18 undef = .bool true := (hw.at_ 8 18 rfl (hd ⟨8, .guard⟩ (by simp) rfl))
        refine step_guarded (j := 8) (b := true) (s := 18) rfl rfl (by rw [hw.size]; exact Nat.lt_of_lt_of_eq (show 18 < 24 by omega) rfl) hgd ?_
        apply wp_move
        exact hK _ _ (rfl) trivial (fun s hs => by cases hs; exact hw.kept 0 (by kernel_rfl))
      · intro listed a' w' hw hl hd K hK
        have hgd : a'.tmps.getD 18 undef = .bool true := (hw.at_ 8 18 rfl (hd ⟨8, .guard⟩ (by simp) rfl))
        have hv19 : a'.tmps.getD 19 undef = .pointer (some ⟨q, 0, none⟩) := (hw.at_ 9 19 rfl (hd ⟨9, .data⟩ (by simp) rfl))
        refine step_guarded (j := 8) (b := true) (s := 18) rfl rfl (by rw [hw.size]; exact Nat.lt_of_lt_of_eq (show 18 < 24 by omega) rfl) hgd ?_
        have hwe : w' = w.drew := hw.held.symm
        subst hwe
        unfold Oper.wp
        simp only [execOp]
        go_simp
        refine HErr.out.mono ?_
        rintro e w2 ⟨rfl, rfl⟩
        exact hK _ _ rfl trivial (fun s hs => by cases hs; rfl)
      · intro listed a' w' hw hl hd K hK
        have hgd : a'.tmps.getD 18 undef = .bool true := (hw.at_ 8 18 rfl (hd ⟨8, .guard⟩ (by simp) rfl))
        refine step_guarded (j := 8) (b := true) (s := 18) rfl rfl (by rw [hw.size]; exact Nat.lt_of_lt_of_eq (show 18 < 24 by omega) rfl) hgd ?_
        apply wp_move
        exact hK _ _ (rfl) trivial (fun s hs => by cases hs; exact hw.kept 5 (by kernel_rfl))
      · intro listed a' w' hw hl hd K hK
        have hgd : a'.tmps.getD 18 undef = .bool true := (hw.at_ 8 18 rfl (hd ⟨8, .guard⟩ (by simp) rfl))
        have hv20 : a'.tmps.getD 20 undef = .int .i64 3 := (hw.at_ 10 20 rfl (hd ⟨10, .data⟩ (by simp) rfl))
        have hv21 : a'.tmps.getD 21 undef = .int .i64 3 := (hw.at_ 11 21 rfl (hd ⟨11, .data⟩ (by simp) rfl))
        refine step_guarded (j := 8) (b := true) (s := 18) rfl rfl (by rw [hw.size]; exact Nat.lt_of_lt_of_eq (show 18 < 24 by omega) rfl) hgd ?_
        unfold Oper.wp
        simp only [execOp]
        go_simp
        exact hK _ _ (rfl) trivial (fun s hs => by cases hs; rfl)
      · intro listed a' w' hw hl hd K hK
        have hv18 : a'.tmps.getD 18 undef = .bool true := (hw.at_ 8 18 rfl (hd ⟨8, .data⟩ (by simp) rfl))
        have hv22 : a'.tmps.getD 22 undef = .bool true := (hw.at_ 12 22 rfl (hd ⟨12, .data⟩ (by simp) rfl))
        refine step_free rfl ?_
        unfold Oper.wp
        simp only [execOp]
        go_simp
        exact hK _ _ (rfl) trivial (fun s hs => by cases hs; rfl)
      · intro listed a' w' hw hl hd K hK
        refine step_free rfl ?_
        apply wp_assign
        exact hK _ _ (rfl) trivial (fun s hs => by cases hs; exact (hw.at_ 13 23 rfl (hd ⟨13, .data⟩ (by simp) rfl)))
    · intro listed a' w' hw hall
      have hk4 : a'.tmps.getD 4 undef = .bool true := hw.at_ 14 4 rfl (hall 14 (Nat.lt_of_lt_of_eq (show 14 < 15 by omega) rfl))
      have hbe : Hid (Below w.heap.size w w') := Lib.hid (by rw [← hw.held]; exact (Below.refl _ w).drew)
      have hp := hw.puts [10, 11, 12, 13, 14, 15, 16, 17, 18, 19, 20, 21, 22, 23, 4] (by kernel_rfl)
      clear hw hall
      rw [hp]
      simp only [List.foldl_cons, List.foldl_nil, hk4]
      generalize a'.tmps.getD 10 undef = u10
      generalize a'.tmps.getD 11 undef = u11
      generalize a'.tmps.getD 12 undef = u12
      generalize a'.tmps.getD 13 undef = u13
      generalize a'.tmps.getD 14 undef = u14
      generalize a'.tmps.getD 15 undef = u15
      generalize a'.tmps.getD 16 undef = u16
      generalize a'.tmps.getD 17 undef = u17
      generalize a'.tmps.getD 18 undef = u18
      generalize a'.tmps.getD 19 undef = u19
      generalize a'.tmps.getD 20 undef = u20
      generalize a'.tmps.getD 21 undef = u21
      generalize a'.tmps.getD 22 undef = u22
      generalize a'.tmps.getD 23 undef = u23
      clear hp hk4
      simp only [Act.put, List.setIfInBounds_toArray, List.set_cons_succ, List.set_cons_zero]
      go_wp2
      go_ret
      exact ⟨rfl, hbe⟩
  | false =>
    rw [hb] at C1 h1
    have H1 := Lib.hid (show Rd RdT w.drew q d l false from h1)
    have HErr := Lib.hid (err_ok q d l w.drew H1.out)
    clear h1 hb
    go_enter Try.func30, Try.ntmps30
    go_wp2_with fail
    refine region_steps2 (n := 24) (fun a b => a = b) (fun _ _ => True) (T4 q q2 m cap A 0) (by kernel_rfl) (by kernel_rfl) rfl (fun _ => rfl) (fun _ _ _ h1 h2 => h1.trans h2) trivial (fun _ _ _ _ hb h => hb ▸ h) ?_ ?_
    · refine And.intro ?_ (And.intro ?_ (And.intro ?_ (And.intro ?_ (And.intro ?_ (And.intro ?_ (And.intro ?_ (And.intro ?_ (And.intro ?_ (And.intro ?_ (And.intro ?_ (And.intro ?_ (And.intro ?_ (And.intro ?_ (And.intro ?_ (True.intro)))))))))))))))
      · intro listed a' w' hw hl hd K hK
        refine step_free rfl ?_
        apply wp_move
        exact hK _ _ (rfl) trivial (fun s hs => by cases hs; exact hw.kept 0 (by kernel_rfl))
      · intro listed a' w' hw hl hd K hK
        have hv10 : a'.tmps.getD 10 undef = .pointer (some ⟨q, 0, none⟩) := (hw.at_ 0 10 rfl (hd ⟨0, .data⟩ (by simp) rfl))
        refine step_free rfl ?_
        have hwe : w' = w.drew := hw.held.symm
        subst hwe
        unfold Oper.wp
        simp only [execOp]
        go_simp
        refine (left_any q d l false m w.drew H1.out HM.out).mono ?_
        rintro e w2 ⟨rfl, rfl⟩
        exact hK _ _ rfl trivial (fun s hs => by cases hs; rfl)
      · intro listed a' w' hw hl hd K hK
        refine step_free rfl ?_
        apply wp_move
        exact hK _ _ (rfl) trivial (fun s hs => by cases hs; exact hw.kept 1 (by kernel_rfl))
      · intro listed a' w' hw hl hd K hK
        have hv12 : a'.tmps.getD 12 undef = .pointer (some ⟨q2, 0, none⟩) := (hw.at_ 2 12 rfl (hd ⟨2, .data⟩ (by simp) rfl))
        refine step_free rfl ?_
        unfold Oper.wp
        simp only [execOp]
        go_simp
        exact hK _ _ (rfl) trivial (fun s hs => by cases hs; rfl)
      · intro listed a' w' hw hl hd K hK
        have hv13 : a'.tmps.getD 13 undef = .pointer (some ⟨q2, 0, none⟩) := (hw.at_ 3 13 rfl (hd ⟨3, .data⟩ (by simp) rfl))
        refine step_free rfl ?_
        unfold Oper.wp
        simp only [execOp]
        go_simp
        exact hK _ _ (rfl) trivial (fun s hs => by cases hs; rfl)
      · intro listed a' w' hw hl hd K hK
        have hv14 : a'.tmps.getD 14 undef = .pointer (some ⟨q2, 0, none⟩) := (hw.at_ 4 14 rfl (hd ⟨4, .data⟩ (by simp) rfl))
        have hwe : w' = w.drew := hw.held.symm
        subst hwe
        have hcl : w.drew.cell? ⟨q2, 0, none⟩ = some (.slice A m cap) := HC0.out
        refine step_free rfl ?_
        unfold Oper.wp
        simp only [execOp]
        go_simp
        exact hK _ _ (rfl) trivial (fun s hs => by cases hs; rfl)
      · intro listed a' w' hw hl hd K hK
        have hv15 : a'.tmps.getD 15 undef = .slice A m cap := (hw.at_ 5 15 rfl (hd ⟨5, .data⟩ (by simp) rfl))
        refine step_free rfl ?_
        unfold Oper.wp
        simp only [execOp]
        go_simp
        exact hK _ _ (rfl) trivial (fun s hs => by cases hs; rfl)
      · intro listed a' w' hw hl hd K hK
        have hv11 : a'.tmps.getD 11 undef = .int .i64 (m : Int) := (hw.at_ 1 11 rfl (hd ⟨1, .data⟩ (by simp) rfl))
        have hv16 : a'.tmps.getD 16 undef = .int .i64 (m : Int) := (hw.at_ 6 16 rfl (hd ⟨6, .data⟩ (by simp) rfl))
        refine step_free rfl ?_
        unfold Oper.wp
        simp only [execOp]
        go_simp
        exact hK _ _ (rfl) trivial (fun s hs => by cases hs; rfl)
      · intro listed a' w' hw hl hd K hK
        refine step_free rfl ?_
        apply wp_move
        exact hK _ _ (rfl) trivial (fun s hs => by cases hs; exact (hw.at_ 7 17 rfl (hd ⟨7, .data⟩ (by simp) rfl)))
      · intro listed a' w' hw hl hd K hK
        have hgd : a'.tmps.getD 18 undef = .bool true := (hw.at_ 8 18 rfl (hd ⟨8, .guard⟩ (by simp) rfl))
        refine step_guarded (j := 8) (b := true) (s := 18) rfl rfl (by rw [hw.size]; exact Nat.lt_of_lt_of_eq (show 18 < 24 by omega) rfl) hgd ?_
        apply wp_move
        exact hK _ _ (rfl) trivial (fun s hs => by cases hs; exact hw.kept 0 (by kernel_rfl))
      · intro listed a' w' hw hl hd K hK
        have hgd : a'.tmps.getD 18 undef = .bool true := (hw.at_ 8 18 rfl (hd ⟨8, .guard⟩ (by simp) rfl))
        have hv19 : a'.tmps.getD 19 undef = .pointer (some ⟨q, 0, none⟩) := (hw.at_ 9 19 rfl (hd ⟨9, .data⟩ (by simp) rfl))
        refine step_guarded (j := 8) (b := true) (s := 18) rfl rfl (by rw [hw.size]; exact Nat.lt_of_lt_of_eq (show 18 < 24 by omega) rfl) hgd ?_
        have hwe : w' = w.drew := hw.held.symm
        subst hwe
        unfold Oper.wp
        simp only [execOp]
        go_simp
        refine HErr.out.mono ?_
        rintro e w2 ⟨rfl, rfl⟩
        exact hK _ _ rfl trivial (fun s hs => by cases hs; rfl)
      · intro listed a' w' hw hl hd K hK
        have hgd : a'.tmps.getD 18 undef = .bool true := (hw.at_ 8 18 rfl (hd ⟨8, .guard⟩ (by simp) rfl))
        refine step_guarded (j := 8) (b := true) (s := 18) rfl rfl (by rw [hw.size]; exact Nat.lt_of_lt_of_eq (show 18 < 24 by omega) rfl) hgd ?_
        apply wp_move
        exact hK _ _ (rfl) trivial (fun s hs => by cases hs; exact hw.kept 5 (by kernel_rfl))
      · intro listed a' w' hw hl hd K hK
        have hgd : a'.tmps.getD 18 undef = .bool true := (hw.at_ 8 18 rfl (hd ⟨8, .guard⟩ (by simp) rfl))
        have hv20 : a'.tmps.getD 20 undef = .int .i64 0 := (hw.at_ 10 20 rfl (hd ⟨10, .data⟩ (by simp) rfl))
        have hv21 : a'.tmps.getD 21 undef = .int .i64 0 := (hw.at_ 11 21 rfl (hd ⟨11, .data⟩ (by simp) rfl))
        refine step_guarded (j := 8) (b := true) (s := 18) rfl rfl (by rw [hw.size]; exact Nat.lt_of_lt_of_eq (show 18 < 24 by omega) rfl) hgd ?_
        unfold Oper.wp
        simp only [execOp]
        go_simp
        exact hK _ _ (rfl) trivial (fun s hs => by cases hs; rfl)
      · intro listed a' w' hw hl hd K hK
        have hv18 : a'.tmps.getD 18 undef = .bool true := (hw.at_ 8 18 rfl (hd ⟨8, .data⟩ (by simp) rfl))
        have hv22 : a'.tmps.getD 22 undef = .bool true := (hw.at_ 12 22 rfl (hd ⟨12, .data⟩ (by simp) rfl))
        refine step_free rfl ?_
        unfold Oper.wp
        simp only [execOp]
        go_simp
        exact hK _ _ (rfl) trivial (fun s hs => by cases hs; rfl)
      · intro listed a' w' hw hl hd K hK
        refine step_free rfl ?_
        apply wp_assign
        exact hK _ _ (rfl) trivial (fun s hs => by cases hs; exact (hw.at_ 13 23 rfl (hd ⟨13, .data⟩ (by simp) rfl)))
    · intro listed a' w' hw hall
      have hk4 : a'.tmps.getD 4 undef = .bool true := hw.at_ 14 4 rfl (hall 14 (Nat.lt_of_lt_of_eq (show 14 < 15 by omega) rfl))
      have hbe : Hid (Below w.heap.size w w') := Lib.hid (by rw [← hw.held]; exact (Below.refl _ w).drew)
      have hp := hw.puts [10, 11, 12, 13, 14, 15, 16, 17, 18, 19, 20, 21, 22, 23, 4] (by kernel_rfl)
      clear hw hall
      rw [hp]
      simp only [List.foldl_cons, List.foldl_nil, hk4]
      generalize a'.tmps.getD 10 undef = u10
      generalize a'.tmps.getD 11 undef = u11
      generalize a'.tmps.getD 12 undef = u12
      generalize a'.tmps.getD 13 undef = u13
      generalize a'.tmps.getD 14 undef = u14
      generalize a'.tmps.getD 15 undef = u15
      generalize a'.tmps.getD 16 undef = u16
      generalize a'.tmps.getD 17 undef = u17
      generalize a'.tmps.getD 18 undef = u18
      generalize a'.tmps.getD 19 undef = u19
      generalize a'.tmps.getD 20 undef = u20
      generalize a'.tmps.getD 21 undef = u21
      generalize a'.tmps.getD 22 undef = u22
      generalize a'.tmps.getD 23 undef = u23
      clear hp hk4
      simp only [Act.put, List.setIfInBounds_toArray, List.set_cons_succ, List.set_cons_zero]
      go_wp2
      go_ret
      exact ⟨rfl, hbe⟩
end Go.Proofs.Ytadpbcbgmopfaaa
