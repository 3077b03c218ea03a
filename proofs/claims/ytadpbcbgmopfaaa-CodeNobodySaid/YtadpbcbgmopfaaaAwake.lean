/-
  What the statements' own examples come to: awake answers true, and what was there stays as it was. No condition.
-/
import Derived.Test.YtadpbcbgmopfaaaWide
import Derived.Lib.SlBytesConst
namespace Go.Proofs.Ytadpbcbgmopfaaa
open Go.RowKit

theorem sh300 : shortL 300 = [172, 2] := by rw [shortL_more (by decide), shortL_last (by decide)]; rfl
theorem sh128 : shortL 128 = [128, 1] := by rw [shortL_more (by decide), shortL_last (by decide)]; rfl
theorem sh1 : shortL 1 = [1] := by rw [shortL_last (by decide)]; rfl
theorem sh2 : shortL 2 = [2] := by rw [shortL_last (by decide)]; rfl
def exAll : List UInt8 := [2, 1, 172, 2, 1, 128, 1, 2, 97, 98]
theorem ex_all : ((([] ++ wideL 258 2) ++ shortL 300) ++ shortsL [1, 128]) ++ (shortL 2 ++ strL ⟨#[97, 98]⟩) = exAll := by
  simp only [shortsL, List.map_cons, List.map_nil, List.flatten_cons, List.flatten_nil, sh300, sh128, sh1, sh2]
  rfl
theorem ex_uint : rUint ⟨[129, 0], false⟩ = (0, ⟨[129, 0], true⟩) := by decide +kernel
theorem ex_wide : rWide ⟨[129, 0], true⟩ 1 = (0, ⟨[129, 0], true⟩) := by decide +kernel
theorem ex_text : rText ⟨[2, 97, 98], false⟩ 1 = ([], ⟨[2, 97, 98], true⟩) := by decide +kernel
/-- Two numbers, laid in a block of their own. -/
theorem nums_two (w : World) (a b : Nat) : Nums (w.alloc (.cells #[.int .u64 (a : Int), .int .u64 (b : Int)] 29)) (w.alloc (.cells #[.int .u64 (a : Int), .int .u64 (b : Int)] 29)).heap.size (some ⟨w.heap.size, 0, none⟩) [a, b] := fun _ => by
  refine ⟨_, 0, rfl, by simp, fun k hk => ?_⟩
  rw [cell_of_row _ _ _ _ _ (0, 0) (heap_alloc_new w _)]
  have : k = 0 ∨ k = 1 := by simp at hk; omega
  rcases this with rfl | rfl <;> rfl
theorem bytes_new (w : World) (l : List UInt8) : Bytes (w.alloc (.cells (bv l).toArray 5)) (w.heap.size + 1) (some ⟨w.heap.size, 0, none⟩) l := fun _ => by
  refine ⟨_, 0, rfl, by omega, fun k hk => ?_⟩
  rw [cell_of_row _ _ _ _ _ (0, 0) (heap_alloc_new w _), Nat.zero_add]
  simpa using bv_get hk

/-- A Writer of the law's own: all that is older is as it was in w0. -/
structure WS (B : Nat) (w0 W : World) (p : Nat) (g : Option Nat) (l : List UInt8) : Prop where
  wr : Wr W p g l
  below : Below B w0 W
  hp : B ≤ p
  hg : ∀ k, g = some k → B ≤ k
theorem WS.size {B : Nat} {w0 W : World} {p : Nat} {g : Option Nat} {l : List UInt8} (h : WS B w0 W p g l) : B ≤ W.heap.size := Nat.le_trans h.hp (Nat.le_of_lt h.wr.lt)
theorem WS.wrote {B : Nat} {w0 W W' : World} {p : Nat} {g : Option Nat} {l xs : List UInt8} (h : WS B w0 W p g l) (hw : Wrote W p g l xs W') : ∃ g', WS B w0 W' p g' (l ++ xs) ∧ NewOr W g g' ∧ Only (fun k => k = p ∨ g = some k) W W' := by
  obtain ⟨g', h1, h2, h3⟩ := hw
  exact ⟨g', ⟨h1, h3.below h.below (by rintro k (e | e); exact Nat.le_trans h.hp (Nat.le_of_eq e.symm); exact h.hg k e) h.size, h.hp, h2.ge h.size h.hg⟩, h2, h3⟩
/-- A call that turned nothing that was there. -/
theorem WS.later {B : Nat} {w0 W W' : World} {p : Nat} {g : Option Nat} {l : List UInt8} (h : WS B w0 W p g l) (hb : Below W.heap.size W W') : WS B w0 W' p g l :=
  ⟨h.wr.keep (S := fun _ => False) (Only.ofBelow hb) (fun h => h) (fun _ _ h => h), h.below.trans (hb.mono h.size), h.hp, h.hg⟩
/-- A call that turned blocks of others alone. -/
theorem WS.other {B : Nat} {w0 W W' : World} {p : Nat} {g : Option Nat} {l : List UInt8} {S : Nat → Prop} (h : WS B w0 W p g l) (ho : Only S W W') (hS : ∀ k, S k → B ≤ k) (h1 : ¬ S p) (h2 : ∀ k, g = some k → ¬ S k) : WS B w0 W' p g l :=
  ⟨h.wr.keep ho h1 h2, ho.below h.below hS h.size, h.hp, h.hg⟩
theorem WS.new {w W : World} (h : Wr W w.heap.size none []) (hb : Below w.heap.size w W) : WS w.heap.size w W w.heap.size none [] := ⟨h, hb, Nat.le_refl _, fun _ e => by cases e⟩
/-- A Reader of the law's own. -/
structure RdS (T : TypeId) (B : Nat) (w0 W : World) (q : Nat) (d : Option Nat) (s : RS) : Prop where
  rd : Rd T W q d s.l s.bad
  below : Below B w0 W
  hq : B ≤ q
  hd : ∀ k, d = some k → B ≤ k
theorem RdS.size {T : TypeId} {B : Nat} {w0 W : World} {q : Nat} {d : Option Nat} {s : RS} (h : RdS T B w0 W q d s) : B ≤ W.heap.size := Nat.le_trans h.hq (Nat.le_of_lt h.rd.lt)
theorem RdS.step {T : TypeId} {B : Nat} {w0 W W' : World} {q : Nat} {d : Option Nat} {s s' : RS} (h : RdS T B w0 W q d s) (h1 : Hid (Rd T W' q d s'.l s'.bad)) (ho : Hid (Only (fun k => k = q) W W')) : RdS T B w0 W' q d s' :=
  ⟨h1.out, ho.out.below h.below (by rintro k rfl; exact h.hq) h.size, h.hq, h.hd⟩
theorem RdS.later {T : TypeId} {B : Nat} {w0 W W' : World} {q : Nat} {d : Option Nat} {s : RS} (h : RdS T B w0 W q d s) (hb : Below W.heap.size W W') : RdS T B w0 W' q d s :=
  ⟨h.rd.keep (S := fun _ => False) (Only.ofBelow hb) (fun h => h) (fun _ _ h => h), h.below.trans (hb.mono h.size), h.hq, h.hd⟩
theorem RdS.other {T : TypeId} {B : Nat} {w0 W W' : World} {q : Nat} {d : Option Nat} {s : RS} {S : Nat → Prop} (h : RdS T B w0 W q d s) (ho : Only S W W') (hS : ∀ k, S k → B ≤ k) (h1 : ¬ S q) (h2 : ∀ k, d = some k → ¬ S k) : RdS T B w0 W' q d s :=
  ⟨h.rd.keep ho h1 h2, ho.below h.below hS h.size, h.hq, h.hd⟩

set_option maxRecDepth 100000 in
set_option maxHeartbeats 1600000 in
theorem awake_any (w : World) :
    Calls Try.prog 15 #[] w fun e w' => e = .returned (.bool true) ∧ Hid (Below w.heap.size w w') := by
  go_enter Try.func15, Try.ntmps15
  go_wp2_with fail
  refine (wnew_any w).mono ?_
  rintro e W1 ⟨rfl, hW, hb, hz⟩
  have o1 := Lib.hid (WS.new hW hb)
  clear hb hW hz
  generalize hp : w.heap.size = p at *
  have HP := Lib.hid hp
  clear hp
  go_wp2_with fail
  refine (wu16_any p none [] 258 W1 (by omega) o1.out.wr (by decide)).mono ?_
  rintro e W2 ⟨rfl, h⟩
  obtain ⟨g2, h, _, _⟩ := o1.out.wrote h
  have o2 := Lib.hid h
  clear h o1
  go_wp2_with fail
  refine (wuint_any p g2 _ 300 W2 o2.out.wr (by omega) (by simp [wideL])).mono ?_
  rintro e W3 ⟨rfl, h⟩
  obtain ⟨g3, h, _, _⟩ := o2.out.wrote h
  have o3 := Lib.hid h
  clear h o2
  go_wp2_with fail
  have o3' := Lib.hid (o3.out.later ((Below.refl _ _).alloc (Nat.le_refl _) (.cells #[.int .u64 1, .int .u64 128] 29)))
  refine (wput_any p g3 _ (some ⟨W3.heap.size, 0, none⟩) [1, 128] 2 _ o3'.out.wr (nums_two W3 1 128) ?_ ?_ (by decide) (by rw [sh300]; decide)).mono ?_
  · intro _ b e
    obtain rfl : W3.heap.size = b := by simpa [blockOf] using e
    exact ⟨by have := o3.out.wr.lt; omega, fun e => by have := o3.out.wr.glt _ e; omega⟩
  · intro x hx
    simp at hx
    omega
  rintro e W4 ⟨rfl, h⟩
  obtain ⟨g4, h, _, _⟩ := o3'.out.wrote h
  have o4 := Lib.hid h
  clear h o3 o3'
  go_wp2_with fail
  refine (wtext_any p g4 _ ⟨#[97, 98]⟩ W4 o4.out.wr (by decide) (by simp only [shortsL, List.map_cons, List.map_nil, sh300, sh128, sh1]; decide)).mono ?_
  rintro e W5 ⟨rfl, h⟩
  obtain ⟨g5, h, _, _⟩ := o4.out.wrote h
  have o5 : Hid (WS p w W5 p g5 exAll) := Lib.hid (by rw [← ex_all]; exact h)
  clear h o4
  go_wp2_with fail
  refine (newr_any (some ⟨W5.heap.size, 0, none⟩) [129, 0] 2 2 _ _ rfl (fun e => by cases e) (bytes_new W5 [129, 0]) (by simp) (by omega)).mono ?_
  rintro e W6 ⟨q1, d1, rfl, h1, h2, hb⟩
  have hb6 : Below W5.heap.size W5 W6 := ((Below.refl _ _).alloc (Nat.le_refl _) _).trans (hb.out.mono (by simp))
  have o6 := Lib.hid (o5.out.later hb6)
  have hq1 : W5.heap.size ≤ q1 := by have := h2.out.1; simp at this; omega
  have r6 : Hid (RdS RdT p w W6 q1 d1 ⟨[129, 0], false⟩) := Lib.hid ⟨h1.out, o6.out.below, by have := o5.out.size; omega, fun k hk => by have := h2.out.2 k hk; simp at this; have := o5.out.size; omega⟩
  clear h1 h2 hb hb6 o5 hq1
  go_wp2_with fail
  refine (newr_any (some ⟨W6.heap.size, 0, none⟩) [2, 97, 98] 3 3 _ _ rfl (fun e => by cases e) (bytes_new W6 [2, 97, 98]) (by simp) (by omega)).mono ?_
  rintro e W7 ⟨q2, d2, rfl, h1, h2, hb⟩
  have hb7 : Below W6.heap.size W6 W7 := ((Below.refl _ _).alloc (Nat.le_refl _) _).trans (hb.out.mono (by simp))
  have o7 := Lib.hid (o6.out.later hb7)
  have r7 := Lib.hid (r6.out.later hb7)
  have hq2 : W6.heap.size ≤ q2 ∧ ∀ k, d2 = some k → W6.heap.size ≤ k := ⟨by have := h2.out.1; simp at this; omega, fun k hk => by have := h2.out.2 k hk; simp at this; omega⟩
  have s7 : Hid (RdS RdT p w W7 q2 d2 ⟨[2, 97, 98], false⟩) := Lib.hid ⟨h1.out, o7.out.below, by have := o6.out.size; omega, fun k hk => by have := hq2.2 k hk; have := o6.out.size; omega⟩
  have hap : Hid (q2 ≠ q1 ∧ ∀ k, d2 = some k → k ≠ q1) := Lib.hid ⟨by have := r6.out.rd.lt; omega, fun k hk => by have := hq2.2 k hk; have := r6.out.rd.lt; omega⟩
  clear h1 h2 hb hb7 o6 r6 hq2
  go_wp2_with fail
  refine (wbytes_any p g5 _ W7 o7.out.wr (by decide)).mono ?_
  rintro e W8 ⟨A8, c8, rfl, ho, hb⟩
  have o8 := Lib.hid (o7.out.later hb.out)
  have r8 := Lib.hid (r7.out.later hb.out)
  have s8 := Lib.hid (s7.out.later hb.out)
  have cs : Sem.run Try.prog (convert 27 9 (.slice A8 exAll.length c8)) W8 = .ok (.string ⟨#[2, 1, 172, 2, 1, 128, 1, 2, 97, 98]⟩) W8 := conv_str c8 ho.out.bytes rfl
  clear ho hb o7 r7 s7
  go_wp2_with fail
  refine (wlen_any p g5 _ 10 W8 o8.out.wr rfl).mono ?_
  rintro e W9 ⟨rfl, rfl⟩
  clear cs o8
  go_wp2_with fail
  refine (uint_any q1 d1 ⟨[129, 0], false⟩ W8 r8.out.rd (by decide)).mono ?_
  rintro e W9 ⟨rfl, h1, h2⟩
  rw [ex_uint] at h1
  have r9 := Lib.hid (r8.out.step (s' := ⟨[129, 0], true⟩) h1 h2)
  have s9 := Lib.hid (s8.out.other (S := fun k => k = q1) h2.out (by rintro k rfl; exact r8.out.hq) hap.out.1 hap.out.2)
  clear h1 h2 r8 s8
  rw [ex_uint]
  go_wp2_with fail
  refine (left_any q1 d1 [129, 0] true 2 W9 r9.out.rd rfl).mono ?_
  rintro e W10 ⟨rfl, rfl⟩
  go_wp2_with fail
  refine (ru8_any q1 d1 ⟨[129, 0], true⟩ W9 r9.out.rd).mono ?_
  rintro e W10 ⟨rfl, h1, h2⟩
  rw [ex_wide] at h1
  have r10 := Lib.hid (r9.out.step (s' := ⟨[129, 0], true⟩) h1 h2)
  have s10 := Lib.hid (s9.out.other (S := fun k => k = q1) h2.out (by rintro k rfl; exact r9.out.hq) hap.out.1 hap.out.2)
  clear h1 h2 r9 s9
  rw [ex_wide]
  go_wp2_with fail
  refine (err_bad q1 d1 [129, 0] W10 r10.out.rd).mono ?_
  rintro e W11 ⟨rfl, rfl⟩
  go_wp2_with fail
  refine (text_any q2 d2 ⟨[2, 97, 98], false⟩ 1 W10 (by omega) (by omega) s10.out.rd (by decide)).mono ?_
  rintro e W11 ⟨rfl, h1, h2⟩
  rw [ex_text] at h1
  have s11 := Lib.hid (s10.out.step (s' := ⟨[2, 97, 98], true⟩) h1 h2)
  clear h1 h2 r10 s10
  rw [ex_text]
  go_wp2_with fail
  refine (err_bad q2 d2 [2, 97, 98] W11 s11.out.rd).mono ?_
  rintro e W12 ⟨rfl, rfl⟩
  go_wp2
  go_ret
  exact ⟨rfl, Lib.hid (by rw [HP.out]; exact s11.out.below)⟩
end Go.Proofs.Ytadpbcbgmopfaaa
