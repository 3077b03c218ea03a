/-
  A frame with a body in memory of its own, by the document's Own. For bodies of at most 2^46 bytes.
-/
import Derived.Test.YtelbhlkojpnmgaaDoorFmem
import Derived.Test.YtelbhlkojpnmgaaDoorGa
namespace Go.Proofs.YtelbhlkojpnmgaaDoor
set_option maxRecDepth 20000
open Go.RowKit

/-- A frame's cells, whole, in block b. -/
def FRow (b : Nat) (k s t i c p q a e : Int) (A : Option Addr) (n cap : Nat) (ty : TypeId) (w : World) : Prop :=
  w.heap[b]? = some (.cells #[.int .i64 k, .int .i64 s, .int .i64 t, .int .u64 i, .int .u64 c, .int .u64 p, .int .u64 q, .int .u64 a, .int .u64 e, .slice A n cap] ty (0, 0))
section
variable {b : Nat} {k s t i c p q a e : Int} {A : Option Addr} {n cap : Nat} {ty : TypeId} {w w' : World}
theorem FRow.box (h : FRow b k s t i c p q a e A n cap ty w) : FBox b k s t i c p q a e A n cap w :=
  ⟨by simpa using cell_plain h 0, by simpa using cell_plain h 1, by simpa using cell_plain h 2, by simpa using cell_plain h 3, by simpa using cell_plain h 4, by simpa using cell_plain h 5, by simpa using cell_plain h 6, by simpa using cell_plain h 7, by simpa using cell_plain h 8, by simpa using cell_plain h 9⟩
theorem FRow.thaw (h : FRow b k s t i c p q a e A n cap ty w) (j : Nat) : w.frozen? ⟨b, j, none⟩ = false := frozen_plain h j
theorem FRow.set9 (h : FRow b k s t i c p q a e A n cap ty w) (A' : Option Addr) (n' cap' : Nat) : FRow b k s t i c p q a e A' n' cap' ty (w.setCell ⟨b, 9, none⟩ (.slice A' n' cap')) := by
  unfold FRow at *
  simp [World.setCell, Array.getElem?_modify, h]
theorem frow_new (w : World) : FRow w.heap.size k s t i c p q a e A n cap ty (w.alloc (.cells #[.int .i64 k, .int .i64 s, .int .i64 t, .int .u64 i, .int .u64 c, .int .u64 p, .int .u64 q, .int .u64 a, .int .u64 e, .slice A n cap] ty)) := heap_alloc_new w _
theorem FRow.below (h : FRow b k s t i c p q a e A n cap ty w) (hb : Below w.heap.size w w') : FRow b k s t i c p q a e A n cap ty w' := (hb.block _ (lt_of_heap h)).trans h
theorem FRow.only {S : Nat → Prop} (h : FRow b k s t i c p q a e A n cap ty w) (ho : Only S w w') (hn : ¬ S b) : FRow b k s t i c p q a e A n cap ty w' := (ho.block _ (lt_of_heap h) hn).trans h
/-- All ten are stored. -/
theorem FRow.set (h : FRow b k s t i c p q a e A n cap ty w) (k' s' t' i' c' p' q' a' e' : Int) (A' : Option Addr) (n' cap' : Nat) : FRow b k' s' t' i' c' p' q' a' e' A' n' cap' ty ((((((((((w.setCell ⟨b, 0, none⟩ (.int .i64 k')).setCell ⟨b, 1, none⟩ (.int .i64 s')).setCell ⟨b, 2, none⟩ (.int .i64 t')).setCell ⟨b, 3, none⟩ (.int .u64 i')).setCell ⟨b, 4, none⟩ (.int .u64 c')).setCell ⟨b, 5, none⟩ (.int .u64 p')).setCell ⟨b, 6, none⟩ (.int .u64 q')).setCell ⟨b, 7, none⟩ (.int .u64 a')).setCell ⟨b, 8, none⟩ (.int .u64 e')).setCell ⟨b, 9, none⟩ (.slice A' n' cap')) := by
  unfold FRow at *
  simp [World.setCell, Array.getElem?_modify, h]
theorem only_ten (w : World) (b : Nat) (v0 v1 v2 v3 v4 v5 v6 v7 v8 v9 : Value) : Only (fun k => k = b) w ((((((((((w.setCell ⟨b, 0, none⟩ (v0)).setCell ⟨b, 1, none⟩ (v1)).setCell ⟨b, 2, none⟩ (v2)).setCell ⟨b, 3, none⟩ (v3)).setCell ⟨b, 4, none⟩ (v4)).setCell ⟨b, 5, none⟩ (v5)).setCell ⟨b, 6, none⟩ (v6)).setCell ⟨b, 7, none⟩ (v7)).setCell ⟨b, 8, none⟩ (v8)).setCell ⟨b, 9, none⟩ (v9)) :=
  (((((((((((Only.refl (fun k => k = b) w).setCell (p := ⟨b, 0, none⟩) (.inl rfl) _).setCell (p := ⟨b, 1, none⟩) (.inl rfl) _).setCell (p := ⟨b, 2, none⟩) (.inl rfl) _).setCell (p := ⟨b, 3, none⟩) (.inl rfl) _).setCell (p := ⟨b, 4, none⟩) (.inl rfl) _).setCell (p := ⟨b, 5, none⟩) (.inl rfl) _).setCell (p := ⟨b, 6, none⟩) (.inl rfl) _).setCell (p := ⟨b, 7, none⟩) (.inl rfl) _).setCell (p := ⟨b, 8, none⟩) (.inl rfl) _).setCell (p := ⟨b, 9, none⟩) (.inl rfl) _)
end
/-- What stands when the body is to be copied. -/
theorem own_start (k s t i c p q a e : Int) (A : Option Addr) (n cap : Nat) (w : World) :
    FRow w.heap.size k s t i c p q a e A n cap 25 (((w.alloc (.cells #[.int .i64 k, .int .i64 s, .int .i64 t, .int .u64 i, .int .u64 c, .int .u64 p, .int .u64 q, .int .u64 a, .int .u64 e, .slice A n cap] 25)).alloc (.cells #[.int .i64 0, .int .i64 0, .int .i64 0, .int .u64 0, .int .u64 0, .int .u64 0, .int .u64 0, .int .u64 0, .int .u64 0, .slice none 0 0] 25)).alloc (.cells #[] 5)) ∧
    FRow (w.heap.size + 1) 0 0 0 0 0 0 0 0 0 none 0 0 25 (((w.alloc (.cells #[.int .i64 k, .int .i64 s, .int .i64 t, .int .u64 i, .int .u64 c, .int .u64 p, .int .u64 q, .int .u64 a, .int .u64 e, .slice A n cap] 25)).alloc (.cells #[.int .i64 0, .int .i64 0, .int .i64 0, .int .u64 0, .int .u64 0, .int .u64 0, .int .u64 0, .int .u64 0, .int .u64 0, .slice none 0 0] 25)).alloc (.cells #[] 5)) ∧
    Below w.heap.size w (((w.alloc (.cells #[.int .i64 k, .int .i64 s, .int .i64 t, .int .u64 i, .int .u64 c, .int .u64 p, .int .u64 q, .int .u64 a, .int .u64 e, .slice A n cap] 25)).alloc (.cells #[.int .i64 0, .int .i64 0, .int .i64 0, .int .u64 0, .int .u64 0, .int .u64 0, .int .u64 0, .int .u64 0, .int .u64 0, .slice none 0 0] 25)).alloc (.cells #[] 5)) ∧ (((w.alloc (.cells #[.int .i64 k, .int .i64 s, .int .i64 t, .int .u64 i, .int .u64 c, .int .u64 p, .int .u64 q, .int .u64 a, .int .u64 e, .slice A n cap] 25)).alloc (.cells #[.int .i64 0, .int .i64 0, .int .i64 0, .int .u64 0, .int .u64 0, .int .u64 0, .int .u64 0, .int .u64 0, .int .u64 0, .slice none 0 0] 25)).alloc (.cells #[] 5)).heap.size = w.heap.size + 1 + 1 + 1 ∧
    Own8 (((w.alloc (.cells #[.int .i64 k, .int .i64 s, .int .i64 t, .int .u64 i, .int .u64 c, .int .u64 p, .int .u64 q, .int .u64 a, .int .u64 e, .slice A n cap] 25)).alloc (.cells #[.int .i64 0, .int .i64 0, .int .i64 0, .int .u64 0, .int .u64 0, .int .u64 0, .int .u64 0, .int .u64 0, .int .u64 0, .slice none 0 0] 25)).alloc (.cells #[] 5)) 0 (some ⟨w.heap.size + 1 + 1, 0, none⟩) 0 0 [] := by
  have X := frow_new (k := k) (s := s) (t := t) (i := i) (c := c) (p := p) (q := q) (a := a) (e := e) (A := A) (n := n) (cap := cap) (ty := 25) w
  have B1 := fbelow_box w (.cells #[.int .i64 k, .int .i64 s, .int .i64 t, .int .u64 i, .int .u64 c, .int .u64 p, .int .u64 q, .int .u64 a, .int .u64 e, .slice A n cap] 25)
  have hz : (w.alloc (.cells #[.int .i64 k, .int .i64 s, .int .i64 t, .int .u64 i, .int .u64 c, .int .u64 p, .int .u64 q, .int .u64 a, .int .u64 e, .slice A n cap] 25)).heap.size = w.heap.size + 1 := by simp
  generalize w.alloc (.cells #[.int .i64 k, .int .i64 s, .int .i64 t, .int .u64 i, .int .u64 c, .int .u64 p, .int .u64 q, .int .u64 a, .int .u64 e, .slice A n cap] 25) = W1 at *
  have Z := frow_new (k := 0) (s := 0) (t := 0) (i := 0) (c := 0) (p := 0) (q := 0) (a := 0) (e := 0) (A := none) (n := 0) (cap := 0) (ty := 25) W1
  have B2 := fbelow_box W1 (.cells #[.int .i64 0, .int .i64 0, .int .i64 0, .int .u64 0, .int .u64 0, .int .u64 0, .int .u64 0, .int .u64 0, .int .u64 0, .slice none 0 0] 25)
  have hz2 : (W1.alloc (.cells #[.int .i64 0, .int .i64 0, .int .i64 0, .int .u64 0, .int .u64 0, .int .u64 0, .int .u64 0, .int .u64 0, .int .u64 0, .slice none 0 0] 25)).heap.size = w.heap.size + 1 + 1 := by simp [hz]
  generalize W1.alloc (.cells #[.int .i64 0, .int .i64 0, .int .i64 0, .int .u64 0, .int .u64 0, .int .u64 0, .int .u64 0, .int .u64 0, .int .u64 0, .slice none 0 0] 25) = W2 at *
  have B3 := fbelow_box W2 (.cells #[] 5)
  have hz3 : (W2.alloc (.cells #[] 5)).heap.size = w.heap.size + 1 + 1 + 1 := by simp [hz2]
  have O := World.ownsRow_made (base := 0) (e := 5) (size := 1) W2 #[] 0 (Nat.zero_le _) (by unfold maxLen; omega) rfl
  rw [hz2] at O
  rw [hz] at Z
  exact ⟨(X.below B2).below B3, Z.below B3, fbtr B1 (fbtr B2 B3), hz3, O⟩
set_option maxHeartbeats 2000000 in
theorem rfown_int (k s t i c p q a e : Int) (A : Option Addr) (n cap B : Nat) (l : List UInt8) (w : World) (hn : l.length = n) (hA : A = none → cap = 0) (hb : Bytes w B A l) (hB : B ≤ w.heap.size) (hr : n ≤ 70368744177664) :
    Calls Tryd.prog 13 #[.agg #[.int .i64 k, .int .i64 s, .int .i64 t, .int .u64 i, .int .u64 c, .int .u64 p, .int .u64 q, .int .u64 a, .int .u64 e, .slice A n cap]] w fun en w' =>
      ∃ A' cap', en = .returned (.agg #[.int .i64 k, .int .i64 s, .int .i64 t, .int .u64 i, .int .u64 c, .int .u64 p, .int .u64 q, .int .u64 a, .int .u64 e, .slice A' n cap']) ∧ Hid (Own8 w' w.heap.size A' n cap' l) ∧ Hid (Below w.heap.size w w') := by
  have HN := Lib.hid hn
  have HA := Lib.hid hA
  have S := Lib.hid (own_start k s t i c p q a e A n cap w)
  have HB := Lib.hid (hb.below (S.out.2.2.1.mono hB))
  clear hn hA hb
  go_enter Tryd.func13, Tryd.ntmps13
  go_wp2_with (at_builtin; refine wpList_append8 rfl (.tmp 3) (.tmp 5) rfl (some ⟨w.heap.size + 1 + 1, 0, none⟩) 0 0 [] rfl S.out.2.2.2.2 A n cap B l rfl HN.out HA.out HB.out (by omega) ?_)
  intro A' cap' w1 hO1 ho1 hn1
  obtain ⟨S1, S2, S3, S4, S5⟩ := S.out
  clear S HB
  generalize ((w.alloc (.cells #[.int .i64 k, .int .i64 s, .int .i64 t, .int .u64 i, .int .u64 c, .int .u64 p, .int .u64 q, .int .u64 a, .int .u64 e, .slice A n cap] 25)).alloc (.cells #[.int .i64 0, .int .i64 0, .int .i64 0, .int .u64 0, .int .u64 0, .int .u64 0, .int .u64 0, .int .u64 0, .int .u64 0, .slice none 0 0] 25)).alloc (.cells #[] 5) = V at *
  have r1 := S1.only ho1.out (by simp [blockOf]; try omega)
  have r2 := S2.only ho1.out (by simp [blockOf]; try omega)
  have r3 := r1.set9 A' n cap'
  obtain ⟨x0, x1, x2, x3, x4, x5, x6, x7, x8, x9⟩ := r3.box
  have f9 := r1.thaw 9
  obtain ⟨u0, u1, u2, u3, u4, u5, u6, u7, u8, u9⟩ := r1.box
  obtain ⟨y0, y1, y2, y3, y4, y5, y6, y7, y8, y9⟩ := r2.box
  have g0 := r2.thaw 0
  have g1 := r2.thaw 1
  have g2 := r2.thaw 2
  have g3 := r2.thaw 3
  have g4 := r2.thaw 4
  have g5 := r2.thaw 5
  have g6 := r2.thaw 6
  have g7 := r2.thaw 7
  have g8 := r2.thaw 8
  have g9 := r2.thaw 9
  have hO9 : Only (fun k => k = w.heap.size) w1 (w1.setCell ⟨w.heap.size, 9, none⟩ (.slice A' n cap')) := (Only.refl (fun k => k = w.heap.size) w1).setCell (p := ⟨w.heap.size, 9, none⟩) (.inl rfl) _
  have hT := only_ten (w1.setCell ⟨w.heap.size, 9, none⟩ (.slice A' n cap')) (w.heap.size + 1) (.int .i64 k) (.int .i64 s) (.int .i64 t) (.int .u64 i) (.int .u64 c) (.int .u64 p) (.int .u64 q) (.int .u64 a) (.int .u64 e) (.slice A' n cap')
  have R1 := Lib.hid ((r2.only hO9 (by omega)).set k s t i c p q a e A' n cap')
  have hge := hn1.out.ge (B := w.heap.size + 1 + 1) (by omega) (fun j hj => by simp [blockOf] at hj; omega)
  have hO1' : Own8 w1 0 A' n cap' l := by simpa using hO1.out
  have R2 := Lib.hid ((((hO1'.raise (base := w.heap.size) (fun j hj => by have := hge j hj; omega)).keep hO9 (fun j hj => by have := hge j hj; omega)).keep hT (fun j hj => by have := hge j hj; omega)))
  have b1 : Below w.heap.size w w1 := ho1.out.below S3 (fun j hj => by simp [blockOf] at hj; omega) (by omega)
  have b2 := hO9.below b1 (fun j hj => by omega) (by have := b1.size; omega)
  have R3 := Lib.hid (hT.below b2 (fun j hj => by omega) b2.size)
  clear S1 S2 S3 S4 S5 r1 r2 r3 hO9 hT hO1 hO1' ho1 hn1 hge b1 b2
  go_wp2
  refine bodyPost_ret (results_cell_row rfl _ _ (w.heap.size + 1) 25 #[.int .i64 k, .int .i64 s, .int .i64 t, .int .u64 i, .int .u64 c, .int .u64 p, .int .u64 q, .int .u64 a, .int .u64 e, .slice A' n cap'] (0, 0) _ rfl R1.out Tryd.underlying25 rfl (by kernel_rfl)) rfl ?_
  exact ⟨A', cap', rfl, R2, R3⟩
theorem rfown_any (f : Fr) (A : Option Addr) (n cap B : Nat) (hn : f.body.length = n) (w : World) (hA : A = none → cap = 0) (hb : Bytes w B A f.body) (hB : B ≤ w.heap.size) (hr : n ≤ 70368744177664) :
    Calls Tryd.prog 13 #[frV f A n cap] w fun en w' => ∃ A' cap', en = .returned (frV f A' n cap') ∧ Hid (Own8 w' w.heap.size A' n cap' f.body) ∧ Hid (Below w.heap.size w w') :=
  rfown_int _ _ _ _ _ _ _ _ _ A n cap B f.body w hn hA hb hB hr
end Go.Proofs.YtelbhlkojpnmgaaDoor
