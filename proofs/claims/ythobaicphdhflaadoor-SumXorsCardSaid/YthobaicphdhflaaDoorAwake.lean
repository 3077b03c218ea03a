/-
  What the statements' own examples come to: awake answers true, and what was there stays as it was. Where the table lies as the program's text lays it.
-/
import Derived.Test.YthobaicphdhflaaDoorOpen
import Derived.Test.YthobaicphdhflaaDoorSame
import Derived.Lib.SlBytesConst
namespace Go.Proofs.YthobaicphdhflaaDoor
open Go.RowKit

theorem crc_none : Crc.crc [] = 0 := by decide +kernel
theorem crc_digits : Crc.crc [49, 50, 51, 52, 53, 54, 55, 56, 57] = 3808858755 := by decide +kernel
theorem seal_a : Crc.seal_ [97] = [97, 48, 67, 208, 193] := by decide +kernel
theorem not_sealed : Crc.sealed [97, 48, 67, 208, 192] = false := by decide +kernel

theorem of_none (w : World) (ht : Tab w) : Calls Tryd.prog 14 #[.slice none 0 0] w fun e w' => e = .returned (.int .u32 0) ∧ w = w' := by
  have h := of_any none [] 0 0 w ht (fun h => absurd h (by simp)) (by simp)
  rw [show (([] : List (List UInt8)).flatten) = [] by rfl, crc_none] at h
  exact h
theorem of_digits (b x y c1 c2 : Nat) (w : World) (ht : Tab w) (h0 : w.cell? ⟨b, 0, none⟩ = some (.slice (some ⟨x, 0, none⟩) 4 c1)) (h1 : w.cell? ⟨b, 1, none⟩ = some (.slice none 0 0)) (h2 : w.cell? ⟨b, 2, none⟩ = some (.slice (some ⟨y, 0, none⟩) 5 c2))
    (hx : Bytes w w.heap.size (some ⟨x, 0, none⟩) [49, 50, 51, 52]) (hy : Bytes w w.heap.size (some ⟨y, 0, none⟩) [53, 54, 55, 56, 57]) :
    Calls Tryd.prog 14 #[.slice (some ⟨b, 0, none⟩) 3 3] w fun e w' => e = .returned (.int .u32 3808858755) ∧ w = w' := by
  have h := of_any (some ⟨b, 0, none⟩) [[49, 50, 51, 52], [], [53, 54, 55, 56, 57]] 3 w.heap.size w ht (fun _ => ⟨b, 0, rfl, World.block_lt_of_cell? _ _ h0, fun k hk => ?_⟩) (by simp [maxLen])
  · rw [show (([[49, 50, 51, 52], [], [53, 54, 55, 56, 57]] : List (List UInt8)).flatten) = [49, 50, 51, 52, 53, 54, 55, 56, 57] by rfl, crc_digits] at h
    exact h
  · have hk' : k = 0 ∨ k = 1 ∨ k = 2 := by simp at hk; omega
    rcases hk' with rfl | rfl | rfl
    · exact ⟨_, _, h0, hx, by simp⟩
    · exact ⟨_, _, h1, Bytes.nil_, by simp⟩
    · exact ⟨_, _, h2, hy, by simp⟩
theorem sealA (b : Nat) (w : World) (ht : Tab w) (hx : Bytes w w.heap.size (some ⟨b, 0, none⟩) [97]) :
    Calls Tryd.prog 17 #[.slice (some ⟨b, 0, none⟩) 1 1] w fun e w' => ∃ g, e = .returned (.slice (some ⟨g, 0, none⟩) 5 5) ∧ Hid (Blk8 w' g [97, 48, 67, 208, 193]) ∧ Hid (Below w.heap.size w w') := by
  refine (seal_any (some ⟨b, 0, none⟩) [97] 1 w ht hx (by simp)).mono ?_
  rintro e w' ⟨g, rfl, _, hb, hw⟩
  rw [seal_a] at hb
  exact ⟨g, rfl, hb, hw⟩
theorem open_any (A : Option Addr) (l : List UInt8) (n cap : Nat) (w : World) (ht : Tab w) (hb : Bytes w w.heap.size A l) (hn : l.length = n) (hc : n ≤ cap) (hl : n ≤ 1099511627776) :
    Calls Tryd.prog 19 #[.slice A n cap] w (OpenEnds w l) := by
  subst hn
  rcases Nat.lt_or_ge l.length 4 with h | h
  · exact open_short A l cap w h
  · exact open_long A l cap w ht hb h hc hl
/-- What is sealed is opened. -/
theorem open_sealed (g : Nat) (l : List UInt8) (n : Nat) (w : World) (ht : Tab w) (hb : Blk8 w g (Crc.seal_ l)) (hn : l.length = n) (hl : n ≤ 65536) :
    Calls Tryd.prog 19 #[.slice (some ⟨g, 0, none⟩) (n + 4) (n + 4)] w fun e w' => ∃ g2, e = .returned (.tuple #[.slice (some ⟨g2, 0, none⟩) n n, .bool true]) ∧ w.heap.size ≤ g2 ∧ Hid (Blk8 w' g2 l) ∧ Hid (Below w.heap.size w w') := by
  refine (open_any (some ⟨g, 0, none⟩) (Crc.seal_ l) (n + 4) (n + 4) w ht (hb.all.more hb.lt) (by rw [Crc.seal_length, hn]) (Nat.le_refl _) (by omega)).mono ?_
  rintro e w' ⟨hw, ⟨hs, _⟩ | ⟨_, g2, he, hg, hk⟩⟩
  · rw [Crc.sealed_seal] at hs; cases hs
  · have e4 : (Crc.seal_ l).length - 4 = n := by rw [Crc.seal_length]; omega
    rw [e4] at he hk
    have e5 : (Crc.seal_ l).take n = l := by rw [← hn]; exact Crc.take_seal l
    rw [e5] at hk
    exact ⟨g2, he, hg, hk, hw⟩
theorem openA (b : Nat) (w : World) (ht : Tab w) (hx : Blk8 w b [97, 48, 67, 208, 192]) :
    Calls Tryd.prog 19 #[.slice (some ⟨b, 0, none⟩) 5 5] w fun e w' => e = .returned (.tuple #[.slice none 0 0, .bool false]) ∧ Hid (Below w.heap.size w w') := by
  refine (open_any (some ⟨b, 0, none⟩) [97, 48, 67, 208, 192] 5 5 w ht (hx.all.more hx.lt) rfl (Nat.le_refl _) (by simp)).mono ?_
  rintro e w' ⟨hw, ⟨_, he⟩ | ⟨hs, _⟩⟩
  · exact ⟨he, hw⟩
  · rw [not_sealed] at hs; cases hs
theorem blk_new (w : World) (l : List UInt8) : Blk8 (w.alloc (.cells (bv l).toArray 5)) w.heap.size l := heap_alloc_new w _

theorem bytes_marked (w : World) (l : List UInt8) (fr : Nat × Nat) : Bytes (w.alloc (.cells (bv l).toArray 5 fr)) (w.heap.size + 1) (some ⟨w.heap.size, 0, none⟩) l := fun _ => by
  refine ⟨_, 0, rfl, by omega, fun k hk => ?_⟩
  rw [Nat.zero_add, World.cell?_alloc_mark]
  simpa using bv_get hk

/-- The world in which the nine digits are summed, in three parts. -/
def digW (W : World) : World := ((W.alloc (.cells (bv [49, 50, 51, 52]).toArray 5 (4, 5))).alloc (.cells (bv [53, 54, 55, 56, 57]).toArray 5 (5, 6))).alloc
  (.cells #[.slice (some ⟨W.heap.size, 0, none⟩) 4 4, .slice none 0 0, .slice (some ⟨W.heap.size + 1, 0, none⟩) 5 5] 25)
theorem digW_below {w W : World} (h : Below w.heap.size w W) : Below w.heap.size w (digW W) :=
  ((h.alloc h.size _).alloc (by have := h.size; simp; omega) _).alloc (by have := h.size; simp; omega) _
theorem of_digW (W : World) (ht : Tab W) : Calls Tryd.prog 14 #[.slice (some ⟨W.heap.size + 1 + 1, 0, none⟩) 3 3] (digW W) fun e w' => e = .returned (.int .u32 3808858755) ∧ digW W = w' := by
  have hs : (((W.alloc (.cells (bv [49, 50, 51, 52]).toArray 5 (4, 5))).alloc (.cells (bv [53, 54, 55, 56, 57]).toArray 5 (5, 6))).heap.size) = W.heap.size + 1 + 1 := by simp
  have hc : ∀ k, (digW W).cell? ⟨W.heap.size + 1 + 1, k, none⟩ = #[Value.slice (some ⟨W.heap.size, 0, none⟩) 4 4, .slice none 0 0, .slice (some ⟨W.heap.size + 1, 0, none⟩) 5 5][k]? := fun k => by
    rw [← hs]; exact World.cell?_alloc_mark _ _ _ _ _
  refine of_digits _ W.heap.size (W.heap.size + 1) 4 5 (digW W) (((ht.alloc _).alloc _).alloc _) (hc 0) (hc 1) (hc 2) ?_ ?_
  · exact ((((bytes_marked W _ _).more (by simp)).alloc (Nat.le_refl _) _).alloc (by simp) _).more (by simp [digW])
  · have h := bytes_marked (W.alloc (.cells (bv [49, 50, 51, 52]).toArray 5 (4, 5))) [53, 54, 55, 56, 57] (5, 6)
    have e : (W.alloc (.cells (bv [49, 50, 51, 52]).toArray 5 (4, 5))).heap.size = W.heap.size + 1 := by simp
    rw [e] at h
    exact ((h.more (by simp)).alloc (Nat.le_refl _) _).more (by simp [digW])
theorem conv_const (W : World) (C : Array Value) (n c : Nat) : Sem.run Tryd.prog (convert 25 25 (.slice (some ⟨W.heap.size, 0, none⟩) n c)) (W.alloc (.cells C 5)) = .ok (.slice (some ⟨W.heap.size, 0, none⟩) n c) (W.alloc (.cells C 5 (C.size, C.size + 1))) :=
  Lib.run_convert_bytes_const (P := Tryd.prog) W 25 5 C n c Tryd.underlying25 Tryd.underlying5
theorem conv_const1 (W : World) (o : Obj) (C : Array Value) (n c : Nat) : Sem.run Tryd.prog (convert 25 25 (.slice (some ⟨W.heap.size + 1, 0, none⟩) n c)) ((W.alloc o).alloc (.cells C 5)) = .ok (.slice (some ⟨W.heap.size + 1, 0, none⟩) n c) ((W.alloc o).alloc (.cells C 5 (C.size, C.size + 1))) := by
  have h := conv_const (W.alloc o) C n c
  have e : (W.alloc o).heap.size = W.heap.size + 1 := by simp
  rw [e] at h
  exact h

set_option maxHeartbeats 400000 in
theorem awake_any (w : World) (ht : Tab w) :
    Calls Tryd.prog 12 #[] w fun e w' => e = .returned (.bool true) ∧ Hid (Below w.heap.size w w') := by
  have HT := Lib.hid ht
  clear ht
  have kc := conv_const
  have kc1 := conv_const1
  go_enter Tryd.func12, Tryd.ntmps12
  go_wp2_with fail
  refine (sealA _ _ (by exact HT.out.alloc _) (by exact (bytes_marked w [97] _).more (by simp))).mono ?_
  rintro e W1 ⟨g, rfl, hg, hb⟩
  have hT1 : Hid (Tab W1) := Lib.hid ((HT.out.alloc _).below (HT.out.alloc _).pos hb.out)
  have hW1 : Hid (Below w.heap.size w W1) := Lib.hid (((Below.refl _ _).alloc (Nat.le_refl _) _).trans (hb.out.mono (by simp)))
  clear hb
  go_wp2_with fail
  refine (openA _ _ (by exact hT1.out.alloc _) (by exact blk_new W1 [97, 48, 67, 208, 192])).mono ?_
  rintro e W2 ⟨rfl, hb⟩
  have hT2 : Hid (Tab W2) := Lib.hid ((hT1.out.alloc _).below (hT1.out.alloc _).pos hb.out)
  have hg2 : Hid (Blk8 W2 g [97, 48, 67, 208, 193]) := Lib.hid ((hg.out.alloc _).below hb.out (hg.out.alloc _).lt)
  have hW2 : Hid (Below w.heap.size w W2) := Lib.hid ((hW1.out.alloc hW1.out.size _).trans (hb.out.mono (by have := hW1.out.size; simp; omega)))
  clear hb hW1 hT1 hg
  go_wp2_with fail
  refine (of_none _ hT2.out).mono ?_
  rintro e W3 ⟨rfl, rfl⟩
  go_wp2_with fail
  refine (of_digW W2 hT2.out).mono ?_
  rintro e W3 ⟨rfl, hW⟩
  have hW3 : Hid (Below w.heap.size w W3) := by rw [← hW]; exact digW_below hW2.out
  have hb3 : Hid (Below W2.heap.size W2 W3) := by rw [← hW]; exact digW_below (Below.refl _ _)
  have hs : Sem.run Tryd.prog (convert 25 9 (.slice (some ⟨g, 0, none⟩) 5 5)) W3 = .ok (.string ⟨#[97, 48, 67, 208, 193]⟩) W3 := conv_str (w := W3) (cap := 5) (hg2.out.below hb3.out hg2.out.lt).all
  clear hW hb3 hg2 hT2 hW2 kc kc1
  go_wp2
  go_ret
  exact ⟨rfl, hW3.out⟩
end Go.Proofs.YthobaicphdhflaaDoor
