/-
  What sum.Seal does: it makes the bytes, and their sum behind them, in new memory, and leaves all else as it was. Where the table lies as the program's text lays it, for at most 2^40 bytes.
-/
import Derived.Test.YtelbhlkojpnmgaaDoorSof
namespace Go.Proofs.YtelbhlkojpnmgaaDoor
open Go.RowKit

/-- What stands in the new block behind k of the four stores. -/
def sealK (l : List UInt8) (k : Nat) : List UInt8 := l ++ ((Crc.le4 (Crc.crc l)).take k ++ List.replicate (4 - k) 0)
theorem sealK_length (l : List UInt8) (k : Nat) (hk : k ≤ 4) : (sealK l k).length = l.length + 4 := by simp [sealK]; omega
theorem sealK_four (l : List UInt8) : sealK l 4 = Crc.seal_ l := by
  simp [sealK, Crc.seal_]; rfl
def le4at (c k : Nat) : UInt8 := (Crc.le4 c).getD k 0
theorem sealK_succ (l : List UInt8) (k : Nat) (hk : k < 4) : (sealK l k).set (l.length + k) (le4at (Crc.crc l) k) = sealK l (k + 1) := by
  unfold sealK le4at
  rw [List.set_append_right _ _ (by omega), Nat.add_sub_cancel_left]
  congr 1
  have : k = 0 ∨ k = 1 ∨ k = 2 ∨ k = 3 := by omega
  rcases this with rfl | rfl | rfl | rfl <;> rfl
/-- The byte that is stored, in the walk's own spelling. -/
theorem byte_of (c k : Nat) (hk : k < 4) : (c : Int) / 2 ^ (8 * k) % 256 = (((le4at c k).toNat : Nat) : Int) := by
  have : k = 0 ∨ k = 1 ∨ k = 2 ∨ k = 3 := by omega
  rcases this with rfl | rfl | rfl | rfl <;> simp [le4at, Crc.le4, UInt8.toNat_ofNat']

theorem copy_src {w : World} {B : Nat} {A : Option Addr} {l : List UInt8} {d : Addr} (h : Bytes w B A l) : 0 < (bv l).length → some d = some d ∧ ∃ ad, A = some ad ∧ ∀ j v, (bv l)[j]? = some v → w.cell? (ad.add j) = some v := fun hn => ⟨rfl, h.src hn⟩
theorem cell_one_at (w : World) (v : Value) (t : TypeId) : (w.alloc (.cells #[v] t)).cell? ⟨w.heap.size, 0, none⟩ = some v := by
  rw [cell_of_row _ _ 0 #[v] t (0, 0) (heap_alloc_new w _)]
  rfl
theorem sealK_start {w : World} {g : Nat} {l : List UInt8} (h : w.heap[g]? = some (.cells (splice (bv (List.replicate (l.length + 4) 0)) 0 (bv l)).toArray 5 (0, 0))) : Blk8 w g (sealK l 0) := by
  unfold Blk8
  rw [h]
  congr 2
  rw [Nat.add_comm l.length 4]
  simp [splice, sealK, bv, List.replicate]
def SealEnds (w : World) (l : List UInt8) (e : Ending) (w' : World) : Prop :=
  ∃ g, e = .returned (.slice (some ⟨g, 0, none⟩) (l.length + 4) (l.length + 4)) ∧ w.heap.size ≤ g ∧ Blk8 w' g (Crc.seal_ l) ∧ Below w.heap.size w w'

set_option maxHeartbeats 400000 in
theorem seal_any (A : Option Addr) (l : List UInt8) (cap : Nat) (w : World) (ht : Tab w) (hb : Bytes w w.heap.size A l) (hl : l.length ≤ 1099511627776) :
    Calls Tryd.prog 29 #[.slice A l.length cap] w (SealEnds w l) := by
  have HT := Lib.hid ht
  have HB := Lib.hid hb
  clear ht hb
  have hmk := fun W => run_make_row' (P := Tryd.prog) 23 5 (.int .u8 0) 1 Tryd.underlying23 Tryd.infoU8 rfl .i64 .i64 (l.length + 4) (by omega) (by omega) W
  have ec : ((l.length + 4 : Nat) : Int) = (l.length : Int) + 4 := by omega
  simp only [ec, made_u8] at hmk
  clear ec
  have C1 := Lib.hid (heap_alloc_new w (.cells (bv (List.replicate (l.length + 4) 0)).toArray 5))
  have C2 := Lib.hid (show (bv l).length = Nat.min l.length (l.length + 4) by rw [bv_length]; exact (Nat.min_eq_left (by omega)).symm)
  have C3 := Lib.hid (copy_src (d := ⟨w.heap.size, 0, none⟩) (HB.out.alloc (Nat.le_refl _) (.cells (bv (List.replicate (l.length + 4) 0)).toArray 5)))
  have C4 := Lib.hid (show 0 + (bv l).length ≤ (bv (List.replicate (l.length + 4) 0)).length by simp)
  have C5 := Lib.hid ((Below.refl w.heap.size w).alloc (Nat.le_refl _) (.cells (bv (List.replicate (l.length + 4) 0)).toArray 5))
  go_enter Tryd.func29, Tryd.ntmps29
  go_wp2_with (with_reducible refine wpList_copy_splice rfl (.tmp 10) (.tmp 11) 23 23 rfl 5 Tryd.underlying23 Tryd.sizeU8 (some ⟨w.heap.size, 0, none⟩) A (l.length + 4) (l.length + 4) l.length cap rfl rfl w.heap.size 0 (bv (List.replicate (l.length + 4) 0)) 5 C1.out (bv l) C2.out C3.out C4.out (bv_one l) w.heap.size w C5.out (Nat.le_refl _) ?_)
  intro w1 hg1 hb1
  have hk : Hid (Blk8 w1 w.heap.size (sealK l 0)) := sealK_start hg1.out
  clear hg1 hmk C1 C2 C3 C4 C5
  have hT1 := Lib.hid (HT.out.below HT.out.pos hb1)
  have hB1 := Lib.hid ((HB.out.below hb1).more hb1.size)
  go_wp2_with fail
  refine (of_one w1.heap.size 0 1 A l.length cap l _ (hT1.out.alloc _) rfl (cell_one_at w1 _ _) ((hB1.out.alloc (Nat.le_refl _) _).more (by simp)) (by omega)).mono ?_
  rintro e W2 ⟨rfl, hW⟩
  have hk2 : Hid (Blk8 W2 w.heap.size (sealK l 0)) := by rw [← hW]; exact hk.out.alloc _
  have hb2 : Hid (Below w.heap.size w W2) := by rw [← hW]; exact hb1.alloc hb1.size _
  clear hW hk hb1 hT1 hB1
  have HS := Lib.hid (sealK_succ l)
  have HB8 := Lib.hid (byte_of (Crc.crc l))
  have hcl := Crc.crc_lt l
  generalize hcc : Crc.crc l = c at HS HB8 hcl
  have HC := Lib.hid hcc
  clear hcc
  go_wp2_with fail
  go_loopw [16] (fun i wr => ∃ k : Nat, k ≤ 4 ∧ i = .int .i64 k ∧ Hid (Blk8 wr w.heap.size (sealK l k)) ∧ Hid (Below w.heap.size w wr)) (fun i _ => 4 - (intOf i).toNat)
  case atStart => exact ⟨0, Nat.zero_le _, rfl, hk2, hb2⟩
  case round =>
    obtain ⟨k, hk, rfl, hkb, hbw⟩ := hrel
    by_cases hlt : k < 4
    · have hcell := hkb.out.cell (k := l.length + k) (by rw [sealK_length l k hk]; omega)
      have hfz := hkb.out.frozen (l.length + k)
      have hv := HB8.out k hlt
      go_wp2
      go_roundw
      case rel => exact ⟨k + 1, by omega, by go_num, Lib.hid (by rw [← HS.out k hlt]; exact hkb.out.set_ _ _), Lib.hid (hbw.out.setCell (Nat.le_refl _) _)⟩
      case measure => simp [intOf]; omega
    · obtain rfl : k = 4 := by omega
      go_wp2
      go_ret
      exact ⟨w.heap.size, rfl, Nat.le_refl _, by rw [← sealK_four]; exact hkb.out, hbw.out⟩
theorem seal_n (A : Option Addr) (l : List UInt8) (n cap : Nat) (w : World) (ht : Tab w) (hb : Bytes w w.heap.size A l) (hn : l.length = n) (hl : n ≤ 1099511627776) :
    Calls Tryd.prog 29 #[.slice A n cap] w fun e w' => ∃ g, e = .returned (.slice (some ⟨g, 0, none⟩) (n + 4) (n + 4)) ∧ w.heap.size ≤ g ∧ Hid (Blk8 w' g (Crc.seal_ l)) ∧ Hid (Below w.heap.size w w') := by
  subst hn
  exact seal_any A l cap w ht hb hl
end Go.Proofs.YtelbhlkojpnmgaaDoor
