/-
  What sum.Open does: of bytes that are sealed it makes what stands ahead of the sum in new memory; of others it answers none; it leaves all else as it was. Where the table lies as the program's text lays it, for at most 2^40 bytes.
-/
import Derived.Test.YtelbhlkojpnmgaaDoorSseal
import Derived.Test.YtelbhlkojpnmgaaDoorSlast
import Derived.Deep.RegionHeld3
import Derived.Deep.DeepCutAuto
import Derived.Deep.Light
namespace Go.Proofs.YtelbhlkojpnmgaaDoor
open Go.RowKit

theorem sealed_num (l : List UInt8) (n : Nat) (h : l.length = n + 4) : Crc.sealed l = decide (Crc.crc (l.take n) = snumLE (l.drop n) 4) := by
  unfold Crc.sealed
  rw [decide_eq_true (by omega), Bool.true_and, show l.length - 4 = n by omega]
  obtain ⟨a, b, c, d, hl⟩ := Crc.four_of (l := l.drop n) (by rw [List.length_drop]; omega)
  rw [hl, numLE_four]
  rw [decide_eq_decide]
  constructor
  · intro h1
    have h2 := Crc.le4_un4 a b c d
    rw [h1] at h2
    have e := Crc.un4_le4 (Crc.crc_lt (l.take n))
    unfold Crc.le4 at h1
    simp only [List.cons.injEq, and_true] at h1
    rw [← h1.1, ← h1.2.1, ← h1.2.2.1, ← h1.2.2.2] at e
    exact e.symm
  · intro h1
    rw [h1, Crc.le4_un4]
theorem splice_all {n : Nat} {l : List UInt8} (h : l.length = n) {w : World} {g : Nat} (hg : w.heap[g]? = some (.cells (splice (bv (List.replicate n 0)) 0 (bv l)).toArray 5 (0, 0))) : Blk8 w g l := by
  subst h
  unfold Blk8
  rw [hg]
  congr 2
  simp [splice]

def OpenEnds (w : World) (l : List UInt8) (e : Ending) (w' : World) : Prop :=
  Below w.heap.size w w' ∧ ((Crc.sealed l = false ∧ e = .returned (.tuple #[.slice none 0 0, .bool false])) ∨
    (Crc.sealed l = true ∧ ∃ g, e = .returned (.tuple #[.slice (some ⟨g, 0, none⟩) (l.length - 4) (l.length - 4), .bool true]) ∧ w.heap.size ≤ g ∧ Blk8 w' g (l.take (l.length - 4))))

set_option maxHeartbeats 400000 in
theorem open_short (A : Option Addr) (l : List UInt8) (cap : Nat) (w : World) (hl : l.length < 4) :
    Calls Tryd.prog 34 #[.slice A l.length cap] w (OpenEnds w l) := by
  have hs : Hid (Crc.sealed l = false) := by
    unfold Crc.sealed; rw [decide_eq_false (by omega)]; rfl
  have hl' : (l.length : Int) - 4 < 0 := by omega
  have hd : decide ((l.length : Int) - 4 < 0) = true := by simpa using hl'
  go_enter Tryd.func34, Tryd.ntmps34
  go_wp2
  go_quiet (fail)
  go_wp2
  go_ret2
  exact ⟨below_drewN (Below.refl _ _) _, .inl ⟨hs.out, rfl⟩⟩

set_option maxHeartbeats 400000 in
theorem open_long (A : Option Addr) (l : List UInt8) (cap : Nat) (w : World) (ht : Tab w) (hb : Bytes w w.heap.size A l) (h4 : 4 ≤ l.length) (hc : l.length ≤ cap) (hl : l.length ≤ 1099511627776) :
    Calls Tryd.prog 34 #[.slice A l.length cap] w (OpenEnds w l) := by
  obtain ⟨n, hn⟩ : ∃ n, l.length = n + 4 := ⟨l.length - 4, by omega⟩
  obtain ⟨b, off, rfl, _⟩ := hb (by omega)
  have HT := Lib.hid ht
  have H1 := Lib.hid (hb.front n)
  have H2 := Lib.hid (hb.back n)
  clear ht
  rw [hn] at hc hl ⊢
  have L1 := Lib.hid (show (l.take n).length = n by rw [List.length_take]; omega)
  have L2 := Lib.hid (show (l.drop n).length = 4 by rw [List.length_drop]; omega)
  have HB := Lib.hid hb
  have HN := Lib.hid hn
  clear hn h4 hb
  have hd : decide ((n : Int) < 0) = false := by simp
  have b1 : (0 : Int) ≤ (n : Int) := by omega
  have b2 : (n : Int) ≤ (n : Int) + 4 := by omega
  have b3 : (n : Int) + 4 ≤ (cap : Int) := by omega
  have b4 : (n : Int) ≤ (cap : Int) := by omega
  have b5 : ¬ cap = n := by omega
  go_enter Tryd.func34, Tryd.ntmps34
  go_wp2_with fail
  go_region_held3 (fun _ => True) (trivial) (first | (go_at_call 46; refine (of_one _ 0 1 (some ⟨b, off, none⟩) n cap (l.take n) _ (by exact HT.out.alloc _) L1.out (by exact cell_one_at w _ _) (by exact (H1.out.alloc (Nat.le_refl _) _).more (by simp)) (by rw [L1.out]; omega)).mono ?_; rintro e W2 ⟨rfl, hW⟩) | (go_at_call 51; refine (last_any (some ⟨b, off + n, none⟩) (l.drop n) (cap - n) w.heap.size _ (by rw [← hW]; exact H2.out.alloc (Nat.le_refl _) _) L2.out).mono ?_; rintro e W3 ⟨rfl, rfl⟩))
  have hT2 : Hid (Tab W2) := by rw [← hW]; exact HT.out.alloc _
  have hb2 : Hid (Below w.heap.size w W2) := by rw [← hW]; exact ((Below.refl _ _).alloc (Nat.le_refl _) _).drew
  have hB2 : Hid (Bytes W2 W2.heap.size (some ⟨b, off, none⟩) (l.take n)) := Lib.hid ((H1.out.below hb2.out).more hb2.out.size)
  clear hW HT H1 H2
  have HQ := Lib.hid (sealed_num l n HN.out)
  generalize snumLE (l.drop n) 4 = y at HQ
  generalize hx : Crc.crc (l.take n) = x at HQ
  clear hx
  by_cases hxy : x = y
  · have hs : Hid (Crc.sealed l = true) := Lib.hid (by rw [HQ.out]; exact decide_eq_true hxy)
    subst hxy
    clear HQ
    have hmk := fun W => run_make_row' (P := Tryd.prog) 23 5 (.int .u8 0) 1 Tryd.underlying23 Tryd.infoU8 rfl .i64 .i64 n (by omega) (by omega) W
    simp only [made_u8] at hmk
    have C1 := Lib.hid (heap_alloc_new W2 (.cells (bv (List.replicate n 0)).toArray 5))
    have C2 := Lib.hid (show (bv (l.take n)).length = Nat.min n n by rw [bv_length, L1.out]; exact (Nat.min_self n).symm)
    have C3 := Lib.hid (copy_src (d := ⟨W2.heap.size, 0, none⟩) (hB2.out.alloc (Nat.le_refl _) (.cells (bv (List.replicate n 0)).toArray 5)))
    have C4 := Lib.hid (show 0 + (bv (l.take n)).length ≤ (bv (List.replicate n 0)).length by rw [bv_length, bv_length, L1.out]; simp)
    have C5 := Lib.hid (hb2.out.alloc hb2.out.size (.cells (bv (List.replicate n 0)).toArray 5))
    have C6 := Lib.hid hb2.out.size
    go_wp2_with (with_reducible refine wpList_copy_splice rfl (.tmp 25) (.tmp 28) 23 23 rfl 5 Tryd.underlying23 Tryd.sizeU8 (some ⟨W2.heap.size, 0, none⟩) (some ⟨b, off, none⟩) n n n cap rfl rfl W2.heap.size 0 (bv (List.replicate n 0)) 5 C1.out (bv (l.take n)) C2.out C3.out C4.out (bv_one _) w.heap.size w C5.out C6.out ?_)
    intro w3 hg3 hb3
    have hk : Hid (Blk8 w3 W2.heap.size (l.take n)) := splice_all L1.out hg3.out
    clear hg3 hmk C1 C2 C3 C4 C5
    go_wp2
    go_ret2
    have e4 : l.length - 4 = n := by rw [HN.out]; omega
    exact ⟨hb3, .inr ⟨hs.out, W2.heap.size, by rw [e4]; rfl, C6.out, by rw [e4]; exact hk.out⟩⟩
  · have hs : Hid (Crc.sealed l = false) := Lib.hid (by rw [HQ.out]; exact decide_eq_false hxy)
    have hne : ((x : Int) != (y : Int)) = true := by simp; omega
    clear HQ hxy
    go_wp2
    go_ret2
    exact ⟨hb2.out, .inl ⟨hs.out, rfl⟩⟩
end Go.Proofs.YtelbhlkojpnmgaaDoor
