/-
  The statement SumBack: for any bytes, what sum.Seal seals stands ahead of four bytes and is opened by sum.Open as it was. No condition but the row's own: the package's table lies as the program's text lays it.
-/
import Derived.Test.YthobaicphdhflaaDoorLaw
namespace Go.Proofs.YthobaicphdhflaaDoor
open Go.RowKit

theorem seal_front {w : World} {g n : Nat} {l : List UInt8} (h : Blk8 w g (Crc.seal_ l)) (hn : l.length = n) : Bytes w w.heap.size (some ⟨g, 0, none⟩) l := by
  have h1 := h.bytes 0 n (by rw [Crc.seal_length]; omega)
  rw [List.drop_zero, ← hn, Crc.take_seal] at h1
  exact h1.more h.lt

set_option maxHeartbeats 800000 in
theorem back_walk (A : Option Addr) (l : List UInt8) (cap : Nat) (w : World) (ht : Tab w) (hb : Bytes w w.heap.size A l) (hc : l.length ≤ cap) (hr : cap ≤ 140737488351232) :
    Calls Tryd.prog 7 #[.slice A l.length cap] w fun e w' => e = .returned (.bool true) ∧ Hid (Below w.heap.size w w') := by
  have HT := Lib.hid ht
  have HB := Lib.hid hb
  clear ht hb
  generalize hn : l.length = n at hc ⊢
  have HN := Lib.hid hn
  clear hn
  go_enter Tryd.func7, Tryd.ntmps7
  go_wp2_with fail
  refine (long_one A l n cap w HN.out HB.out (by omega)).mono ?_
  rintro e W1 ⟨rfl, hW⟩
  have hT1 : Hid (Tab W1) := by rw [← hW]; exact HT.out.alloc _
  have hb1 : Hid (Below w.heap.size w W1) := by rw [← hW]; exact (Below.refl _ _).alloc (Nat.le_refl _) _
  clear hW
  by_cases hlong : 65536 < n
  · have hd : decide (65536 < n) = true := decide_eq_true hlong
    go_wp2_with fail
    refine (awake_any W1 hT1.out).mono ?_
    rintro e W2 ⟨rfl, hb2⟩
    have hb3 : Hid (Below w.heap.size w W2) := Lib.hid (hb1.out.trans (hb2.out.mono hb1.out.size))
    clear hb1 hb2
    go_wp2
    go_ret
    exact ⟨rfl, hb3⟩
  · have hd : decide (65536 < n) = false := decide_eq_false hlong
    have hB1 : Hid (Bytes W1 W1.heap.size A l) := Lib.hid ((HB.out.below hb1.out).more hb1.out.size)
    have hle : n ≤ 65536 := by omega
    clear hlong
    go_wp2_with fail
    refine (seal_n A l n cap W1 hT1.out hB1.out HN.out (by omega)).mono ?_
    rintro e W2 ⟨g, rfl, hg, hk2, hb2⟩
    have hT2 : Hid (Tab W2) := Lib.hid (hT1.out.below hT1.out.pos hb2.out)
    have hb3 : Hid (Below w.heap.size w W2) := Lib.hid (hb1.out.trans (hb2.out.mono hb1.out.size))
    have hB2 : Hid (Bytes W2 W2.heap.size A l) := Lib.hid ((hB1.out.below hb2.out).more hb2.out.size)
    have hF : Hid (Bytes W2 W2.heap.size (some ⟨g, 0, none⟩) l) := Lib.hid (seal_front hk2.out HN.out)
    clear hb1 hb2 hT1 hB1 hg
    go_wp2_with fail
    refine (same_true (some ⟨g, 0, none⟩) A l l n n (n + 4) cap W2.heap.size W2 HN.out HN.out hF.out hB2.out rfl).mono ?_
    rintro e W3 ⟨rfl, rfl⟩
    go_wp2_with fail
    refine (open_sealed g l n W2 hT2.out hk2.out HN.out hle).mono ?_
    rintro e W3 ⟨g2, rfl, hg2, hk3, hb4⟩
    have hT3 : Hid (Tab W3) := Lib.hid (hT2.out.below hT2.out.pos hb4.out)
    have hb5 : Hid (Below w.heap.size w W3) := Lib.hid (hb3.out.trans (hb4.out.mono hb3.out.size))
    have hB3 : Hid (Bytes W3 W3.heap.size A l) := Lib.hid ((hB2.out.below hb4.out).more hb4.out.size)
    have hF3 : Hid (Bytes W3 W3.heap.size (some ⟨g2, 0, none⟩) l) := Lib.hid (hk3.out.all.more hk3.out.lt)
    clear hb3 hb4 hT2 hB2 hk2 hF hg2 hk3
    go_wp2_with fail
    refine (same_true (some ⟨g2, 0, none⟩) A l l n n n cap W3.heap.size W3 HN.out HN.out hF3.out hB3.out rfl).mono ?_
    rintro e W4 ⟨rfl, rfl⟩
    go_wp2_with fail
    refine (awake_any W3 hT3.out).mono ?_
    rintro e W4 ⟨rfl, hb6⟩
    have hb7 : Hid (Below w.heap.size w W4) := Lib.hid (hb5.out.trans (hb6.out.mono hb5.out.size))
    clear hb5 hb6
    go_wp2
    go_ret
    exact ⟨rfl, hb7⟩
end Go.Proofs.YthobaicphdhflaaDoor
