/-
  The statement ViewPlaces' walk: whatever view and life, it answers true, and leaves all that was there as it was. No condition but that the view is a view.
-/
import Derived.Test.YtgkldjolnbnehaaVawake
namespace Go.Proofs.Ytgkldjolnbnehaa
set_option maxRecDepth 20000
open Go.RowKit

set_option maxHeartbeats 4000000 in
theorem places_walk (i : Nm) (A : Option Addr) (ms : List Life) (c : Nat) (A' : Option Addr) (ss : List Nat) (c' : Nat) (p : Life) (w : World) (h : Vm w 9223372036854775807 A ms.length c A' ss.length c' ms ss) :
    Calls Try.prog 5 #[vwV i A ms.length c A' ss.length c', lifeV p] w fun e w' => e = .returned (.bool true) ∧ Hid (Below w.heap.size w w') := by
  generalize hn : ms.length = n at *
  generalize hm : ss.length = m at *
  have B2 := Lib.hid (two_below w (.cells (vwC i A n c A' m c') 30) (.cells #[.int .i64 p.1, .int .u64 p.2] 24))
  obtain ⟨r, x, y⟩ := i
  have HB := Lib.hid (box_vp w r x y A n c A' m c' p 30)
  have hle := h.le
  have hsle := h.sle
  have HV0 := Lib.hid h
  clear h hn hm
  obtain ⟨p1, p2⟩ := p
  try simp only at HB B2
  go_enter Try.func5, Try.ntmps5
  obtain ⟨⟨k0, k1, k2, k3, k4⟩, ⟨k5, k6⟩⟩ := HB.out
  try simp only at k5 k6
  go_wp2_with fail
  have HV := Lib.hid (HV0.out.on B2.out)
  generalize ((w.alloc (.cells (vwC (r, (x, y)) A n c A' m c') 30)).alloc (.cells #[.int .i64 p1, .int .u64 p2] 24)) = W2 at *
  generalize hB : w.heap.size = B at HB k0 k1 k2 k3 k4 k5 k6 ⊢
  have HBB := Lib.hid hB
  clear hB HV0 k0 k1 k2 k3 k4 k5 k6
  refine (heavy4_any (r, (x, y)) A n c A' m c' W2 hle hsle).mono ?_
  rintro e W3 ⟨rfl, hb3⟩
  have B3 := Lib.hid (btr B2.out hb3.out)
  have KV := Lib.hid (HB.out.1.below hb3.out)
  have KP := Lib.hid (HB.out.2.below hb3.out)
  have V3 := Lib.hid (HV.out.on hb3.out)
  clear HB HV B2 hb3
  by_cases hh : 300 < n ∨ 300 < m
  · rw [decide_eq_true hh]
    go_wp2_with fail
    refine (awake4_any W3).mono ?_
    rintro e W4 ⟨rfl, hb4⟩
    go_wp2
    go_ret
    exact ⟨rfl, Lib.hid (btr B3.out hb4.out)⟩
  · rw [decide_eq_false hh]
    have V3 : Hid (Vm W3 300 A n c A' m c' ms ss) := Lib.hid ⟨V3.out.lives, V3.out.len, by omega, V3.out.cap, V3.out.uns, V3.out.nums, V3.out.slen, by omega, V3.out.scap, V3.out.u64⟩
    clear hh
    obtain ⟨k0, k1, k2, k3, k4⟩ := KV.out
    obtain ⟨k5, k6⟩ := KP.out
    try simp only at k5 k6
    go_wp2_with fail
    refine (place_any (r, (x, y)) A n c A' m c' ms ss (p1, p2) W3 V3.out (by omega)).mono ?_
    rintro e W4 ⟨rfl, hb4⟩
    have B4 := Lib.hid (btr B3.out hb4.out)
    have KV4 := Lib.hid (KV.out.below hb4.out)
    have KP4 := Lib.hid (KP.out.below hb4.out)
    have V4 := Lib.hid (V3.out.on hb4.out)
    clear KV KP V3 B3 hb4 k0 k1 k2 k3 k4 k5 k6
    obtain ⟨k0, k1, k2, k3, k4⟩ := KV4.out
    obtain ⟨k5, k6⟩ := KP4.out
    try simp only at k5 k6
    go_wp2_with fail
    refine (rplace_any (r, (x, y)) A n c A' m c' ms ss (p1, p2) W4 V4.out (by omega)).mono ?_
    rintro e W5 ⟨rfl, hb5⟩
    have B5 := Lib.hid (btr B4.out hb5.out)
    have KV5 := Lib.hid (KV4.out.below hb5.out)
    have KP5 := Lib.hid (KP4.out.below hb5.out)
    have V5 := Lib.hid (V4.out.on hb5.out)
    clear KV4 KP4 V4 B4 hb5 k0 k1 k2 k3 k4 k5 k6
    obtain ⟨k0, k1, k2, k3, k4⟩ := KV5.out
    obtain ⟨k5, k6⟩ := KP5.out
    try simp only at k5 k6
    go_wp2_with fail
    refine (start_any (r, (x, y)) A n c A' m c' ms ss (p1, p2) W5 V5.out (by omega)).mono ?_
    rintro e W6 ⟨rfl, hb6⟩
    have B6 := Lib.hid (btr B5.out hb6.out)
    have KV6 := Lib.hid (KV5.out.below hb6.out)
    have KP6 := Lib.hid (KP5.out.below hb6.out)
    have V6 := Lib.hid (V5.out.on hb6.out)
    clear KV5 KP5 V5 B5 hb6 k0 k1 k2 k3 k4 k5 k6
    obtain ⟨k0, k1, k2, k3, k4⟩ := KV6.out
    obtain ⟨k5, k6⟩ := KP6.out
    try simp only at k5 k6
    go_wp2_with fail
    refine (rstart_any (r, (x, y)) A n c A' m c' ms ss (p1, p2) W6 V6.out (by omega)).mono ?_
    rintro e W7 ⟨rfl, hb7⟩
    have B7 := Lib.hid (btr B6.out hb7.out)
    clear KV6 KP6 V6 B6 hb7 k0 k1 k2 k3 k4 k5 k6
    generalize plcL ms (p1, p2) = a1 at *
    generalize decide (((p1, p2) : Life) ∈ ms) = a2 at *
    generalize stL ms ss (p1, p2) = a3 at *
    generalize hasL ms ss (p1, p2) = a4 at *
    have e1 : (a1 == a1) = true := by simp
    have e2 : (a2 == a2) = true := by simp
    have e3 : ((a3 : Int) == (a3 : Int)) = true := by simp
    have e4 : (a4 == a4) = true := by simp
    go_wp2_with fail
    refine (awake4_any W7).mono ?_
    rintro e W8 ⟨rfl, hb8⟩
    go_wp2
    go_ret
    exact ⟨rfl, Lib.hid (btr B7.out hb8.out)⟩
end Go.Proofs.Ytgkldjolnbnehaa
