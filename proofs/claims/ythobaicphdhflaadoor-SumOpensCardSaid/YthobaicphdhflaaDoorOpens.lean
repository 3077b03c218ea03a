/-
  The statement SumOpens: any bytes are opened as the document says, and what is answered is not what was handed in. No condition but the row's own: the package's table lies as the program's text lays it.
-/
import Derived.Test.YthobaicphdhflaaDoorSeals
namespace Go.Proofs.YthobaicphdhflaaDoor
open Go.RowKit

theorem bytes_none {w : World} {B : Nat} : Bytes w B none [] := Bytes.nil_

set_option maxHeartbeats 1600000 in
theorem opens_walk (A : Option Addr) (l : List UInt8) (cap : Nat) (w : World) (ht : Tab w) (hb : Bytes w w.heap.size A l) (hA : A = none → cap = 0) (hc : l.length ≤ cap) (hr : cap ≤ 140737488351232) :
    Calls Tryd.prog 5 #[.slice A l.length cap] w fun e w' => e = .returned (.bool true) ∧ Hid (Below w.heap.size w w') := by
  have HT := Lib.hid ht
  have HB := Lib.hid hb
  have HA := Lib.hid hA
  clear ht hb hA
  generalize hn : l.length = n at hc ⊢
  have HN := Lib.hid hn
  clear hn
  go_enter Tryd.func5, Tryd.ntmps5
  go_wp2_with fail
  refine (long_one A l n cap w HN.out HB.out (by omega)).mono ?_
  rintro e W1 ⟨rfl, hW⟩
  have hT1 : Hid (Tab W1) := by rw [← hW]; exact HT.out.alloc _
  have hb1 : Hid (Below w.heap.size w W1) := by rw [← hW]; exact (Below.refl _ _).alloc (Nat.le_refl _) _
  clear hW
  by_cases hlong : 65536 < n
  · have hd : decide (65536 < n) = true := decide_eq_true hlong
    go_wp2_with fail
    refine (awake_any W1 hT1.out).mono ?_
    rintro e W2 ⟨rfl, hb2⟩
    have hb3 : Hid (Below w.heap.size w W2) := Lib.hid (hb1.out.trans (hb2.out.mono hb1.out.size))
    clear hb1 hb2
    go_wp2
    go_ret
    exact ⟨rfl, hb3⟩
  · have hd : decide (65536 < n) = false := decide_eq_false hlong
    have hB1 : Hid (Bytes W1 W1.heap.size A l) := Lib.hid ((HB.out.below hb1.out).more hb1.out.size)
    have hle : n ≤ 65536 := by omega
    clear hlong
    go_wp2_with fail
    refine (copy_any A l n cap W1.heap.size W1 HN.out HA.out hB1.out (Nat.le_refl _) (by omega)).mono ?_
    rintro e W2 ⟨Aw, capw, rfl, how, hb2⟩
    have hT2 : Hid (Tab W2) := Lib.hid (hT1.out.below hT1.out.pos hb2.out)
    have hb3 : Hid (Below w.heap.size w W2) := Lib.hid (hb1.out.trans (hb2.out.mono hb1.out.size))
    have hB2 : Hid (Bytes W2 W2.heap.size A l) := Lib.hid ((hB1.out.below hb2.out).more hb2.out.size)
    have hw2 : Hid (Bytes W2 W2.heap.size Aw l) := Lib.hid how.out.bytes
    have hwc : Hid (Aw = none → capw = 0) := Lib.hid how.out.none_cap
    have hwl : Hid (n ≤ capw) := Lib.hid how.out.cap_le
    clear hb1 hb2 hT1 hB1 how
    go_wp2_with fail
    refine (open_any A l n cap W2 hT2.out hB2.out HN.out hc (by omega)).mono ?_
    rintro e W3 ⟨hb3', ho⟩
    have hw3 : Hid (Bytes W3 W3.heap.size Aw l) := Lib.hid ((hw2.out.below hb3').more hb3'.size)
    have hbb := Lib.hid hb3'
    clear hb3'
    rcases ho with ⟨hs, rfl⟩ | ⟨hs, g, he, hg, hk3⟩
    · have HS := Lib.hid hs
      clear hs
      go_wp2_with fail
      refine (refOpen_any Aw l n capw W3 HN.out hwc.out hw3.out hwl.out (by omega)).mono ?_
      rintro e W4 ⟨hb4, ho4⟩
      have he4 : e = .returned (.tuple #[.slice none 0 0, .bool false]) := by
        rcases ho4 with ⟨_, he⟩ | ⟨hs, _⟩
        · exact he
        · rw [HS.out] at hs; cases hs
      subst he4
      have hb5 : Hid (Below W2.heap.size W2 W4) := Lib.hid (hbb.out.trans (hb4.out.mono hbb.out.size))
      clear ho4 hb4 hbb hw3
      go_wp2_with fail
      refine (same_true none none [] [] 0 0 0 0 W4.heap.size W4 rfl rfl bytes_none bytes_none rfl).mono ?_
      rintro e W5 ⟨rfl, rfl⟩
      go_wp2_with fail
      go_loop [8] (fun i => i = .int .i64 0) (fun _ => 0)
      case atStart => exact rfl
      case round =>
        obtain rfl := hrel
        have hB6 : Hid (Bytes W4 W4.heap.size A l) := Lib.hid ((hB2.out.below hb5.out).more hb5.out.size)
        have hw6 : Hid (Bytes W4 W4.heap.size Aw l) := Lib.hid ((hw2.out.below hb5.out).more hb5.out.size)
        have hT6 : Hid (Tab W4) := Lib.hid (hT2.out.below hT2.out.pos hb5.out)
        have hb6 : Hid (Below w.heap.size w W4) := Lib.hid (hb3.out.trans (hb5.out.mono hb3.out.size))
        go_wp2_with fail
        refine (same_true A Aw l l n n cap capw W4.heap.size W4 HN.out HN.out hB6.out hw6.out rfl).mono ?_
        rintro e W7 ⟨rfl, rfl⟩
        go_wp2_with fail
        refine (awake_any W4 hT6.out).mono ?_
        rintro e W8 ⟨rfl, hb8⟩
        have hb9 : Hid (Below w.heap.size w W8) := Lib.hid (hb6.out.trans (hb8.out.mono hb6.out.size))
        clear hb6 hb8
        go_wp2
        go_ret
        exact ⟨rfl, hb9⟩
    · have HS := Lib.hid hs
      clear hs
      obtain ⟨m, hm⟩ : ∃ m, m = n - 4 := ⟨_, rfl⟩
      rw [HN.out, ← hm] at he hk3
      subst he
      have hml : m ≤ 65536 := by omega
      have HM := Lib.hid hm
      have hg3 := Lib.hid hg
      have HK3 := Lib.hid hk3
      have LM := Lib.hid (show (l.take m).length = m by rw [List.length_take, HN.out]; omega)
      clear hm hg hk3
      go_wp2_with fail
      refine (refOpen_any Aw l n capw W3 HN.out hwc.out hw3.out hwl.out (by omega)).mono ?_
      rintro e W4 ⟨hb4, ho4⟩
      have he4 : ∃ A5 cap5, e = .returned (.tuple #[.slice A5 m cap5, .bool true]) ∧ Hid (Own8 W4 W3.heap.size A5 m cap5 (l.take m)) := by
        rcases ho4 with ⟨hs, _⟩ | ⟨_, A5, cap5, he, ho5⟩
        · rw [HS.out] at hs; cases hs
        · rw [← HM.out] at he ho5; exact ⟨A5, cap5, he, ho5⟩
      obtain ⟨A5, cap5, rfl, ho5⟩ := he4
      have hk4 : Hid (Blk8 W4 g (l.take m)) := Lib.hid (HK3.out.below hb4.out HK3.out.lt)
      have hb5 : Hid (Below W2.heap.size W2 W4) := Lib.hid (hbb.out.trans (hb4.out.mono hbb.out.size))
      clear ho4 hb4 hbb hw3 HK3
      go_wp2_with fail
      refine (same_true (some ⟨g, 0, none⟩) A5 (l.take m) (l.take m) m m m cap5 W4.heap.size W4 LM.out LM.out (hk4.out.all.more hk4.out.lt) ho5.out.bytes rfl).mono ?_
      rintro e W5 ⟨rfl, rfl⟩
      clear ho5
      go_wp2_with fail
      go_loopw [8] (fun i wr => UpRel W2 g m i wr) (fun i _ => m - (intOf i).toNat)
      case atStart => exact ⟨0, l.take m, by omega, rfl, LM, hk4, hb5⟩
      case round =>
        obtain ⟨k, L, hk, rfl, hL, hkb, hbw⟩ := hrel
        by_cases hlt : k < m
        · have hcell := hkb.out.cell (k := k) (by rw [hL.out]; exact hlt)
          have hfz := hkb.out.frozen k
          have hx := at8_lt L k
          have C1 := Lib.hid (hkb.out.set_ k (UInt8.ofNat (at8 L k + 1)))
          have C2 := Lib.hid (hbw.out.setCell (p := ⟨g, k, none⟩) hg3.out (.int .u8 (((UInt8.ofNat (at8 L k + 1)).toNat : Nat) : Int)))
          generalize at8 L k = x at hcell hx C1 C2
          have e1 := up_u8 x
          generalize UInt8.ofNat (x + 1) = y at e1 C1 C2
          go_wp2
          go_roundw
          case rel => exact ⟨k + 1, L.set k y, by omega, by go_num, Lib.hid (by rw [List.length_set]; exact hL.out), C1, C2⟩
          case measure => simp [intOf]; omega
        · obtain rfl : k = m := by omega
          have hB6 : Hid (Bytes wr wr.heap.size A l) := Lib.hid ((hB2.out.below hbw.out).more hbw.out.size)
          have hw6 : Hid (Bytes wr wr.heap.size Aw l) := Lib.hid ((hw2.out.below hbw.out).more hbw.out.size)
          have hT6 : Hid (Tab wr) := Lib.hid (hT2.out.below hT2.out.pos hbw.out)
          have hb6 : Hid (Below w.heap.size w wr) := Lib.hid (hb3.out.trans (hbw.out.mono hb3.out.size))
          go_wp2_with fail
          refine (same_true A Aw l l n n cap capw wr.heap.size wr HN.out HN.out hB6.out hw6.out rfl).mono ?_
          rintro e W7 ⟨rfl, rfl⟩
          go_wp2_with fail
          refine (awake_any wr hT6.out).mono ?_
          rintro e W8 ⟨rfl, hb8⟩
          have hb9 : Hid (Below w.heap.size w W8) := Lib.hid (hb6.out.trans (hb8.out.mono hb6.out.size))
          clear hb6 hb8
          go_wp2
          go_ret
          exact ⟨rfl, hb9⟩
end Go.Proofs.YthobaicphdhflaaDoor
