/-
  The statement SumSpoilt: a sealed text of which one, two or three bits are turned is opened no more. No condition but the row's own: the package's table lies as the program's text lays it.
-/
import Derived.Test.YthobaicphdhflaaDoorBack
import Derived.Test.YthobaicphdhflaaDoorTurn
namespace Go.Proofs.YthobaicphdhflaaDoor
open Go.RowKit

theorem ints_far {w2 w3 : World} {A : Option Addr} {js : List Int} {g : Nat} (h : IntsIn w2 A js) (hb : Below w2.heap.size w2 w3) (hg : w2.heap.size ≤ g) : Ints w3 g A js := fun hn => by
  obtain ⟨b, off, e, hlt, hc⟩ := h hn
  exact ⟨b, off, e, by omega, fun k hk => (hb.cell (p := ⟨b, off + k, none⟩) hlt).trans (hc k hk)⟩
theorem nodup_toNat : ∀ {js : List Int}, (∀ j ∈ js, 0 ≤ j) → js.Nodup → (js.map Int.toNat).Nodup
  | [], _, _ => by simp
  | j :: r, h, hn => by
    rw [List.nodup_cons] at hn
    rw [List.map_cons, List.nodup_cons]
    refine ⟨fun hm => ?_, nodup_toNat (fun k hk => h k (by simp [hk])) hn.2⟩
    obtain ⟨k, hk, he⟩ := List.mem_map.1 hm
    have h1 := h j (by simp)
    have h2 := h k (by simp [hk])
    exact hn.1 (by rwa [show j = k by omega])
theorem toNat_lt {js : List Int} {m : Nat} (h : Good m js) : ∀ j ∈ js.map Int.toNat, j < 8 * m := by
  intro j hj
  obtain ⟨k, hk, rfl⟩ := List.mem_map.1 hj
  have := h.1 k hk
  omega
theorem few_spoilt {l : List UInt8} {js : List Int} {n : Nat} (hn : l.length = n) (hle : n ≤ 65536) (h1 : 1 ≤ js.length) (h3 : js.length ≤ 3) (h : Good (n + 4) js) : Crc.sealed (Crc.flips (Crc.seal_ l) (js.map Int.toNat)) = false := by
  subst hn
  apply Crc.spoilt _ _ (toNat_lt h)
  exact Crc.few_seen (by unfold Crc.period; omega) (by simpa using h1) (by simpa using h3) (toNat_lt h) (nodup_toNat (fun j hj => (h.1 j hj).1) h.2)
/-- What is spoilt is not opened. -/
theorem open_spoilt (g : Nat) (L : List UInt8) (m cap : Nat) (w : World) (ht : Tab w) (hb : Blk8 w g L) (hn : L.length = m) (hc : m ≤ cap) (hl : m ≤ 1048576) (hs : Crc.sealed L = false) :
    Calls Tryd.prog 19 #[.slice (some ⟨g, 0, none⟩) m cap] w fun e w' => e = .returned (.tuple #[.slice none 0 0, .bool false]) ∧ Hid (Below w.heap.size w w') := by
  refine (open_any (some ⟨g, 0, none⟩) L m cap w ht (hb.all.more hb.lt) hn hc (by omega)).mono ?_
  rintro e w' ⟨hw, ⟨_, he⟩ | ⟨h, _⟩⟩
  · exact ⟨he, hw⟩
  · rw [hs] at h; cases h

set_option maxHeartbeats 1600000 in
theorem spoilt_walk (A : Option Addr) (l : List UInt8) (cap : Nat) (A' : Option Addr) (js : List Int) (cap' : Nat) (w : World) (ht : Tab w) (hb : Bytes w w.heap.size A l) (hc : l.length ≤ cap) (hr : cap ≤ 140737488351232) (hj : IntsIn w A' js) (hjm : js.length ≤ maxLen) :
    Calls Tryd.prog 8 #[.slice A l.length cap, .slice A' js.length cap'] w fun e w' => e = .returned (.bool true) ∧ Hid (Below w.heap.size w w') := by
  have HT := Lib.hid ht
  have HB := Lib.hid hb
  have HJ := Lib.hid hj
  unfold maxLen at hjm
  clear ht hb hj
  generalize hn : l.length = n at hc ⊢
  generalize hk : js.length = k at hjm ⊢
  have HN := Lib.hid hn
  have HK := Lib.hid hk
  clear hn hk
  go_enter Tryd.func8, Tryd.ntmps8
  go_wp2_with fail
  refine (long_one A l n cap w HN.out HB.out (by omega)).mono ?_
  rintro e W1 ⟨rfl, hW⟩
  have hT1 : Hid (Tab W1) := by rw [← hW]; exact HT.out.alloc _
  have hb1 : Hid (Below w.heap.size w W1) := by rw [← hW]; exact (Below.refl _ _).alloc (Nat.le_refl _) _
  clear hW
  by_cases hok : n ≤ 65532 ∧ 1 ≤ k ∧ k ≤ 3
  · obtain ⟨o1, o2, o3⟩ := hok
    have hd : decide (65536 < n) = false := decide_eq_false (by omega)
    have q1 : ¬ (65532 : Int) < (n : Int) := by omega
    have q2 : ¬ (k : Int) < 1 := by omega
    have q3 : ¬ (3 : Int) < (k : Int) := by omega
    have hB1 : Hid (Bytes W1 W1.heap.size A l) := Lib.hid ((HB.out.below hb1.out).more hb1.out.size)
    have hJ1 : Hid (IntsIn W1 A' js) := Lib.hid (HJ.out.below hb1.out)
    go_wp2_with fail
    refine (seal_n A l n cap W1 hT1.out hB1.out HN.out (by omega)).mono ?_
    rintro e W2 ⟨g, rfl, hg, hk2, hb2⟩
    have hT2 : Hid (Tab W2) := Lib.hid (hT1.out.below hT1.out.pos hb2.out)
    have hJ2 : Hid (Ints W2 g A' js) := Lib.hid (ints_far hJ1.out hb2.out hg)
    have HG := Lib.hid hg
    have L4 := Lib.hid (show (Crc.seal_ l).length = n + 4 by rw [Crc.seal_length, HN.out])
    clear hg hB1 hJ1
    go_wp2_with fail
    refine (turn_any g (n + 4) (Crc.seal_ l) A' js k (n + 4) cap' W2 L4.out (by omega) hk2.out HK.out (by unfold maxLen; omega) hJ2.out).mono ?_
    rintro e W3 ⟨hgr, hres⟩
    have hb3 : Hid (Below W1.heap.size W1 W3) := Lib.hid (hb2.out.grown hgr hb2.out.size (fun j hj => by injection hj with hj; rw [← hj]; exact HG.out))
    have hb4 : Hid (Below w.heap.size w W3) := Lib.hid (hb1.out.trans (hb3.out.mono hb1.out.size))
    have hT3 : Hid (Tab W3) := Lib.hid (hT1.out.below hT1.out.pos hb3.out)
    clear hgr hb2 hb3 hb1 hT1 hT2 hJ2 hk2
    rcases hres with rfl | ⟨rfl, hgood, hk3⟩
    · go_wp2_with fail
      refine (awake_any W3 hT3.out).mono ?_
      rintro e W4 ⟨rfl, hb5⟩
      have hb6 : Hid (Below w.heap.size w W4) := Lib.hid (hb4.out.trans (hb5.out.mono hb4.out.size))
      clear hb4 hb5
      go_wp2
      go_ret
      exact ⟨rfl, hb6⟩
    · have HS := Lib.hid (few_spoilt HN.out (by omega) (by rw [HK.out]; exact o2) (by rw [HK.out]; exact o3) hgood)
      have HK3 := Lib.hid hk3
      have L5 := Lib.hid (show (Crc.flips (Crc.seal_ l) (js.map Int.toNat)).length = n + 4 by rw [Crc.flips_length, L4.out])
      clear hgood hk3
      go_wp2_with fail
      refine (open_spoilt g _ (n + 4) (n + 4) W3 hT3.out HK3.out L5.out (Nat.le_refl _) (by omega) HS.out).mono ?_
      rintro e W4 ⟨rfl, hb5⟩
      have hb6 : Hid (Below w.heap.size w W4) := Lib.hid (hb4.out.trans (hb5.out.mono hb4.out.size))
      have hT4 : Hid (Tab W4) := Lib.hid (hT3.out.below hT3.out.pos hb5.out)
      clear hb4 hb5
      go_wp2_with fail
      refine (awake_any W4 hT4.out).mono ?_
      rintro e W5 ⟨rfl, hb7⟩
      have hb8 : Hid (Below w.heap.size w W5) := Lib.hid (hb6.out.trans (hb7.out.mono hb6.out.size))
      clear hb6 hb7
      go_wp2
      go_ret
      exact ⟨rfl, hb8⟩
  · by_cases hlong : 65536 < n
    · have hd : decide (65536 < n) = true := decide_eq_true hlong
      go_wp2_with fail
      refine (awake_any W1 hT1.out).mono ?_
      rintro e W2 ⟨rfl, hb2⟩
      have hb3 : Hid (Below w.heap.size w W2) := Lib.hid (hb1.out.trans (hb2.out.mono hb1.out.size))
      clear hb1 hb2
      go_wp2
      go_ret
      exact ⟨rfl, hb3⟩
    · have hd : decide (65536 < n) = false := decide_eq_false hlong
      by_cases c1 : 65532 < n
      · have q1 : (65532 : Int) < (n : Int) := by omega
        go_wp2_with fail
        refine (awake_any W1 hT1.out).mono ?_
        rintro e W2 ⟨rfl, hb2⟩
        have hb3 : Hid (Below w.heap.size w W2) := Lib.hid (hb1.out.trans (hb2.out.mono hb1.out.size))
        clear hb1 hb2
        go_wp2
        go_ret
        exact ⟨rfl, hb3⟩
      · have q1 : ¬ (65532 : Int) < (n : Int) := by omega
        by_cases c2 : k < 1
        · have q2 : (k : Int) < 1 := by omega
          go_wp2_with fail
          refine (awake_any W1 hT1.out).mono ?_
          rintro e W2 ⟨rfl, hb2⟩
          have hb3 : Hid (Below w.heap.size w W2) := Lib.hid (hb1.out.trans (hb2.out.mono hb1.out.size))
          clear hb1 hb2
          go_wp2
          go_ret
          exact ⟨rfl, hb3⟩
        · have q2 : ¬ (k : Int) < 1 := by omega
          have q3 : (3 : Int) < (k : Int) := by omega
          go_wp2_with fail
          refine (awake_any W1 hT1.out).mono ?_
          rintro e W2 ⟨rfl, hb2⟩
          have hb3 : Hid (Below w.heap.size w W2) := Lib.hid (hb1.out.trans (hb2.out.mono hb1.out.size))
          clear hb1 hb2
          go_wp2
          go_ret
          exact ⟨rfl, hb3⟩
end Go.Proofs.YthobaicphdhflaaDoor
