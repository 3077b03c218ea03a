/-
  Whether two senders are the same, by the document's answer. For at most 2^40 bodies.
-/
import Derived.Test.YtmkkhknbokfciaaQset
namespace Go.Proofs.Ytmkkhknbokfciaa
set_option maxRecDepth 20000
open Go.RowKit

theorem ext_bodK {ls ms : List (List UInt8)} (hl : ls.length = ms.length) (h : ∀ j, j < ls.length → bodK ls j = bodK ms j) : ls = ms := by
  apply List.ext_getElem hl
  intro i h1 h2
  have := h i h1
  simpa [bodK, List.getD, List.getElem?_eq_getElem h1, List.getElem?_eq_getElem h2] using this
theorem str_eq7 (l m : List UInt8) : ((⟨l.toArray⟩ : ByteArray).toList == (⟨m.toArray⟩ : ByteArray).toList) = decide (l = m) := by
  rw [ByteArray.toList_eq, ByteArray.toList_eq, Bool.eq_iff_iff]
  simp
theorem bne_of {a b : List UInt8} {x : Bool} (h : (a == b) = x) : (a != b) = !x := by
  unfold bne
  rw [h]
set_option maxHeartbeats 4000000 in
theorem same7_any (b1 b2 : Nat) (A1 A2 : Option Addr) (n1 c1 n2 c2 : Nat) (ls ms : List (List UInt8)) (w : World) (hr : n1 ≤ 1099511627776) (hl : ls.length = n1) (hm : ms.length = n2) (hi : Rws w w.heap.size A1 ls) (hj : Rws w w.heap.size A2 ms) :
    Calls Try.prog 15 #[.agg #[.int .u64 (b1 : Int), .slice A1 n1 c1], .agg #[.int .u64 (b2 : Int), .slice A2 n2 c2]] w fun e w' => e = .returned (.bool (decide (b1 = b2 ∧ ls = ms))) ∧ Hid (Below w.heap.size w w') := by
  have X1 := Lib.hid (sbox_new w (b1 : Int) A1 n1 c1 25)
  have bb1 := qbox w (.cells #[.int .u64 (b1 : Int), .slice A1 n1 c1] 25)
  have Y1 := sbox_new (w.alloc (.cells #[.int .u64 (b1 : Int), .slice A1 n1 c1] 25)) (b2 : Int) A2 n2 c2 25
  have bb2 := qbox (w.alloc (.cells #[.int .u64 (b1 : Int), .slice A1 n1 c1] 25)) (.cells #[.int .u64 (b2 : Int), .slice A2 n2 c2] 25)
  have es : (w.alloc (.cells #[.int .u64 (b1 : Int), .slice A1 n1 c1] 25)).heap.size = w.heap.size + 1 := by simp
  rw [es] at Y1
  have X2 := Lib.hid (X1.out.below bb2)
  have B2 := Lib.hid (qtr bb1 bb2)
  have I2 := Lib.hid (hi.below B2.out)
  have J2 := Lib.hid (hj.below B2.out)
  have HL := Lib.hid hl
  have HM := Lib.hid hm
  generalize hd : decide (b1 = b2 ∧ ls = ms) = r
  have HD := Lib.hid hd
  clear hd X1 bb1 bb2 es hl hm hi hj
  go_enter Try.func15, Try.ntmps15
  obtain ⟨k0, k1⟩ := X2.out
  obtain ⟨j0, j1⟩ := Y1
  by_cases h1 : b1 = b2
  · have g1 : ((b1 : Int) == (b2 : Int)) = true := by simp [h1]
    have g1' : ((b1 : Int) != (b2 : Int)) = false := by simp [h1]
    by_cases h2 : n1 = n2
    · have g2 : ((n1 : Int) == (n2 : Int)) = true := by simp [h2]
      have g2' : ((n1 : Int) != (n2 : Int)) = false := by simp [h2]
      have HE := Lib.hid (And.intro h1 h2)
      clear h1 h2
      go_wp2_with fail
      generalize (w.alloc (.cells #[.int .u64 (b1 : Int), .slice A1 n1 c1] 25)).alloc (.cells #[.int .u64 (b2 : Int), .slice A2 n2 c2] 25) = W1 at *
      go_loopw [5] (fun i wr => ∃ k, k ≤ n1 ∧ i = .int .i64 (k : Nat) ∧ Hid (Below W1.heap.size W1 wr) ∧ Hid (∀ j, j < k → bodK ls j = bodK ms j)) (fun i _ => n1 - (intOf i).toNat)
      case atStart => exact ⟨0, Nat.zero_le _, rfl, Lib.hid (Below.refl _ _), Lib.hid (fun j hj => absurd hj (by omega))⟩
      case round =>
        obtain ⟨k, hk, rfl, HW, HO⟩ := hrel
        have q1 := qold k1 HW.out
        have p1 := qold j1 HW.out
        by_cases hlt : k < n1
        · have g5 : (k : Int) < (n1 : Int) := by omega
          have hn12 := HE.out.2
          have g6 : (k : Int) < (n2 : Int) := by omega
          clear hn12
          obtain ⟨bb, off, rfl, hbl, hc⟩ := I2.out (by rw [HL.out]; omega)
          obtain ⟨A', c', hcell, hn', hby⟩ := hc k (by rw [HL.out]; exact hlt)
          obtain ⟨bb2, off2, rfl, hbl2, hc2⟩ := J2.out (by rw [HM.out]; have := HE.out.2; omega)
          obtain ⟨A'', c'', hcell2, hn2', hby2⟩ := hc2 k (by rw [HM.out]; have := HE.out.2; omega)
          have s1 := qold hcell HW.out
          have s2 := qold hcell2 HW.out
          have cs1 := fun i => conv_str (w := wr.drewN i) c' (Bytes.drewN ((hby.more B2.out.size).below HW.out) i) rfl
          have cs2 := fun i => conv_str (w := wr.drewN i) c'' (Bytes.drewN ((hby2.more B2.out.size).below HW.out) i) rfl
          have HN := Lib.hid (show ∀ (x : Bool), decide (bodK ls k = bodK ms k) = x → (((⟨(bodK ls k).toArray⟩ : ByteArray).toList == (⟨(bodK ms k).toArray⟩ : ByteArray).toList) = x) from fun x h => by rw [str_eq7]; exact h)
          clear hbl hc hcell hn' hby hbl2 hc2 hcell2 hn2' hby2
          by_cases hq : bodK ls k = bodK ms k
          · have hO2 := Lib.hid (show ∀ j, j < k + 1 → bodK ls j = bodK ms j from fun j hj => by
              rcases Nat.lt_or_ge j k with h | h
              · exact HO.out j h
              · obtain rfl : j = k := by omega
                exact hq)
            have gq := HN.out true (decide_eq_true hq)
            have gq' := bne_of gq
            clear hq HO HD HN
            generalize (bodK ls k).length = m1 at *
            generalize (bodK ms k).length = m2 at *
            generalize (⟨(bodK ls k).toArray⟩ : ByteArray) = t1 at *
            generalize (⟨(bodK ms k).toArray⟩ : ByteArray) = t2 at *
            go_wp2_with fail
            go_quiet (fail)
            go_wp2
            go_roundw
            case rel => exact ⟨k + 1, by omega, by go_num, Lib.hid (undrewN _ HW.out), hO2⟩
            case measure => simp [intOf]; omega
          · have hr : r = false := by rw [← HD.out]; exact decide_eq_false (fun h => hq (by rw [h.2]))
            have gq := HN.out false (decide_eq_false hq)
            have gq' := bne_of gq
            subst hr
            clear hq HD HO HN
            generalize (bodK ls k).length = m1 at *
            generalize (bodK ms k).length = m2 at *
            generalize (⟨(bodK ls k).toArray⟩ : ByteArray) = t1 at *
            generalize (⟨(bodK ms k).toArray⟩ : ByteArray) = t2 at *
            go_wp2_with fail
            go_quiet (fail)
            go_wp2
            go_ret
            exact ⟨rfl, Lib.hid (qtr B2.out (undrewN _ HW.out))⟩
        · obtain rfl : k = n1 := by omega
          have g5 : ¬ (k : Int) < (k : Int) := by omega
          have hr : r = true := by rw [← HD.out]; exact decide_eq_true ⟨HE.out.1, ext_bodK (by rw [HL.out, HM.out]; exact HE.out.2) (by rw [HL.out]; exact HO.out)⟩
          subst hr
          clear HD HE
          go_wp2
          go_ret
          exact ⟨rfl, Lib.hid (qtr B2.out HW.out)⟩
    · have g2 : ((n1 : Int) == (n2 : Int)) = false := by rw [beq_eq_false_iff_ne]; omega
      have g2' : ((n1 : Int) != (n2 : Int)) = true := by rw [bne_iff_ne]; omega
      have hr : r = false := by rw [← HD.out]; exact decide_eq_false (fun h => h2 (by rw [← HL.out, ← HM.out, h.2]))
      subst hr
      clear HD h1 h2
      go_wp2
      go_ret
      exact ⟨rfl, B2⟩
  · have g1 : ((b1 : Int) == (b2 : Int)) = false := by rw [beq_eq_false_iff_ne]; omega
    have g1' : ((b1 : Int) != (b2 : Int)) = true := by rw [bne_iff_ne]; omega
    have hr : r = false := by rw [← HD.out]; exact decide_eq_false (fun h => h1 h.1)
    subst hr
    clear HD h1
    go_wp2
    go_ret
    exact ⟨rfl, B2⟩
end Go.Proofs.Ytmkkhknbokfciaa
