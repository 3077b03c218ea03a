/-
  Whether a frame may be, by frame's May. For frames whose numbers are not below 0.
-/
import Derived.Test.YtelbhlkojpnmgaaDoorFnum
namespace Go.Proofs.YtelbhlkojpnmgaaDoor
set_option maxRecDepth 20000
open Go.RowKit

theorem fnode_any (n : Int) (w : World) : Calls Tryd.prog 41 #[.int .i64 n] w fun e w' => e = .returned (.bool (decide (nodeF n))) ∧ w = w' := by
  generalize hr : decide (nodeF n) = r
  have HD := Lib.hid hr
  clear hr
  by_cases h1 : 1 ≤ n
  · by_cases h2 : n ≤ 10
    · have : r = true := by rw [← HD.out]; exact decide_eq_true ⟨h1, h2⟩
      subst this
      go_enter Tryd.func41, Tryd.ntmps41
      go_wp2
      go_ret
      exact ⟨rfl, rfl⟩
    · have : r = false := by rw [← HD.out]; exact decide_eq_false (fun h => h2 h.2)
      subst this
      have h3 : decide (n ≤ 10) = false := decide_eq_false h2
      go_enter Tryd.func41, Tryd.ntmps41
      go_wp2
      go_ret
      exact ⟨by first | rfl | exact congrArg (fun b => Ending.returned (.bool b)) h3, rfl⟩
  · have : r = false := by rw [← HD.out]; exact decide_eq_false (fun h => h1 h.1)
    subst this
    have h3 : decide (1 ≤ n) = false := decide_eq_false h1
    go_enter Tryd.func41, Tryd.ntmps41
    go_wp2
    go_ret
    exact ⟨by first | rfl | exact congrArg (fun b => Ending.returned (.bool b)) h3, rfl⟩
set_option maxHeartbeats 2000000 in
theorem between_int (k s t i c p q a e : Int) (A : Option Addr) (n cap : Nat) (w : World) :
    Calls Tryd.prog 19 #[.agg #[.int .i64 k, .int .i64 s, .int .i64 t, .int .u64 i, .int .u64 c, .int .u64 p, .int .u64 q, .int .u64 a, .int .u64 e, .slice A n cap]] w fun en w' => en = .returned (.bool (decide (1 ≤ s ∧ s ≤ 10 ∧ 1 ≤ t ∧ t ≤ 10 ∧ s ≠ t))) ∧ Hid (Below w.heap.size w w') := by
  have HB := Lib.hid (fbox_new w k s t i c p q a e A n cap 25)
  have BW := Lib.hid (fbelow_box w (.cells #[.int .i64 k, .int .i64 s, .int .i64 t, .int .u64 i, .int .u64 c, .int .u64 p, .int .u64 q, .int .u64 a, .int .u64 e, .slice A n cap] 25))
  generalize hr : decide (1 ≤ s ∧ s ≤ 10 ∧ 1 ≤ t ∧ t ≤ 10 ∧ s ≠ t) = r
  have HD := Lib.hid hr
  clear hr
  go_enter Tryd.func19, Tryd.ntmps19
  obtain ⟨k0, k1, k2, k3, k4, k5, k6, k7, k8, k9⟩ := HB.out
  go_wp2_with fail
  generalize w.alloc (.cells #[.int .i64 k, .int .i64 s, .int .i64 t, .int .u64 i, .int .u64 c, .int .u64 p, .int .u64 q, .int .u64 a, .int .u64 e, .slice A n cap] 25) = W1 at *
  generalize hb : w.heap.size = b at k0 k1 k2 k3 k4 k5 k6 k7 k8 k9 HB ⊢
  have HBB := Lib.hid hb
  clear hb
  refine (fnode_any s _).mono ?_
  rintro e w1 ⟨rfl, rfl⟩
  by_cases hs : nodeF s
  · rw [decide_eq_true hs]
    unfold nodeF at hs
    go_wp2_with fail
    refine (fnode_any t _).mono ?_
    rintro e w1 ⟨rfl, rfl⟩
    by_cases ht : nodeF t
    · rw [decide_eq_true ht]
      unfold nodeF at ht
      by_cases hst : s = t
      · have hstb : (s == t) = true := by simp [hst]
        have hstc : (s != t) = false := by simp [hst]
        have : r = false := by rw [← HD.out]; exact decide_eq_false (by omega)
        subst this
        clear HD
        go_wp2
        go_ret
        exact ⟨by first | rfl | (simp; omega) | simp_all, BW⟩
      · have hstb : (s == t) = false := by rw [beq_eq_false_iff_ne]; exact hst
        have hstc : (s != t) = true := by rw [bne_iff_ne]; exact hst
        have : r = true := by rw [← HD.out]; exact decide_eq_true (by omega)
        subst this
        clear HD
        go_wp2
        go_ret
        exact ⟨by first | rfl | (simp; omega) | simp_all, BW⟩
    · rw [decide_eq_false ht]
      unfold nodeF at ht
      have : r = false := by rw [← HD.out]; exact decide_eq_false (by omega)
      subst this
      clear HD
      go_wp2
      go_ret
      exact ⟨by first | rfl | (simp; omega) | simp_all, BW⟩
  · rw [decide_eq_false hs]
    unfold nodeF at hs
    have : r = false := by rw [← HD.out]; exact decide_eq_false (by omega)
    subst this
    clear HD
    go_wp2
    go_ret
    exact ⟨by first | rfl | (simp; omega) | simp_all, BW⟩
set_option maxHeartbeats 2000000 in
theorem heard_int (k s t i c p q a e : Int) (A : Option Addr) (n cap : Nat) (w : World) (hq0 : 0 ≤ q) :
    Calls Tryd.prog 21 #[.agg #[.int .i64 k, .int .i64 s, .int .i64 t, .int .u64 i, .int .u64 c, .int .u64 p, .int .u64 q, .int .u64 a, .int .u64 e, .slice A n cap]] w fun en w' => en = .returned (.bool (decide ((p = 0 ∧ q = 0 ∧ a = 0) ∨ (p ≠ 0 ∧ q ≠ 0)))) ∧ Hid (Below w.heap.size w w') := by
  have HB := Lib.hid (fbox_new w k s t i c p q a e A n cap 25)
  have BW := Lib.hid (fbelow_box w (.cells #[.int .i64 k, .int .i64 s, .int .i64 t, .int .u64 i, .int .u64 c, .int .u64 p, .int .u64 q, .int .u64 a, .int .u64 e, .slice A n cap] 25))
  generalize hr : decide ((p = 0 ∧ q = 0 ∧ a = 0) ∨ (p ≠ 0 ∧ q ≠ 0)) = r
  have HD := Lib.hid hr
  clear hr
  go_enter Tryd.func21, Tryd.ntmps21
  obtain ⟨k0, k1, k2, k3, k4, k5, k6, k7, k8, k9⟩ := HB.out
  by_cases hp : p = 0
  · have hpb : (p == 0) = true := by simp [hp]
    have hpc : (p != 0) = false := by simp [hp]
    have H_hp := Lib.hid hp
    clear hp
    by_cases hq : q = 0
    · have hqb : (q == 0) = true := by simp [hq]
      have hqc : (q != 0) = false := by simp [hq]
      have H_hq := Lib.hid hq
      clear hq
      by_cases ha : a = 0
      · have hab : (a == 0) = true := by simp [ha]
        have hac : (a != 0) = false := by simp [ha]
        have H_ha := Lib.hid ha
        clear ha
        have : r = true := by rw [← HD.out]; exact decide_eq_true (by have := H_hp.out; have := H_hq.out; have := H_ha.out; omega)
        subst this
        clear HD
        go_wp2
        go_ret
        exact ⟨by first | rfl | (simp; omega) | simp_all, BW⟩
      · have hab : (a == 0) = false := by rw [beq_eq_false_iff_ne]; exact ha
        have hac : (a != 0) = true := by rw [bne_iff_ne]; exact ha
        have H_ha := Lib.hid ha
        clear ha
        have : r = false := by rw [← HD.out]; exact decide_eq_false (by have := H_hp.out; have := H_hq.out; have := H_ha.out; omega)
        subst this
        clear HD
        go_wp2
        go_ret
        exact ⟨by first | rfl | (simp; omega) | simp_all, BW⟩
    · have hqb : (q == 0) = false := by rw [beq_eq_false_iff_ne]; exact hq
      have hqc : (q != 0) = true := by rw [bne_iff_ne]; exact hq
      have H_hq := Lib.hid hq
      clear hq
      have : r = false := by rw [← HD.out]; exact decide_eq_false (by have := H_hp.out; have := H_hq.out; omega)
      subst this
      clear HD
      go_wp2
      go_ret
      exact ⟨by first | rfl | (simp; omega) | simp_all, BW⟩
  · have hpb : (p == 0) = false := by rw [beq_eq_false_iff_ne]; exact hp
    have hpc : (p != 0) = true := by rw [bne_iff_ne]; exact hp
    have H_hp := Lib.hid hp
    clear hp
    by_cases hq : 0 < q
    · have hqb : decide (0 < q) = true := decide_eq_true hq
      have : r = true := by rw [← HD.out]; exact decide_eq_true (by have := H_hp.out; omega)
      subst this
      clear HD
      go_wp2
      go_ret
      exact ⟨by first | rfl | (simp; omega) | simp_all, BW⟩
    · have hqb : decide (0 < q) = false := decide_eq_false hq
      have : r = false := by rw [← HD.out]; exact decide_eq_false (by have := H_hp.out; omega)
      subst this
      clear HD
      go_wp2
      go_ret
      exact ⟨by first | rfl | (simp; omega) | simp_all, BW⟩
set_option maxHeartbeats 2000000 in
theorem filled_int (k s t i c p q a e : Int) (A : Option Addr) (n cap : Nat) (w : World) (hp0 : 0 ≤ p) (he0 : 0 ≤ e) :
    Calls Tryd.prog 22 #[.agg #[.int .i64 k, .int .i64 s, .int .i64 t, .int .u64 i, .int .u64 c, .int .u64 p, .int .u64 q, .int .u64 a, .int .u64 e, .slice A n cap]] w fun en w' => en = .returned (.bool (decide ((k = 1 ∧ e = 0 ∧ n = 0) ∨ (k = 2 ∧ p ≠ 0 ∧ e ≠ 0 ∧ 1 ≤ n ∧ n ≤ 448)))) ∧ Hid (Below w.heap.size w w') := by
  have HB := Lib.hid (fbox_new w k s t i c p q a e A n cap 25)
  have BW := Lib.hid (fbelow_box w (.cells #[.int .i64 k, .int .i64 s, .int .i64 t, .int .u64 i, .int .u64 c, .int .u64 p, .int .u64 q, .int .u64 a, .int .u64 e, .slice A n cap] 25))
  generalize hr : decide ((k = 1 ∧ e = 0 ∧ n = 0) ∨ (k = 2 ∧ p ≠ 0 ∧ e ≠ 0 ∧ 1 ≤ n ∧ n ≤ 448)) = r
  have HD := Lib.hid hr
  clear hr
  go_enter Tryd.func22, Tryd.ntmps22
  obtain ⟨k0, k1, k2, k3, k4, k5, k6, k7, k8, k9⟩ := HB.out
  by_cases hk : k = 1
  · have hkb : (k == 1) = true := by simp [hk]
    have hkc : (k != 1) = false := by simp [hk]
    have H_hk := Lib.hid hk
    clear hk
    by_cases he : e = 0
    · have heb : (e == 0) = true := by simp [he]
      have hec : (e != 0) = false := by simp [he]
      have H_he := Lib.hid he
      clear he
      by_cases hz : (n : Int) = 0
      · have hzb : ((n : Int) == 0) = true := by simp [hz]
        have hzc : ((n : Int) != 0) = false := by simp [hz]
        have H_hz := Lib.hid hz
        clear hz
        have : r = true := by rw [← HD.out]; exact decide_eq_true (by have := H_hk.out; have := H_he.out; have := H_hz.out; omega)
        subst this
        clear HD
        go_wp2
        go_ret
        exact ⟨by first | rfl | (simp; omega) | simp_all, BW⟩
      · have hzb : ((n : Int) == 0) = false := by rw [beq_eq_false_iff_ne]; exact hz
        have hzc : ((n : Int) != 0) = true := by rw [bne_iff_ne]; exact hz
        have H_hz := Lib.hid hz
        clear hz
        have : r = false := by rw [← HD.out]; exact decide_eq_false (by have := H_hk.out; have := H_he.out; have := H_hz.out; omega)
        subst this
        clear HD
        go_wp2
        go_ret
        exact ⟨by first | rfl | (simp; omega) | simp_all, BW⟩
    · have heb : (e == 0) = false := by rw [beq_eq_false_iff_ne]; exact he
      have hec : (e != 0) = true := by rw [bne_iff_ne]; exact he
      have H_he := Lib.hid he
      clear he
      have : r = false := by rw [← HD.out]; exact decide_eq_false (by have := H_hk.out; have := H_he.out; omega)
      subst this
      clear HD
      go_wp2
      go_ret
      exact ⟨by first | rfl | (simp; omega) | simp_all, BW⟩
  · have hkb : (k == 1) = false := by rw [beq_eq_false_iff_ne]; exact hk
    have hkc : (k != 1) = true := by rw [bne_iff_ne]; exact hk
    have H_hk := Lib.hid hk
    clear hk
    by_cases hk2 : k = 2
    · have hk2b : (k == 2) = true := by simp [hk2]
      have hk2c : (k != 2) = false := by simp [hk2]
      have H_hk2 := Lib.hid hk2
      clear hk2
      by_cases he : 0 < e
      · have heb : decide (0 < e) = true := decide_eq_true he
        by_cases hp : 0 < p
        · have hpb : decide (0 < p) = true := decide_eq_true hp
          by_cases hl : 1 ≤ (n : Int)
          · have hlb : decide (1 ≤ (n : Int)) = true := decide_eq_true hl
            by_cases hm : (n : Int) ≤ 448
            · have hmb : decide ((n : Int) ≤ 448) = true := decide_eq_true hm
              have : r = true := by rw [← HD.out]; exact decide_eq_true (by have := H_hk.out; have := H_hk2.out; omega)
              subst this
              clear HD
              go_wp2
              go_ret
              exact ⟨by first | rfl | (simp; omega) | simp_all, BW⟩
            · have hmb : decide ((n : Int) ≤ 448) = false := decide_eq_false hm
              have : r = false := by rw [← HD.out]; exact decide_eq_false (by have := H_hk.out; have := H_hk2.out; omega)
              subst this
              clear HD
              go_wp2
              go_ret
              exact ⟨by first | rfl | (simp; omega) | simp_all, BW⟩
          · have hlb : decide (1 ≤ (n : Int)) = false := decide_eq_false hl
            have : r = false := by rw [← HD.out]; exact decide_eq_false (by have := H_hk.out; have := H_hk2.out; omega)
            subst this
            clear HD
            go_wp2
            go_ret
            exact ⟨by first | rfl | (simp; omega) | simp_all, BW⟩
        · have hpb : decide (0 < p) = false := decide_eq_false hp
          have : r = false := by rw [← HD.out]; exact decide_eq_false (by have := H_hk.out; have := H_hk2.out; omega)
          subst this
          clear HD
          go_wp2
          go_ret
          exact ⟨by first | rfl | (simp; omega) | simp_all, BW⟩
      · have heb : decide (0 < e) = false := decide_eq_false he
        have : r = false := by rw [← HD.out]; exact decide_eq_false (by have := H_hk.out; have := H_hk2.out; omega)
        subst this
        clear HD
        go_wp2
        go_ret
        exact ⟨by first | rfl | (simp; omega) | simp_all, BW⟩
    · have hk2b : (k == 2) = false := by rw [beq_eq_false_iff_ne]; exact hk2
      have hk2c : (k != 2) = true := by rw [bne_iff_ne]; exact hk2
      have H_hk2 := Lib.hid hk2
      clear hk2
      have : r = false := by rw [← HD.out]; exact decide_eq_false (by have := H_hk.out; have := H_hk2.out; omega)
      subst this
      clear HD
      go_wp2
      go_ret
      exact ⟨by first | rfl | (simp; omega) | simp_all, BW⟩
set_option maxHeartbeats 2000000 in
theorem counted_int (k s t i c p q a e : Int) (A : Option Addr) (n cap : Nat) (w : World) (hi0 : 0 ≤ i) (hc0 : 0 ≤ c) :
    Calls Tryd.prog 20 #[.agg #[.int .i64 k, .int .i64 s, .int .i64 t, .int .u64 i, .int .u64 c, .int .u64 p, .int .u64 q, .int .u64 a, .int .u64 e, .slice A n cap]] w fun en w' => en = .returned (.bool (decide (i ≤ 34359738367 ∧ c ≤ 34359738367 ∧ p ≤ 34359738367 ∧ q ≤ 34359738367 ∧ a ≤ 34359738367 ∧ e ≤ 34359738367 ∧ i ≠ 0 ∧ c ≠ 0))) ∧ Hid (Below w.heap.size w w') := by
  have HB := Lib.hid (fbox_new w k s t i c p q a e A n cap 25)
  have BW := Lib.hid (fbelow_box w (.cells #[.int .i64 k, .int .i64 s, .int .i64 t, .int .u64 i, .int .u64 c, .int .u64 p, .int .u64 q, .int .u64 a, .int .u64 e, .slice A n cap] 25))
  generalize hr : decide (i ≤ 34359738367 ∧ c ≤ 34359738367 ∧ p ≤ 34359738367 ∧ q ≤ 34359738367 ∧ a ≤ 34359738367 ∧ e ≤ 34359738367 ∧ i ≠ 0 ∧ c ≠ 0) = r
  have HD := Lib.hid hr
  clear hr
  go_enter Tryd.func20, Tryd.ntmps20
  obtain ⟨k0, k1, k2, k3, k4, k5, k6, k7, k8, k9⟩ := HB.out
  go_wp2_with fail
  generalize w.alloc (.cells #[.int .i64 k, .int .i64 s, .int .i64 t, .int .u64 i, .int .u64 c, .int .u64 p, .int .u64 q, .int .u64 a, .int .u64 e, .slice A n cap] 25) = W1 at *
  generalize hb : w.heap.size = b at k0 k1 k2 k3 k4 k5 k6 k7 k8 k9 HB ⊢
  have HBB := Lib.hid hb
  clear hb
  refine (numbers_any b _).mono ?_
  rintro e W2 ⟨rfl, hb2⟩
  have HB2 := Lib.hid (HB.out.below hb2.out)
  have BW2 := Lib.hid (fbtr BW.out hb2.out)
  clear HB BW hb2 k0 k1 k2 k3 k4 k5 k6 k7 k8 k9
  obtain ⟨k0, k1, k2, k3, k4, k5, k6, k7, k8, k9⟩ := HB2.out
  have X0 := Lib.hid (show (Instr.index 64 (.agg (ptr6 b)) (.int .i64 0)).run Tryd.prog W2 = .ok (.pointer (some ⟨b, 3, none⟩)) W2 from index6 b W2 0 (by omega))
  have X1 := Lib.hid (show (Instr.index 64 (.agg (ptr6 b)) (.int .i64 1)).run Tryd.prog W2 = .ok (.pointer (some ⟨b, 4, none⟩)) W2 from index6 b W2 1 (by omega))
  have X2 := Lib.hid (show (Instr.index 64 (.agg (ptr6 b)) (.int .i64 2)).run Tryd.prog W2 = .ok (.pointer (some ⟨b, 5, none⟩)) W2 from index6 b W2 2 (by omega))
  have X3 := Lib.hid (show (Instr.index 64 (.agg (ptr6 b)) (.int .i64 3)).run Tryd.prog W2 = .ok (.pointer (some ⟨b, 6, none⟩)) W2 from index6 b W2 3 (by omega))
  have X4 := Lib.hid (show (Instr.index 64 (.agg (ptr6 b)) (.int .i64 4)).run Tryd.prog W2 = .ok (.pointer (some ⟨b, 7, none⟩)) W2 from index6 b W2 4 (by omega))
  have X5 := Lib.hid (show (Instr.index 64 (.agg (ptr6 b)) (.int .i64 5)).run Tryd.prog W2 = .ok (.pointer (some ⟨b, 8, none⟩)) W2 from index6 b W2 5 (by omega))
  generalize ptr6 b = ag at *
  go_wp2
  go_loopw [6] (fun ix wr => ∃ m : Int, 0 ≤ m ∧ m ≤ 6 ∧ ix = .int .i64 m ∧ wr = W2 ∧ Hid ((0 < m → i ≤ 34359738367) ∧ (1 < m → c ≤ 34359738367) ∧ (2 < m → p ≤ 34359738367) ∧ (3 < m → q ≤ 34359738367) ∧ (4 < m → a ≤ 34359738367) ∧ (5 < m → e ≤ 34359738367))) (fun ix _ => 6 - (intOf ix).toNat)
  case atStart => exact ⟨0, by omega, by omega, rfl, rfl, Lib.hid (by omega)⟩
  case round =>
    obtain ⟨m, hm0, hm6, rfl, rfl, hall⟩ := hrel
    have hcs : m = 0 ∨ m = 1 ∨ m = 2 ∨ m = 3 ∨ m = 4 ∨ m = 5 ∨ m = 6 := by omega
    clear hm0 hm6
    rcases hcs with rfl | rfl | rfl | rfl | rfl | rfl | rfl
    · have hix := X0.out
      by_cases hx : 34359738367 < i
      · have hxb : decide (34359738367 < i) = true := decide_eq_true hx
        have : r = false := by rw [← HD.out]; exact decide_eq_false (by omega)
        subst this
        clear HD
        go_wp2
        go_ret
        exact ⟨rfl, BW2⟩
      · have hxb : decide (34359738367 < i) = false := decide_eq_false hx
        go_wp2
        go_roundw
        case rel => exact ⟨1, by omega, by omega, by go_num, by first | trivial | rfl, Lib.hid (by have := hall.out; omega)⟩
        case measure => simp [intOf]
    · have hix := X1.out
      by_cases hx : 34359738367 < c
      · have hxb : decide (34359738367 < c) = true := decide_eq_true hx
        have : r = false := by rw [← HD.out]; exact decide_eq_false (by omega)
        subst this
        clear HD
        go_wp2
        go_ret
        exact ⟨rfl, BW2⟩
      · have hxb : decide (34359738367 < c) = false := decide_eq_false hx
        go_wp2
        go_roundw
        case rel => exact ⟨2, by omega, by omega, by go_num, by first | trivial | rfl, Lib.hid (by have := hall.out; omega)⟩
        case measure => simp [intOf]
    · have hix := X2.out
      by_cases hx : 34359738367 < p
      · have hxb : decide (34359738367 < p) = true := decide_eq_true hx
        have : r = false := by rw [← HD.out]; exact decide_eq_false (by omega)
        subst this
        clear HD
        go_wp2
        go_ret
        exact ⟨rfl, BW2⟩
      · have hxb : decide (34359738367 < p) = false := decide_eq_false hx
        go_wp2
        go_roundw
        case rel => exact ⟨3, by omega, by omega, by go_num, by first | trivial | rfl, Lib.hid (by have := hall.out; omega)⟩
        case measure => simp [intOf]
    · have hix := X3.out
      by_cases hx : 34359738367 < q
      · have hxb : decide (34359738367 < q) = true := decide_eq_true hx
        have : r = false := by rw [← HD.out]; exact decide_eq_false (by omega)
        subst this
        clear HD
        go_wp2
        go_ret
        exact ⟨rfl, BW2⟩
      · have hxb : decide (34359738367 < q) = false := decide_eq_false hx
        go_wp2
        go_roundw
        case rel => exact ⟨4, by omega, by omega, by go_num, by first | trivial | rfl, Lib.hid (by have := hall.out; omega)⟩
        case measure => simp [intOf]
    · have hix := X4.out
      by_cases hx : 34359738367 < a
      · have hxb : decide (34359738367 < a) = true := decide_eq_true hx
        have : r = false := by rw [← HD.out]; exact decide_eq_false (by omega)
        subst this
        clear HD
        go_wp2
        go_ret
        exact ⟨rfl, BW2⟩
      · have hxb : decide (34359738367 < a) = false := decide_eq_false hx
        go_wp2
        go_roundw
        case rel => exact ⟨5, by omega, by omega, by go_num, by first | trivial | rfl, Lib.hid (by have := hall.out; omega)⟩
        case measure => simp [intOf]
    · have hix := X5.out
      by_cases hx : 34359738367 < e
      · have hxb : decide (34359738367 < e) = true := decide_eq_true hx
        have : r = false := by rw [← HD.out]; exact decide_eq_false (by omega)
        subst this
        clear HD
        go_wp2
        go_ret
        exact ⟨rfl, BW2⟩
      · have hxb : decide (34359738367 < e) = false := decide_eq_false hx
        go_wp2
        go_roundw
        case rel => exact ⟨6, by omega, by omega, by go_num, by first | trivial | rfl, Lib.hid (by have := hall.out; omega)⟩
        case measure => simp [intOf]
    · by_cases hi : 0 < i
      · have hib : decide (0 < i) = true := decide_eq_true hi
        by_cases hc : 0 < c
        · have hcb : decide (0 < c) = true := decide_eq_true hc
          have : r = true := by rw [← HD.out]; exact decide_eq_true (by have := hall.out; omega)
          subst this
          clear HD
          go_wp2
          go_ret
          exact ⟨by first | rfl | (simp; omega) | simp_all, BW2⟩
        · have hcb : decide (0 < c) = false := decide_eq_false hc
          have : r = false := by rw [← HD.out]; exact decide_eq_false (by have := hall.out; omega)
          subst this
          clear HD
          go_wp2
          go_ret
          exact ⟨by first | rfl | (simp; omega) | simp_all, BW2⟩
      · have hib : decide (0 < i) = false := decide_eq_false hi
        have : r = false := by rw [← HD.out]; exact decide_eq_false (by have := hall.out; omega)
        subst this
        clear HD
        go_wp2
        go_ret
        exact ⟨by first | rfl | (simp; omega) | simp_all, BW2⟩
set_option maxHeartbeats 2000000 in
theorem fmay_int (k s t i c p q a e : Int) (A : Option Addr) (n cap : Nat) (w : World) (hi0 : 0 ≤ i) (hc0 : 0 ≤ c) (hp0 : 0 ≤ p) (hq0 : 0 ≤ q) (he0 : 0 ≤ e) :
    Calls Tryd.prog 10 #[.agg #[.int .i64 k, .int .i64 s, .int .i64 t, .int .u64 i, .int .u64 c, .int .u64 p, .int .u64 q, .int .u64 a, .int .u64 e, .slice A n cap]] w fun en w' => en = .returned (.bool (decide (mayI k s t i c p q a e n))) ∧ Hid (Below w.heap.size w w') := by
  have HB := Lib.hid (fbox_new w k s t i c p q a e A n cap 25)
  have BW := Lib.hid (fbelow_box w (.cells #[.int .i64 k, .int .i64 s, .int .i64 t, .int .u64 i, .int .u64 c, .int .u64 p, .int .u64 q, .int .u64 a, .int .u64 e, .slice A n cap] 25))
  generalize hr : decide (mayI k s t i c p q a e n) = r
  have HD := Lib.hid hr
  clear hr
  go_enter Tryd.func10, Tryd.ntmps10
  obtain ⟨k0, k1, k2, k3, k4, k5, k6, k7, k8, k9⟩ := HB.out
  go_wp2_with fail
  generalize w.alloc (.cells #[.int .i64 k, .int .i64 s, .int .i64 t, .int .u64 i, .int .u64 c, .int .u64 p, .int .u64 q, .int .u64 a, .int .u64 e, .slice A n cap] 25) = W1 at *
  generalize hb : w.heap.size = b at k0 k1 k2 k3 k4 k5 k6 k7 k8 k9 HB ⊢
  have HBB := Lib.hid hb
  clear hb
  refine (between_int k s t i c p q a e A n cap _).mono ?_
  rintro en W2 ⟨rfl, hb2⟩
  have HB2 := Lib.hid (HB.out.below hb2.out)
  have BW2 := Lib.hid (fbtr BW.out hb2.out)
  clear HB BW hb2 k0 k1 k2 k3 k4 k5 k6 k7 k8 k9
  obtain ⟨k0, k1, k2, k3, k4, k5, k6, k7, k8, k9⟩ := HB2.out
  by_cases h0 : 1 ≤ s ∧ s ≤ 10 ∧ 1 ≤ t ∧ t ≤ 10 ∧ s ≠ t
  · rw [decide_eq_true h0]
    go_wp2_with fail
    refine (counted_int k s t i c p q a e A n cap _ hi0 hc0).mono ?_
    rintro en W3 ⟨rfl, hb3⟩
    have HB3 := Lib.hid (HB2.out.below hb3.out)
    have BW3 := Lib.hid (fbtr BW2.out hb3.out)
    clear HB2 BW2 hb3 k0 k1 k2 k3 k4 k5 k6 k7 k8 k9
    obtain ⟨k0, k1, k2, k3, k4, k5, k6, k7, k8, k9⟩ := HB3.out
    by_cases h1 : i ≤ 34359738367 ∧ c ≤ 34359738367 ∧ p ≤ 34359738367 ∧ q ≤ 34359738367 ∧ a ≤ 34359738367 ∧ e ≤ 34359738367 ∧ i ≠ 0 ∧ c ≠ 0
    · rw [decide_eq_true h1]
      go_wp2_with fail
      refine (heard_int k s t i c p q a e A n cap _ hq0).mono ?_
      rintro en W4 ⟨rfl, hb4⟩
      have HB4 := Lib.hid (HB3.out.below hb4.out)
      have BW4 := Lib.hid (fbtr BW3.out hb4.out)
      clear HB3 BW3 hb4 k0 k1 k2 k3 k4 k5 k6 k7 k8 k9
      obtain ⟨k0, k1, k2, k3, k4, k5, k6, k7, k8, k9⟩ := HB4.out
      by_cases h2 : (p = 0 ∧ q = 0 ∧ a = 0) ∨ (p ≠ 0 ∧ q ≠ 0)
      · rw [decide_eq_true h2]
        go_wp2_with fail
        refine (filled_int k s t i c p q a e A n cap _ hp0 he0).mono ?_
        rintro en W5 ⟨rfl, hb5⟩
        have HB5 := Lib.hid (HB4.out.below hb5.out)
        have BW5 := Lib.hid (fbtr BW4.out hb5.out)
        clear HB4 BW4 hb5 k0 k1 k2 k3 k4 k5 k6 k7 k8 k9
        obtain ⟨k0, k1, k2, k3, k4, k5, k6, k7, k8, k9⟩ := HB5.out
        by_cases h3 : (k = 1 ∧ e = 0 ∧ n = 0) ∨ (k = 2 ∧ p ≠ 0 ∧ e ≠ 0 ∧ 1 ≤ n ∧ n ≤ 448)
        · rw [decide_eq_true h3]
          have : r = true := by rw [← HD.out]; exact decide_eq_true (by unfold mayI; omega)
          subst this
          clear HD
          go_wp2
          go_ret
          exact ⟨by first | rfl | (simp; omega) | simp_all, BW5⟩
        · rw [decide_eq_false h3]
          have : r = false := by rw [← HD.out]; exact decide_eq_false (by unfold mayI; omega)
          subst this
          clear HD
          go_wp2
          go_ret
          exact ⟨by first | rfl | (simp; omega) | simp_all, BW5⟩
      · rw [decide_eq_false h2]
        have : r = false := by rw [← HD.out]; exact decide_eq_false (by unfold mayI; omega)
        subst this
        clear HD
        go_wp2
        go_ret
        exact ⟨by first | rfl | (simp; omega) | simp_all, BW4⟩
    · rw [decide_eq_false h1]
      have : r = false := by rw [← HD.out]; exact decide_eq_false (by unfold mayI; omega)
      subst this
      clear HD
      go_wp2
      go_ret
      exact ⟨by first | rfl | (simp; omega) | simp_all, BW3⟩
  · rw [decide_eq_false h0]
    have : r = false := by rw [← HD.out]; exact decide_eq_false (by unfold mayI; omega)
    subst this
    clear HD
    go_wp2
    go_ret
    exact ⟨by first | rfl | (simp; omega) | simp_all, BW2⟩
theorem fmay_any (f : Fr) (A : Option Addr) (n cap : Nat) (hn : f.body.length = n) (w : World) :
    Calls Tryd.prog 10 #[frV f A n cap] w fun en w' => en = .returned (.bool (decide (mayF f))) ∧ Hid (Below w.heap.size w w') := by
  rw [mayF_int f n hn]
  exact fmay_int _ _ _ _ _ _ _ _ _ A n cap w (Int.natCast_nonneg _) (Int.natCast_nonneg _) (Int.natCast_nonneg _) (Int.natCast_nonneg _) (Int.natCast_nonneg _)
end Go.Proofs.YtelbhlkojpnmgaaDoor
