/-
  Whether a frame may be, by the document's answer. For frames whose numbers are not below 0.
-/
import Derived.Test.YtelbhlkojpnmgaaDoorFmem
namespace Go.Proofs.YtelbhlkojpnmgaaDoor
set_option maxRecDepth 20000
open Go.RowKit

theorem rnode_any (n : Int) (w : World) : Calls Tryd.prog 23 #[.int .i64 n] w fun e w' => e = .returned (.bool (decide (nodeF n))) ∧ w = w' := by
  generalize hr : decide (nodeF n) = r
  have HD := Lib.hid hr
  clear hr
  by_cases h1 : 1 ≤ n
  · by_cases h2 : n ≤ 10
    · have : r = true := by rw [← HD.out]; exact decide_eq_true ⟨h1, h2⟩
      subst this
      go_enter Tryd.func23, Tryd.ntmps23
      go_wp2
      go_ret
      exact ⟨rfl, rfl⟩
    · have : r = false := by rw [← HD.out]; exact decide_eq_false (fun h => h2 h.2)
      subst this
      have h3 : decide (n ≤ 10) = false := decide_eq_false h2
      go_enter Tryd.func23, Tryd.ntmps23
      go_wp2
      go_ret
      exact ⟨by first | rfl | exact congrArg (fun b => Ending.returned (.bool b)) h3, rfl⟩
  · have : r = false := by rw [← HD.out]; exact decide_eq_false (fun h => h1 h.1)
    subst this
    have h3 : decide (1 ≤ n) = false := decide_eq_false h1
    go_enter Tryd.func23, Tryd.ntmps23
    go_wp2
    go_ret
    exact ⟨by first | rfl | exact congrArg (fun b => Ending.returned (.bool b)) h3, rfl⟩
theorem rcount_any (x : Int) (w : World) : Calls Tryd.prog 24 #[.int .u64 x] w fun e w' => e = .returned (.bool (decide (x < 34359738368))) ∧ w = w' := by
  go_enter Tryd.func24, Tryd.ntmps24
  go_wp2
  go_ret
  exact ⟨rfl, rfl⟩
set_option maxHeartbeats 8000000 in
theorem rfmay_int (k s t i c p q a e : Int) (A : Option Addr) (n cap : Nat) (w : World) :
    Calls Tryd.prog 11 #[.agg #[.int .i64 k, .int .i64 s, .int .i64 t, .int .u64 i, .int .u64 c, .int .u64 p, .int .u64 q, .int .u64 a, .int .u64 e, .slice A n cap]] w fun en w' => en = .returned (.bool (decide (mayI k s t i c p q a e n))) ∧ Hid (Below w.heap.size w w') := by
  have HB := Lib.hid (fbox_new w k s t i c p q a e A n cap 25)
  have BW := Lib.hid (fbelow_box w (.cells #[.int .i64 k, .int .i64 s, .int .i64 t, .int .u64 i, .int .u64 c, .int .u64 p, .int .u64 q, .int .u64 a, .int .u64 e, .slice A n cap] 25))
  generalize hr : decide (mayI k s t i c p q a e n) = r
  have HD := Lib.hid hr
  clear hr
  go_enter Tryd.func11, Tryd.ntmps11
  obtain ⟨k0, k1, k2, k3, k4, k5, k6, k7, k8, k9⟩ := HB.out
  clear HB
  go_wp2_with fail
  generalize w.alloc (.cells #[.int .i64 k, .int .i64 s, .int .i64 t, .int .u64 i, .int .u64 c, .int .u64 p, .int .u64 q, .int .u64 a, .int .u64 e, .slice A n cap] 25) = W1 at *
  generalize hb : w.heap.size = b at k0 k1 k2 k3 k4 k5 k6 k7 k8 k9 ⊢
  have HBB := Lib.hid hb
  clear hb
  refine (rnode_any s _).mono ?_
  rintro e w1 ⟨rfl, rfl⟩
  by_cases hs : nodeF s
  · rw [decide_eq_true hs]
    unfold nodeF at hs
    go_wp2_with fail
    refine (rnode_any t _).mono ?_
    rintro e w1 ⟨rfl, rfl⟩
    by_cases ht : nodeF t
    · rw [decide_eq_true ht]
      unfold nodeF at ht
      by_cases hst : s = t
      · have hstb : (s == t) = true := by simp [hst]
        have hstc : (s != t) = false := by simp [hst]
        have : r = false := by rw [← HD.out]; exact decide_eq_false (fun h => by unfold mayI at h; omega)
        subst this
        clear HD
        go_wp2
        go_ret
        exact ⟨rfl, BW⟩
      · have hstb : (s == t) = false := by rw [beq_eq_false_iff_ne]; exact hst
        have hstc : (s != t) = true := by rw [bne_iff_ne]; exact hst
        go_wp2_with fail
        refine (rcount_any i _).mono ?_
        rintro e w1 ⟨rfl, rfl⟩
        by_cases hi1 : i < 34359738368
        · rw [decide_eq_true hi1]
          go_wp2_with fail
          refine (rcount_any c _).mono ?_
          rintro e w1 ⟨rfl, rfl⟩
          by_cases hc1 : c < 34359738368
          · rw [decide_eq_true hc1]
            go_wp2_with fail
            refine (rcount_any p _).mono ?_
            rintro e w1 ⟨rfl, rfl⟩
            by_cases hp1 : p < 34359738368
            · rw [decide_eq_true hp1]
              go_wp2_with fail
              refine (rcount_any q _).mono ?_
              rintro e w1 ⟨rfl, rfl⟩
              by_cases hq1 : q < 34359738368
              · rw [decide_eq_true hq1]
                go_wp2_with fail
                refine (rcount_any a _).mono ?_
                rintro e w1 ⟨rfl, rfl⟩
                by_cases ha1 : a < 34359738368
                · rw [decide_eq_true ha1]
                  go_wp2_with fail
                  refine (rcount_any e _).mono ?_
                  rintro e w1 ⟨rfl, rfl⟩
                  by_cases he1 : e < 34359738368
                  · rw [decide_eq_true he1]
                    by_cases hi : i = 0
                    · have hib : (i == 0) = true := by simp [hi]
                      have hic : (i != 0) = false := by simp [hi]
                      have : r = false := by rw [← HD.out]; exact decide_eq_false (fun h => by unfold mayI at h; omega)
                      subst this
                      clear HD
                      go_wp2
                      go_ret
                      exact ⟨rfl, BW⟩
                    · have hib : (i == 0) = false := by rw [beq_eq_false_iff_ne]; exact hi
                      have hic : (i != 0) = true := by rw [bne_iff_ne]; exact hi
                      by_cases hc : c = 0
                      · have hcb : (c == 0) = true := by simp [hc]
                        have hcc : (c != 0) = false := by simp [hc]
                        have : r = false := by rw [← HD.out]; exact decide_eq_false (fun h => by unfold mayI at h; omega)
                        subst this
                        clear HD
                        go_wp2
                        go_ret
                        exact ⟨rfl, BW⟩
                      · have hcb : (c == 0) = false := by rw [beq_eq_false_iff_ne]; exact hc
                        have hcc : (c != 0) = true := by rw [bne_iff_ne]; exact hc
                        by_cases hp : p = 0
                        · have hpb : (p == 0) = true := by simp [hp]
                          have hpc : (p != 0) = false := by simp [hp]
                          by_cases hq : q = 0
                          · have hqb : (q == 0) = true := by simp [hq]
                            have hqc : (q != 0) = false := by simp [hq]
                            by_cases ha : a = 0
                            · have hab : (a == 0) = true := by simp [ha]
                              have hac : (a != 0) = false := by simp [ha]
                              by_cases hk : k = 1
                              · have hkb : (k == 1) = true := by simp [hk]
                                have hkc : (k != 1) = false := by simp [hk]
                                by_cases he : e = 0
                                · have heb : (e == 0) = true := by simp [he]
                                  have hec : (e != 0) = false := by simp [he]
                                  by_cases hz : (n : Int) = 0
                                  · have hzb : ((n : Int) == 0) = true := by simp [hz]
                                    have hzc : ((n : Int) != 0) = false := by simp [hz]
                                    have : r = true := by rw [← HD.out]; exact decide_eq_true (by unfold mayI; omega)
                                    subst this
                                    clear HD
                                    go_wp2
                                    go_ret
                                    exact ⟨by first | rfl | (simp; omega) | simp_all, BW⟩
                                  · have hzb : ((n : Int) == 0) = false := by rw [beq_eq_false_iff_ne]; exact hz
                                    have hzc : ((n : Int) != 0) = true := by rw [bne_iff_ne]; exact hz
                                    have : r = false := by rw [← HD.out]; exact decide_eq_false (fun h => by unfold mayI at h; omega)
                                    subst this
                                    clear HD
                                    go_wp2
                                    go_ret
                                    exact ⟨by first | rfl | (simp; omega) | simp_all, BW⟩
                                · have heb : (e == 0) = false := by rw [beq_eq_false_iff_ne]; exact he
                                  have hec : (e != 0) = true := by rw [bne_iff_ne]; exact he
                                  have : r = false := by rw [← HD.out]; exact decide_eq_false (fun h => by unfold mayI at h; omega)
                                  subst this
                                  clear HD
                                  go_wp2
                                  go_ret
                                  exact ⟨by first | rfl | (simp; omega) | simp_all, BW⟩
                              · have hkb : (k == 1) = false := by rw [beq_eq_false_iff_ne]; exact hk
                                have hkc : (k != 1) = true := by rw [bne_iff_ne]; exact hk
                                by_cases hk2 : k = 2
                                · have hk2b : (k == 2) = true := by simp [hk2]
                                  have hk2c : (k != 2) = false := by simp [hk2]
                                  have : r = false := by rw [← HD.out]; exact decide_eq_false (fun h => by unfold mayI at h; omega)
                                  subst this
                                  clear HD
                                  go_wp2
                                  go_ret
                                  exact ⟨by first | rfl | (simp; omega) | simp_all, BW⟩
                                · have hk2b : (k == 2) = false := by rw [beq_eq_false_iff_ne]; exact hk2
                                  have hk2c : (k != 2) = true := by rw [bne_iff_ne]; exact hk2
                                  have : r = false := by rw [← HD.out]; exact decide_eq_false (fun h => by unfold mayI at h; omega)
                                  subst this
                                  clear HD
                                  go_wp2
                                  go_ret
                                  exact ⟨by first | rfl | (simp; omega) | simp_all, BW⟩
                            · have hab : (a == 0) = false := by rw [beq_eq_false_iff_ne]; exact ha
                              have hac : (a != 0) = true := by rw [bne_iff_ne]; exact ha
                              have : r = false := by rw [← HD.out]; exact decide_eq_false (fun h => by unfold mayI at h; omega)
                              subst this
                              clear HD
                              go_wp2
                              go_ret
                              exact ⟨rfl, BW⟩
                          · have hqb : (q == 0) = false := by rw [beq_eq_false_iff_ne]; exact hq
                            have hqc : (q != 0) = true := by rw [bne_iff_ne]; exact hq
                            have : r = false := by rw [← HD.out]; exact decide_eq_false (fun h => by unfold mayI at h; omega)
                            subst this
                            clear HD
                            go_wp2
                            go_ret
                            exact ⟨rfl, BW⟩
                        · have hpb : (p == 0) = false := by rw [beq_eq_false_iff_ne]; exact hp
                          have hpc : (p != 0) = true := by rw [bne_iff_ne]; exact hp
                          by_cases hq : q = 0
                          · have hqb : (q == 0) = true := by simp [hq]
                            have hqc : (q != 0) = false := by simp [hq]
                            have : r = false := by rw [← HD.out]; exact decide_eq_false (fun h => by unfold mayI at h; omega)
                            subst this
                            clear HD
                            go_wp2
                            go_ret
                            exact ⟨rfl, BW⟩
                          · have hqb : (q == 0) = false := by rw [beq_eq_false_iff_ne]; exact hq
                            have hqc : (q != 0) = true := by rw [bne_iff_ne]; exact hq
                            by_cases hk : k = 1
                            · have hkb : (k == 1) = true := by simp [hk]
                              have hkc : (k != 1) = false := by simp [hk]
                              by_cases he : e = 0
                              · have heb : (e == 0) = true := by simp [he]
                                have hec : (e != 0) = false := by simp [he]
                                by_cases hz : (n : Int) = 0
                                · have hzb : ((n : Int) == 0) = true := by simp [hz]
                                  have hzc : ((n : Int) != 0) = false := by simp [hz]
                                  have : r = true := by rw [← HD.out]; exact decide_eq_true (by unfold mayI; omega)
                                  subst this
                                  clear HD
                                  go_wp2
                                  go_ret
                                  exact ⟨by first | rfl | (simp; omega) | simp_all, BW⟩
                                · have hzb : ((n : Int) == 0) = false := by rw [beq_eq_false_iff_ne]; exact hz
                                  have hzc : ((n : Int) != 0) = true := by rw [bne_iff_ne]; exact hz
                                  have : r = false := by rw [← HD.out]; exact decide_eq_false (fun h => by unfold mayI at h; omega)
                                  subst this
                                  clear HD
                                  go_wp2
                                  go_ret
                                  exact ⟨by first | rfl | (simp; omega) | simp_all, BW⟩
                              · have heb : (e == 0) = false := by rw [beq_eq_false_iff_ne]; exact he
                                have hec : (e != 0) = true := by rw [bne_iff_ne]; exact he
                                have : r = false := by rw [← HD.out]; exact decide_eq_false (fun h => by unfold mayI at h; omega)
                                subst this
                                clear HD
                                go_wp2
                                go_ret
                                exact ⟨by first | rfl | (simp; omega) | simp_all, BW⟩
                            · have hkb : (k == 1) = false := by rw [beq_eq_false_iff_ne]; exact hk
                              have hkc : (k != 1) = true := by rw [bne_iff_ne]; exact hk
                              by_cases hk2 : k = 2
                              · have hk2b : (k == 2) = true := by simp [hk2]
                                have hk2c : (k != 2) = false := by simp [hk2]
                                by_cases he : e = 0
                                · have heb : (e == 0) = true := by simp [he]
                                  have hec : (e != 0) = false := by simp [he]
                                  have : r = false := by rw [← HD.out]; exact decide_eq_false (fun h => by unfold mayI at h; omega)
                                  subst this
                                  clear HD
                                  go_wp2
                                  go_ret
                                  exact ⟨by first | rfl | (simp; omega) | simp_all, BW⟩
                                · have heb : (e == 0) = false := by rw [beq_eq_false_iff_ne]; exact he
                                  have hec : (e != 0) = true := by rw [bne_iff_ne]; exact he
                                  by_cases hl : 1 ≤ (n : Int)
                                  · by_cases hm : (n : Int) ≤ 448
                                    · have : r = true := by rw [← HD.out]; exact decide_eq_true (by unfold mayI; omega)
                                      subst this
                                      clear HD
                                      go_wp2
                                      go_ret
                                      exact ⟨by first | rfl | (simp; omega) | simp_all, BW⟩
                                    · have hmb : decide ((n : Int) ≤ 448) = false := decide_eq_false hm
                                      have : r = false := by rw [← HD.out]; exact decide_eq_false (fun h => by unfold mayI at h; omega)
                                      subst this
                                      clear HD
                                      go_wp2
                                      go_ret
                                      exact ⟨by first | rfl | (simp; omega) | simp_all, BW⟩
                                  · have hlb : decide (1 ≤ (n : Int)) = false := decide_eq_false hl
                                    have : r = false := by rw [← HD.out]; exact decide_eq_false (fun h => by unfold mayI at h; omega)
                                    subst this
                                    clear HD
                                    go_wp2
                                    go_ret
                                    exact ⟨by first | rfl | (simp; omega) | simp_all, BW⟩
                              · have hk2b : (k == 2) = false := by rw [beq_eq_false_iff_ne]; exact hk2
                                have hk2c : (k != 2) = true := by rw [bne_iff_ne]; exact hk2
                                have : r = false := by rw [← HD.out]; exact decide_eq_false (fun h => by unfold mayI at h; omega)
                                subst this
                                clear HD
                                go_wp2
                                go_ret
                                exact ⟨by first | rfl | (simp; omega) | simp_all, BW⟩
                  · rw [decide_eq_false he1]
                    have : r = false := by rw [← HD.out]; exact decide_eq_false (fun h => by unfold mayI at h; omega)
                    subst this
                    clear HD
                    go_wp2
                    go_ret
                    exact ⟨rfl, BW⟩
                · rw [decide_eq_false ha1]
                  have : r = false := by rw [← HD.out]; exact decide_eq_false (fun h => by unfold mayI at h; omega)
                  subst this
                  clear HD
                  go_wp2
                  go_ret
                  exact ⟨rfl, BW⟩
              · rw [decide_eq_false hq1]
                have : r = false := by rw [← HD.out]; exact decide_eq_false (fun h => by unfold mayI at h; omega)
                subst this
                clear HD
                go_wp2
                go_ret
                exact ⟨rfl, BW⟩
            · rw [decide_eq_false hp1]
              have : r = false := by rw [← HD.out]; exact decide_eq_false (fun h => by unfold mayI at h; omega)
              subst this
              clear HD
              go_wp2
              go_ret
              exact ⟨rfl, BW⟩
          · rw [decide_eq_false hc1]
            have : r = false := by rw [← HD.out]; exact decide_eq_false (fun h => by unfold mayI at h; omega)
            subst this
            clear HD
            go_wp2
            go_ret
            exact ⟨rfl, BW⟩
        · rw [decide_eq_false hi1]
          have : r = false := by rw [← HD.out]; exact decide_eq_false (fun h => by unfold mayI at h; omega)
          subst this
          clear HD
          go_wp2
          go_ret
          exact ⟨rfl, BW⟩
    · rw [decide_eq_false ht]
      unfold nodeF at ht
      have : r = false := by rw [← HD.out]; exact decide_eq_false (fun h => by unfold mayI at h; omega)
      subst this
      clear HD
      go_wp2
      go_ret
      exact ⟨rfl, BW⟩
  · rw [decide_eq_false hs]
    unfold nodeF at hs
    have : r = false := by rw [← HD.out]; exact decide_eq_false (fun h => by unfold mayI at h; omega)
    subst this
    clear HD
    go_wp2
    go_ret
    exact ⟨rfl, BW⟩
theorem rfmay_any (f : Fr) (A : Option Addr) (n cap : Nat) (hn : f.body.length = n) (w : World) :
    Calls Tryd.prog 11 #[frV f A n cap] w fun en w' => en = .returned (.bool (decide (mayF f))) ∧ Hid (Below w.heap.size w w') := by
  rw [mayF_int f n hn]
  exact rfmay_int _ _ _ _ _ _ _ _ _ A n cap w
end Go.Proofs.YtelbhlkojpnmgaaDoor
