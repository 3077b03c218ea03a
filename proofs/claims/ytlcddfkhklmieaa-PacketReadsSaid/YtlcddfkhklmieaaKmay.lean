/-
  Whether a packet may be, by the document's answer. For packets that are not long.
-/
import Derived.Test.YtlcddfkhklmieaaKheads
import Derived.Test.YtlcddfkhklmieaaKadv
namespace Go.Proofs.Ytlcddfkhklmieaa
set_option maxRecDepth 20000
open Go.RowKit

/-- Whether a packet may be, by its numbers: adi, lfi and hki say whether the advert, the life and the heads may. -/
def mkI (k s t h x y z nh n np adi lfi hki : Int) : Prop :=
  (k = 1 ∧ s = 0 ∧ t = 0 ∧ h = 0 ∧ nh = 0 ∧ n = 0 ∧ adi = 1) ∨ (k ≠ 1 ∧ x = 0 ∧ y = 0 ∧ z = 0 ∧ np = 0 ∧ lfi = 1 ∧ 0 ≤ h ∧ h ≤ 8 ∧ hki = 1 ∧ ((k = 2 ∧ 1 ≤ n ∧ n ≤ 320) ∨ (k = 3 ∧ n = 0 ∧ nh = 1)))
instance (k s t h x y z nh n np adi lfi hki : Int) : Decidable (mkI k s t h x y z nh n np adi lfi hki) := inferInstanceAs (Decidable (_ ∨ _))
theorem ind_one (p : Prop) [Decidable p] : (if p then (1 : Int) else 0) = 1 ↔ p := by
  by_cases h : p
  · simp [h]
  · simp [h]
theorem mayK_int (k s t h x y : Int) (z : Nat) (heads : List Hd) (body : List UInt8) (peers : List Life) :
    decide (mayK ⟨k, (s, t), h, heads, body, (x, y), z, peers⟩) = decide (mkI k s t h x y z heads.length body.length peers.length (if advK (x, y) z peers then 1 else 0) (if lifeK (s, t) then 1 else 0) (if headsK k s heads then 1 else 0)) := by
  rw [Bool.eq_iff_iff, decide_eq_true_iff, decide_eq_true_iff]
  unfold mayK mkI aloneK bareK endK
  simp only [ind_one, Prod.mk.injEq]
  have e1 : heads = [] ↔ (heads.length : Int) = 0 := by rw [← List.length_eq_zero_iff]; omega
  have e2 : body = [] ↔ (body.length : Int) = 0 := by rw [← List.length_eq_zero_iff]; omega
  have e3 : peers = [] ↔ (peers.length : Int) = 0 := by rw [← List.length_eq_zero_iff]; omega
  have e4 : (z = 0) ↔ ((z : Int) = 0) := by omega
  have e5 : (1 ≤ body.length ∧ body.length ≤ 320) ↔ ((1 : Int) ≤ (body.length : Int) ∧ (body.length : Int) ≤ 320) := by omega
  have e6 : (heads.length = 1) ↔ ((heads.length : Int) = 1) := by omega
  rw [e1, e2, e3, e4, e5, e6]
  constructor
  · rintro (⟨a, ⟨⟨b1, b2⟩, c, d, e⟩, f⟩ | ⟨a, ⟨⟨b1, b2⟩, c, d⟩, e, f, g, i, j⟩)
    · exact .inl ⟨a, b1, b2, c, d, e, f⟩
    · exact .inr ⟨a, b1, b2, c, d, e, f, g, i, j⟩
  · rintro (⟨a, b1, b2, c, d, e, f⟩ | ⟨a, b1, b2, c, d, e, f, g, i, j⟩)
    · exact .inl ⟨a, ⟨⟨b1, b2⟩, c, d, e⟩, f⟩
    · exact .inr ⟨a, ⟨⟨b1, b2⟩, c, d⟩, e, f, g, i, j⟩
set_option maxHeartbeats 32000000 in
theorem rkmay_any (k s t h x y : Int) (z : Nat) (heads : List Hd) (body : List UInt8) (peers : List Life) (H A P : Option Addr) (nh ch n cap np cp B : Nat) (w : World) (ht0 : 0 ≤ t) (hy0 : 0 ≤ y)
    (hH : Hds w B H heads) (hPl : Lives w B P peers) (hB : B ≤ w.heap.size) (hP : P = none → cp = 0) (hnh : heads.length = nh) (hnn : body.length = n) (hnp0 : peers.length = np) (hhmx : nh ≤ 100000) (hpmx : np ≤ 1000) (hpos : ∀ p ∈ peers, 0 ≤ p.2) :
    Calls Try.prog 12 #[.agg #[.int .i64 k, .int .i64 s, .int .u64 t, .int .i64 h, .slice H nh ch, .slice A n cap, .int .i64 x, .int .u64 y, .int .u64 (z : Int), .slice P np cp]] w fun e w' => e = .returned (.bool (decide (mayK ⟨k, (s, t), h, heads, body, (x, y), z, peers⟩))) ∧ Hid (Below w.heap.size w w') := by
  rw [mayK_int, hnh, hnn, hnp0]
  have K1 := Lib.hid (kbox_new (k := k) (s := s) (t := t) (h := h) (x := x) (y := y) (z := (z : Int)) (H := H) (A := A) (P := P) (nh := nh) (ch := ch) (n := n) (cap := cap) (np := np) (cp := cp) (w := w) 31)
  have B1 := Lib.hid (mbelow_box w (.cells #[.int .i64 k, .int .i64 s, .int .u64 t, .int .i64 h, .slice H nh ch, .slice A n cap, .int .i64 x, .int .u64 y, .int .u64 (z : Int), .slice P np cp] 31))
  have HH := Lib.hid hH
  have HP := Lib.hid hPl
  have HNH := Lib.hid hnh
  have HNP := Lib.hid hnp0
  have HPOS := Lib.hid hpos
  obtain ⟨adi, hadi⟩ : ∃ v, (if advK (x, y) z peers then (1 : Int) else 0) = v := ⟨_, rfl⟩
  obtain ⟨lfi, hlfi⟩ : ∃ v, (if lifeK (s, t) then (1 : Int) else 0) = v := ⟨_, rfl⟩
  obtain ⟨hki, hhki⟩ : ∃ v, (if headsK k s heads then (1 : Int) else 0) = v := ⟨_, rfl⟩
  rw [hadi, hlfi, hhki]
  have Eadi := Lib.hid hadi
  have Elfi := Lib.hid hlfi
  have Ehki := Lib.hid hhki
  generalize hd : decide (mkI k s t h x y z nh n np adi lfi hki) = r
  have HD := Lib.hid hd
  clear hd hadi hlfi hhki hH hPl hnh hnn hnp0 hpos
  go_enter Try.func12, Try.ntmps12
  obtain ⟨k0, k1, k2, k3, k4, k5, k6, k7, k8, k9⟩ := K1.out
  generalize hW : w.alloc (.cells #[.int .i64 k, .int .i64 s, .int .u64 t, .int .i64 h, .slice H nh ch, .slice A n cap, .int .i64 x, .int .u64 y, .int .u64 (z : Int), .slice P np cp] 31) = W1 at *
  by_cases hk : k = 1
  · have hkb : (k == 1) = true := by simp [hk]
    have H_hk := Lib.hid hk
    clear hk
    by_cases hx : x = 0
    · have hxb : (x == 0) = true := by simp [hx]
      have H_hx := Lib.hid hx
      clear hx
      by_cases hy : y = 0
      · have hyb : (y == 0) = true := by simp [hy]
        have H_hy := Lib.hid hy
        clear hy
        by_cases hz : (z : Int) = 0
        · have hzb : ((z : Int) == 0) = true := by simp [hz]
          have H_hz := Lib.hid hz
          clear hz
          by_cases hnp : (np : Int) = 0
          · have hnpb : ((np : Int) == 0) = true := by simp [hnp]
            have H_hnp := Lib.hid hnp
            clear hnp
            by_cases hs : s = 0
            · have hsb : (s == 0) = true := by simp [hs]
              have H_hs := Lib.hid hs
              clear hs
              by_cases ht : t = 0
              · have htb : (t == 0) = true := by simp [ht]
                have H_ht := Lib.hid ht
                clear ht
                by_cases hh : h = 0
                · have hhb : (h == 0) = true := by simp [hh]
                  have H_hh := Lib.hid hh
                  clear hh
                  by_cases hnh : (nh : Int) = 0
                  · have hnhb : ((nh : Int) == 0) = true := by simp [hnh]
                    have H_hnh := Lib.hid hnh
                    clear hnh
                    by_cases hn0 : (n : Int) = 0
                    · have hn0b : ((n : Int) == 0) = true := by simp [hn0]
                      have H_hn0 := Lib.hid hn0
                      clear hn0
                      go_wp2_with fail
                      refine (radvert_any x y z P peers np cp B W1 hy0 (HP.out.below (B1.out.mono hB)) (Nat.le_trans hB B1.out.size) hP HNP.out hpmx HPOS.out).mono ?_
                      rintro en W2 ⟨rfl, hb⟩
                      have K2 := Lib.hid (K1.out.below hb.out)
                      have B2 := Lib.hid (mtr B1.out hb.out)
                      clear K1 B1 hb k0 k1 k2 k3 k4 k5 k6 k7 k8 k9
                      obtain ⟨k0, k1, k2, k3, k4, k5, k6, k7, k8, k9⟩ := K2.out
                      by_cases hadi : advK (x, y) z peers
                      · rw [decide_eq_true hadi]
                        have qadi : adi = 1 := by rw [← Eadi.out]; exact if_pos hadi
                        clear hadi
                        have H_qadi := Lib.hid qadi
                        clear qadi
                        have : r = true := by rw [← HD.out]; exact decide_eq_true (by have q_hk := H_hk.out; have q_hx := H_hx.out; have q_hy := H_hy.out; have q_hz := H_hz.out; have q_hnp := H_hnp.out; have q_hs := H_hs.out; have q_ht := H_ht.out; have q_hh := H_hh.out; have q_hnh := H_hnh.out; have q_hn0 := H_hn0.out; have q_qadi := H_qadi.out; unfold mkI; omega)
                        subst this
                        clear HD
                        go_wp2
                        go_ret
                        exact ⟨by first | rfl | (simp; omega) | simp_all, B2⟩
                      · rw [decide_eq_false hadi]
                        have qadi : adi = 0 := by rw [← Eadi.out]; exact if_neg hadi
                        clear hadi
                        have H_qadi := Lib.hid qadi
                        clear qadi
                        have : r = false := by rw [← HD.out]; exact decide_eq_false (by have q_hk := H_hk.out; have q_hx := H_hx.out; have q_hy := H_hy.out; have q_hz := H_hz.out; have q_hnp := H_hnp.out; have q_hs := H_hs.out; have q_ht := H_ht.out; have q_hh := H_hh.out; have q_hnh := H_hnh.out; have q_hn0 := H_hn0.out; have q_qadi := H_qadi.out; unfold mkI; omega)
                        subst this
                        clear HD
                        go_wp2
                        go_ret
                        exact ⟨by first | rfl | (simp; omega) | simp_all, B2⟩
                    · have hn0b : ((n : Int) == 0) = false := by rw [beq_eq_false_iff_ne]; exact hn0
                      have H_hn0 := Lib.hid hn0
                      clear hn0
                      have : r = false := by rw [← HD.out]; exact decide_eq_false (by have q_hk := H_hk.out; have q_hx := H_hx.out; have q_hy := H_hy.out; have q_hz := H_hz.out; have q_hnp := H_hnp.out; have q_hs := H_hs.out; have q_ht := H_ht.out; have q_hh := H_hh.out; have q_hnh := H_hnh.out; have q_hn0 := H_hn0.out; unfold mkI; omega)
                      subst this
                      clear HD
                      go_wp2
                      go_ret
                      exact ⟨by first | rfl | (simp; omega) | simp_all, B1⟩
                  · have hnhb : ((nh : Int) == 0) = false := by rw [beq_eq_false_iff_ne]; exact hnh
                    have H_hnh := Lib.hid hnh
                    clear hnh
                    have : r = false := by rw [← HD.out]; exact decide_eq_false (by have q_hk := H_hk.out; have q_hx := H_hx.out; have q_hy := H_hy.out; have q_hz := H_hz.out; have q_hnp := H_hnp.out; have q_hs := H_hs.out; have q_ht := H_ht.out; have q_hh := H_hh.out; have q_hnh := H_hnh.out; unfold mkI; omega)
                    subst this
                    clear HD
                    go_wp2
                    go_ret
                    exact ⟨by first | rfl | (simp; omega) | simp_all, B1⟩
                · have hhb : (h == 0) = false := by rw [beq_eq_false_iff_ne]; exact hh
                  have H_hh := Lib.hid hh
                  clear hh
                  have : r = false := by rw [← HD.out]; exact decide_eq_false (by have q_hk := H_hk.out; have q_hx := H_hx.out; have q_hy := H_hy.out; have q_hz := H_hz.out; have q_hnp := H_hnp.out; have q_hs := H_hs.out; have q_ht := H_ht.out; have q_hh := H_hh.out; unfold mkI; omega)
                  subst this
                  clear HD
                  go_wp2
                  go_ret
                  exact ⟨by first | rfl | (simp; omega) | simp_all, B1⟩
              · have htb : (t == 0) = false := by rw [beq_eq_false_iff_ne]; exact ht
                have H_ht := Lib.hid ht
                clear ht
                have : r = false := by rw [← HD.out]; exact decide_eq_false (by have q_hk := H_hk.out; have q_hx := H_hx.out; have q_hy := H_hy.out; have q_hz := H_hz.out; have q_hnp := H_hnp.out; have q_hs := H_hs.out; have q_ht := H_ht.out; unfold mkI; omega)
                subst this
                clear HD
                go_wp2
                go_ret
                exact ⟨by first | rfl | (simp; omega) | simp_all, B1⟩
            · have hsb : (s == 0) = false := by rw [beq_eq_false_iff_ne]; exact hs
              have H_hs := Lib.hid hs
              clear hs
              have : r = false := by rw [← HD.out]; exact decide_eq_false (by have q_hk := H_hk.out; have q_hx := H_hx.out; have q_hy := H_hy.out; have q_hz := H_hz.out; have q_hnp := H_hnp.out; have q_hs := H_hs.out; unfold mkI; omega)
              subst this
              clear HD
              go_wp2
              go_ret
              exact ⟨by first | rfl | (simp; omega) | simp_all, B1⟩
          · have hnpb : ((np : Int) == 0) = false := by rw [beq_eq_false_iff_ne]; exact hnp
            have H_hnp := Lib.hid hnp
            clear hnp
            by_cases hs : s = 0
            · have hsb : (s == 0) = true := by simp [hs]
              have H_hs := Lib.hid hs
              clear hs
              by_cases ht : t = 0
              · have htb : (t == 0) = true := by simp [ht]
                have H_ht := Lib.hid ht
                clear ht
                by_cases hh : h = 0
                · have hhb : (h == 0) = true := by simp [hh]
                  have H_hh := Lib.hid hh
                  clear hh
                  by_cases hnh : (nh : Int) = 0
                  · have hnhb : ((nh : Int) == 0) = true := by simp [hnh]
                    have H_hnh := Lib.hid hnh
                    clear hnh
                    by_cases hn0 : (n : Int) = 0
                    · have hn0b : ((n : Int) == 0) = true := by simp [hn0]
                      have H_hn0 := Lib.hid hn0
                      clear hn0
                      go_wp2_with fail
                      refine (radvert_any x y z P peers np cp B W1 hy0 (HP.out.below (B1.out.mono hB)) (Nat.le_trans hB B1.out.size) hP HNP.out hpmx HPOS.out).mono ?_
                      rintro en W2 ⟨rfl, hb⟩
                      have K2 := Lib.hid (K1.out.below hb.out)
                      have B2 := Lib.hid (mtr B1.out hb.out)
                      clear K1 B1 hb k0 k1 k2 k3 k4 k5 k6 k7 k8 k9
                      obtain ⟨k0, k1, k2, k3, k4, k5, k6, k7, k8, k9⟩ := K2.out
                      by_cases hadi : advK (x, y) z peers
                      · rw [decide_eq_true hadi]
                        have qadi : adi = 1 := by rw [← Eadi.out]; exact if_pos hadi
                        clear hadi
                        have H_qadi := Lib.hid qadi
                        clear qadi
                        have : r = true := by rw [← HD.out]; exact decide_eq_true (by have q_hk := H_hk.out; have q_hx := H_hx.out; have q_hy := H_hy.out; have q_hz := H_hz.out; have q_hnp := H_hnp.out; have q_hs := H_hs.out; have q_ht := H_ht.out; have q_hh := H_hh.out; have q_hnh := H_hnh.out; have q_hn0 := H_hn0.out; have q_qadi := H_qadi.out; unfold mkI; omega)
                        subst this
                        clear HD
                        go_wp2
                        go_ret
                        exact ⟨by first | rfl | (simp; omega) | simp_all, B2⟩
                      · rw [decide_eq_false hadi]
                        have qadi : adi = 0 := by rw [← Eadi.out]; exact if_neg hadi
                        clear hadi
                        have H_qadi := Lib.hid qadi
                        clear qadi
                        have : r = false := by rw [← HD.out]; exact decide_eq_false (by have q_hk := H_hk.out; have q_hx := H_hx.out; have q_hy := H_hy.out; have q_hz := H_hz.out; have q_hnp := H_hnp.out; have q_hs := H_hs.out; have q_ht := H_ht.out; have q_hh := H_hh.out; have q_hnh := H_hnh.out; have q_hn0 := H_hn0.out; have q_qadi := H_qadi.out; unfold mkI; omega)
                        subst this
                        clear HD
                        go_wp2
                        go_ret
                        exact ⟨by first | rfl | (simp; omega) | simp_all, B2⟩
                    · have hn0b : ((n : Int) == 0) = false := by rw [beq_eq_false_iff_ne]; exact hn0
                      have H_hn0 := Lib.hid hn0
                      clear hn0
                      have : r = false := by rw [← HD.out]; exact decide_eq_false (by have q_hk := H_hk.out; have q_hx := H_hx.out; have q_hy := H_hy.out; have q_hz := H_hz.out; have q_hnp := H_hnp.out; have q_hs := H_hs.out; have q_ht := H_ht.out; have q_hh := H_hh.out; have q_hnh := H_hnh.out; have q_hn0 := H_hn0.out; unfold mkI; omega)
                      subst this
                      clear HD
                      go_wp2
                      go_ret
                      exact ⟨by first | rfl | (simp; omega) | simp_all, B1⟩
                  · have hnhb : ((nh : Int) == 0) = false := by rw [beq_eq_false_iff_ne]; exact hnh
                    have H_hnh := Lib.hid hnh
                    clear hnh
                    have : r = false := by rw [← HD.out]; exact decide_eq_false (by have q_hk := H_hk.out; have q_hx := H_hx.out; have q_hy := H_hy.out; have q_hz := H_hz.out; have q_hnp := H_hnp.out; have q_hs := H_hs.out; have q_ht := H_ht.out; have q_hh := H_hh.out; have q_hnh := H_hnh.out; unfold mkI; omega)
                    subst this
                    clear HD
                    go_wp2
                    go_ret
                    exact ⟨by first | rfl | (simp; omega) | simp_all, B1⟩
                · have hhb : (h == 0) = false := by rw [beq_eq_false_iff_ne]; exact hh
                  have H_hh := Lib.hid hh
                  clear hh
                  have : r = false := by rw [← HD.out]; exact decide_eq_false (by have q_hk := H_hk.out; have q_hx := H_hx.out; have q_hy := H_hy.out; have q_hz := H_hz.out; have q_hnp := H_hnp.out; have q_hs := H_hs.out; have q_ht := H_ht.out; have q_hh := H_hh.out; unfold mkI; omega)
                  subst this
                  clear HD
                  go_wp2
                  go_ret
                  exact ⟨by first | rfl | (simp; omega) | simp_all, B1⟩
              · have htb : (t == 0) = false := by rw [beq_eq_false_iff_ne]; exact ht
                have H_ht := Lib.hid ht
                clear ht
                have : r = false := by rw [← HD.out]; exact decide_eq_false (by have q_hk := H_hk.out; have q_hx := H_hx.out; have q_hy := H_hy.out; have q_hz := H_hz.out; have q_hnp := H_hnp.out; have q_hs := H_hs.out; have q_ht := H_ht.out; unfold mkI; omega)
                subst this
                clear HD
                go_wp2
                go_ret
                exact ⟨by first | rfl | (simp; omega) | simp_all, B1⟩
            · have hsb : (s == 0) = false := by rw [beq_eq_false_iff_ne]; exact hs
              have H_hs := Lib.hid hs
              clear hs
              have : r = false := by rw [← HD.out]; exact decide_eq_false (by have q_hk := H_hk.out; have q_hx := H_hx.out; have q_hy := H_hy.out; have q_hz := H_hz.out; have q_hnp := H_hnp.out; have q_hs := H_hs.out; unfold mkI; omega)
              subst this
              clear HD
              go_wp2
              go_ret
              exact ⟨by first | rfl | (simp; omega) | simp_all, B1⟩
        · have hzb : ((z : Int) == 0) = false := by rw [beq_eq_false_iff_ne]; exact hz
          have H_hz := Lib.hid hz
          clear hz
          by_cases hs : s = 0
          · have hsb : (s == 0) = true := by simp [hs]
            have H_hs := Lib.hid hs
            clear hs
            by_cases ht : t = 0
            · have htb : (t == 0) = true := by simp [ht]
              have H_ht := Lib.hid ht
              clear ht
              by_cases hh : h = 0
              · have hhb : (h == 0) = true := by simp [hh]
                have H_hh := Lib.hid hh
                clear hh
                by_cases hnh : (nh : Int) = 0
                · have hnhb : ((nh : Int) == 0) = true := by simp [hnh]
                  have H_hnh := Lib.hid hnh
                  clear hnh
                  by_cases hn0 : (n : Int) = 0
                  · have hn0b : ((n : Int) == 0) = true := by simp [hn0]
                    have H_hn0 := Lib.hid hn0
                    clear hn0
                    go_wp2_with fail
                    refine (radvert_any x y z P peers np cp B W1 hy0 (HP.out.below (B1.out.mono hB)) (Nat.le_trans hB B1.out.size) hP HNP.out hpmx HPOS.out).mono ?_
                    rintro en W2 ⟨rfl, hb⟩
                    have K2 := Lib.hid (K1.out.below hb.out)
                    have B2 := Lib.hid (mtr B1.out hb.out)
                    clear K1 B1 hb k0 k1 k2 k3 k4 k5 k6 k7 k8 k9
                    obtain ⟨k0, k1, k2, k3, k4, k5, k6, k7, k8, k9⟩ := K2.out
                    by_cases hadi : advK (x, y) z peers
                    · rw [decide_eq_true hadi]
                      have qadi : adi = 1 := by rw [← Eadi.out]; exact if_pos hadi
                      clear hadi
                      have H_qadi := Lib.hid qadi
                      clear qadi
                      have : r = true := by rw [← HD.out]; exact decide_eq_true (by have q_hk := H_hk.out; have q_hx := H_hx.out; have q_hy := H_hy.out; have q_hz := H_hz.out; have q_hs := H_hs.out; have q_ht := H_ht.out; have q_hh := H_hh.out; have q_hnh := H_hnh.out; have q_hn0 := H_hn0.out; have q_qadi := H_qadi.out; unfold mkI; omega)
                      subst this
                      clear HD
                      go_wp2
                      go_ret
                      exact ⟨by first | rfl | (simp; omega) | simp_all, B2⟩
                    · rw [decide_eq_false hadi]
                      have qadi : adi = 0 := by rw [← Eadi.out]; exact if_neg hadi
                      clear hadi
                      have H_qadi := Lib.hid qadi
                      clear qadi
                      have : r = false := by rw [← HD.out]; exact decide_eq_false (by have q_hk := H_hk.out; have q_hx := H_hx.out; have q_hy := H_hy.out; have q_hz := H_hz.out; have q_hs := H_hs.out; have q_ht := H_ht.out; have q_hh := H_hh.out; have q_hnh := H_hnh.out; have q_hn0 := H_hn0.out; have q_qadi := H_qadi.out; unfold mkI; omega)
                      subst this
                      clear HD
                      go_wp2
                      go_ret
                      exact ⟨by first | rfl | (simp; omega) | simp_all, B2⟩
                  · have hn0b : ((n : Int) == 0) = false := by rw [beq_eq_false_iff_ne]; exact hn0
                    have H_hn0 := Lib.hid hn0
                    clear hn0
                    have : r = false := by rw [← HD.out]; exact decide_eq_false (by have q_hk := H_hk.out; have q_hx := H_hx.out; have q_hy := H_hy.out; have q_hz := H_hz.out; have q_hs := H_hs.out; have q_ht := H_ht.out; have q_hh := H_hh.out; have q_hnh := H_hnh.out; have q_hn0 := H_hn0.out; unfold mkI; omega)
                    subst this
                    clear HD
                    go_wp2
                    go_ret
                    exact ⟨by first | rfl | (simp; omega) | simp_all, B1⟩
                · have hnhb : ((nh : Int) == 0) = false := by rw [beq_eq_false_iff_ne]; exact hnh
                  have H_hnh := Lib.hid hnh
                  clear hnh
                  have : r = false := by rw [← HD.out]; exact decide_eq_false (by have q_hk := H_hk.out; have q_hx := H_hx.out; have q_hy := H_hy.out; have q_hz := H_hz.out; have q_hs := H_hs.out; have q_ht := H_ht.out; have q_hh := H_hh.out; have q_hnh := H_hnh.out; unfold mkI; omega)
                  subst this
                  clear HD
                  go_wp2
                  go_ret
                  exact ⟨by first | rfl | (simp; omega) | simp_all, B1⟩
              · have hhb : (h == 0) = false := by rw [beq_eq_false_iff_ne]; exact hh
                have H_hh := Lib.hid hh
                clear hh
                have : r = false := by rw [← HD.out]; exact decide_eq_false (by have q_hk := H_hk.out; have q_hx := H_hx.out; have q_hy := H_hy.out; have q_hz := H_hz.out; have q_hs := H_hs.out; have q_ht := H_ht.out; have q_hh := H_hh.out; unfold mkI; omega)
                subst this
                clear HD
                go_wp2
                go_ret
                exact ⟨by first | rfl | (simp; omega) | simp_all, B1⟩
            · have htb : (t == 0) = false := by rw [beq_eq_false_iff_ne]; exact ht
              have H_ht := Lib.hid ht
              clear ht
              have : r = false := by rw [← HD.out]; exact decide_eq_false (by have q_hk := H_hk.out; have q_hx := H_hx.out; have q_hy := H_hy.out; have q_hz := H_hz.out; have q_hs := H_hs.out; have q_ht := H_ht.out; unfold mkI; omega)
              subst this
              clear HD
              go_wp2
              go_ret
              exact ⟨by first | rfl | (simp; omega) | simp_all, B1⟩
          · have hsb : (s == 0) = false := by rw [beq_eq_false_iff_ne]; exact hs
            have H_hs := Lib.hid hs
            clear hs
            have : r = false := by rw [← HD.out]; exact decide_eq_false (by have q_hk := H_hk.out; have q_hx := H_hx.out; have q_hy := H_hy.out; have q_hz := H_hz.out; have q_hs := H_hs.out; unfold mkI; omega)
            subst this
            clear HD
            go_wp2
            go_ret
            exact ⟨by first | rfl | (simp; omega) | simp_all, B1⟩
      · have hyb : (y == 0) = false := by rw [beq_eq_false_iff_ne]; exact hy
        have H_hy := Lib.hid hy
        clear hy
        by_cases hs : s = 0
        · have hsb : (s == 0) = true := by simp [hs]
          have H_hs := Lib.hid hs
          clear hs
          by_cases ht : t = 0
          · have htb : (t == 0) = true := by simp [ht]
            have H_ht := Lib.hid ht
            clear ht
            by_cases hh : h = 0
            · have hhb : (h == 0) = true := by simp [hh]
              have H_hh := Lib.hid hh
              clear hh
              by_cases hnh : (nh : Int) = 0
              · have hnhb : ((nh : Int) == 0) = true := by simp [hnh]
                have H_hnh := Lib.hid hnh
                clear hnh
                by_cases hn0 : (n : Int) = 0
                · have hn0b : ((n : Int) == 0) = true := by simp [hn0]
                  have H_hn0 := Lib.hid hn0
                  clear hn0
                  go_wp2_with fail
                  refine (radvert_any x y z P peers np cp B W1 hy0 (HP.out.below (B1.out.mono hB)) (Nat.le_trans hB B1.out.size) hP HNP.out hpmx HPOS.out).mono ?_
                  rintro en W2 ⟨rfl, hb⟩
                  have K2 := Lib.hid (K1.out.below hb.out)
                  have B2 := Lib.hid (mtr B1.out hb.out)
                  clear K1 B1 hb k0 k1 k2 k3 k4 k5 k6 k7 k8 k9
                  obtain ⟨k0, k1, k2, k3, k4, k5, k6, k7, k8, k9⟩ := K2.out
                  by_cases hadi : advK (x, y) z peers
                  · rw [decide_eq_true hadi]
                    have qadi : adi = 1 := by rw [← Eadi.out]; exact if_pos hadi
                    clear hadi
                    have H_qadi := Lib.hid qadi
                    clear qadi
                    have : r = true := by rw [← HD.out]; exact decide_eq_true (by have q_hk := H_hk.out; have q_hx := H_hx.out; have q_hy := H_hy.out; have q_hs := H_hs.out; have q_ht := H_ht.out; have q_hh := H_hh.out; have q_hnh := H_hnh.out; have q_hn0 := H_hn0.out; have q_qadi := H_qadi.out; unfold mkI; omega)
                    subst this
                    clear HD
                    go_wp2
                    go_ret
                    exact ⟨by first | rfl | (simp; omega) | simp_all, B2⟩
                  · rw [decide_eq_false hadi]
                    have qadi : adi = 0 := by rw [← Eadi.out]; exact if_neg hadi
                    clear hadi
                    have H_qadi := Lib.hid qadi
                    clear qadi
                    have : r = false := by rw [← HD.out]; exact decide_eq_false (by have q_hk := H_hk.out; have q_hx := H_hx.out; have q_hy := H_hy.out; have q_hs := H_hs.out; have q_ht := H_ht.out; have q_hh := H_hh.out; have q_hnh := H_hnh.out; have q_hn0 := H_hn0.out; have q_qadi := H_qadi.out; unfold mkI; omega)
                    subst this
                    clear HD
                    go_wp2
                    go_ret
                    exact ⟨by first | rfl | (simp; omega) | simp_all, B2⟩
                · have hn0b : ((n : Int) == 0) = false := by rw [beq_eq_false_iff_ne]; exact hn0
                  have H_hn0 := Lib.hid hn0
                  clear hn0
                  have : r = false := by rw [← HD.out]; exact decide_eq_false (by have q_hk := H_hk.out; have q_hx := H_hx.out; have q_hy := H_hy.out; have q_hs := H_hs.out; have q_ht := H_ht.out; have q_hh := H_hh.out; have q_hnh := H_hnh.out; have q_hn0 := H_hn0.out; unfold mkI; omega)
                  subst this
                  clear HD
                  go_wp2
                  go_ret
                  exact ⟨by first | rfl | (simp; omega) | simp_all, B1⟩
              · have hnhb : ((nh : Int) == 0) = false := by rw [beq_eq_false_iff_ne]; exact hnh
                have H_hnh := Lib.hid hnh
                clear hnh
                have : r = false := by rw [← HD.out]; exact decide_eq_false (by have q_hk := H_hk.out; have q_hx := H_hx.out; have q_hy := H_hy.out; have q_hs := H_hs.out; have q_ht := H_ht.out; have q_hh := H_hh.out; have q_hnh := H_hnh.out; unfold mkI; omega)
                subst this
                clear HD
                go_wp2
                go_ret
                exact ⟨by first | rfl | (simp; omega) | simp_all, B1⟩
            · have hhb : (h == 0) = false := by rw [beq_eq_false_iff_ne]; exact hh
              have H_hh := Lib.hid hh
              clear hh
              have : r = false := by rw [← HD.out]; exact decide_eq_false (by have q_hk := H_hk.out; have q_hx := H_hx.out; have q_hy := H_hy.out; have q_hs := H_hs.out; have q_ht := H_ht.out; have q_hh := H_hh.out; unfold mkI; omega)
              subst this
              clear HD
              go_wp2
              go_ret
              exact ⟨by first | rfl | (simp; omega) | simp_all, B1⟩
          · have htb : (t == 0) = false := by rw [beq_eq_false_iff_ne]; exact ht
            have H_ht := Lib.hid ht
            clear ht
            have : r = false := by rw [← HD.out]; exact decide_eq_false (by have q_hk := H_hk.out; have q_hx := H_hx.out; have q_hy := H_hy.out; have q_hs := H_hs.out; have q_ht := H_ht.out; unfold mkI; omega)
            subst this
            clear HD
            go_wp2
            go_ret
            exact ⟨by first | rfl | (simp; omega) | simp_all, B1⟩
        · have hsb : (s == 0) = false := by rw [beq_eq_false_iff_ne]; exact hs
          have H_hs := Lib.hid hs
          clear hs
          have : r = false := by rw [← HD.out]; exact decide_eq_false (by have q_hk := H_hk.out; have q_hx := H_hx.out; have q_hy := H_hy.out; have q_hs := H_hs.out; unfold mkI; omega)
          subst this
          clear HD
          go_wp2
          go_ret
          exact ⟨by first | rfl | (simp; omega) | simp_all, B1⟩
    · have hxb : (x == 0) = false := by rw [beq_eq_false_iff_ne]; exact hx
      have H_hx := Lib.hid hx
      clear hx
      by_cases hs : s = 0
      · have hsb : (s == 0) = true := by simp [hs]
        have H_hs := Lib.hid hs
        clear hs
        by_cases ht : t = 0
        · have htb : (t == 0) = true := by simp [ht]
          have H_ht := Lib.hid ht
          clear ht
          by_cases hh : h = 0
          · have hhb : (h == 0) = true := by simp [hh]
            have H_hh := Lib.hid hh
            clear hh
            by_cases hnh : (nh : Int) = 0
            · have hnhb : ((nh : Int) == 0) = true := by simp [hnh]
              have H_hnh := Lib.hid hnh
              clear hnh
              by_cases hn0 : (n : Int) = 0
              · have hn0b : ((n : Int) == 0) = true := by simp [hn0]
                have H_hn0 := Lib.hid hn0
                clear hn0
                go_wp2_with fail
                refine (radvert_any x y z P peers np cp B W1 hy0 (HP.out.below (B1.out.mono hB)) (Nat.le_trans hB B1.out.size) hP HNP.out hpmx HPOS.out).mono ?_
                rintro en W2 ⟨rfl, hb⟩
                have K2 := Lib.hid (K1.out.below hb.out)
                have B2 := Lib.hid (mtr B1.out hb.out)
                clear K1 B1 hb k0 k1 k2 k3 k4 k5 k6 k7 k8 k9
                obtain ⟨k0, k1, k2, k3, k4, k5, k6, k7, k8, k9⟩ := K2.out
                by_cases hadi : advK (x, y) z peers
                · rw [decide_eq_true hadi]
                  have qadi : adi = 1 := by rw [← Eadi.out]; exact if_pos hadi
                  clear hadi
                  have H_qadi := Lib.hid qadi
                  clear qadi
                  have : r = true := by rw [← HD.out]; exact decide_eq_true (by have q_hk := H_hk.out; have q_hx := H_hx.out; have q_hs := H_hs.out; have q_ht := H_ht.out; have q_hh := H_hh.out; have q_hnh := H_hnh.out; have q_hn0 := H_hn0.out; have q_qadi := H_qadi.out; unfold mkI; omega)
                  subst this
                  clear HD
                  go_wp2
                  go_ret
                  exact ⟨by first | rfl | (simp; omega) | simp_all, B2⟩
                · rw [decide_eq_false hadi]
                  have qadi : adi = 0 := by rw [← Eadi.out]; exact if_neg hadi
                  clear hadi
                  have H_qadi := Lib.hid qadi
                  clear qadi
                  have : r = false := by rw [← HD.out]; exact decide_eq_false (by have q_hk := H_hk.out; have q_hx := H_hx.out; have q_hs := H_hs.out; have q_ht := H_ht.out; have q_hh := H_hh.out; have q_hnh := H_hnh.out; have q_hn0 := H_hn0.out; have q_qadi := H_qadi.out; unfold mkI; omega)
                  subst this
                  clear HD
                  go_wp2
                  go_ret
                  exact ⟨by first | rfl | (simp; omega) | simp_all, B2⟩
              · have hn0b : ((n : Int) == 0) = false := by rw [beq_eq_false_iff_ne]; exact hn0
                have H_hn0 := Lib.hid hn0
                clear hn0
                have : r = false := by rw [← HD.out]; exact decide_eq_false (by have q_hk := H_hk.out; have q_hx := H_hx.out; have q_hs := H_hs.out; have q_ht := H_ht.out; have q_hh := H_hh.out; have q_hnh := H_hnh.out; have q_hn0 := H_hn0.out; unfold mkI; omega)
                subst this
                clear HD
                go_wp2
                go_ret
                exact ⟨by first | rfl | (simp; omega) | simp_all, B1⟩
            · have hnhb : ((nh : Int) == 0) = false := by rw [beq_eq_false_iff_ne]; exact hnh
              have H_hnh := Lib.hid hnh
              clear hnh
              have : r = false := by rw [← HD.out]; exact decide_eq_false (by have q_hk := H_hk.out; have q_hx := H_hx.out; have q_hs := H_hs.out; have q_ht := H_ht.out; have q_hh := H_hh.out; have q_hnh := H_hnh.out; unfold mkI; omega)
              subst this
              clear HD
              go_wp2
              go_ret
              exact ⟨by first | rfl | (simp; omega) | simp_all, B1⟩
          · have hhb : (h == 0) = false := by rw [beq_eq_false_iff_ne]; exact hh
            have H_hh := Lib.hid hh
            clear hh
            have : r = false := by rw [← HD.out]; exact decide_eq_false (by have q_hk := H_hk.out; have q_hx := H_hx.out; have q_hs := H_hs.out; have q_ht := H_ht.out; have q_hh := H_hh.out; unfold mkI; omega)
            subst this
            clear HD
            go_wp2
            go_ret
            exact ⟨by first | rfl | (simp; omega) | simp_all, B1⟩
        · have htb : (t == 0) = false := by rw [beq_eq_false_iff_ne]; exact ht
          have H_ht := Lib.hid ht
          clear ht
          have : r = false := by rw [← HD.out]; exact decide_eq_false (by have q_hk := H_hk.out; have q_hx := H_hx.out; have q_hs := H_hs.out; have q_ht := H_ht.out; unfold mkI; omega)
          subst this
          clear HD
          go_wp2
          go_ret
          exact ⟨by first | rfl | (simp; omega) | simp_all, B1⟩
      · have hsb : (s == 0) = false := by rw [beq_eq_false_iff_ne]; exact hs
        have H_hs := Lib.hid hs
        clear hs
        have : r = false := by rw [← HD.out]; exact decide_eq_false (by have q_hk := H_hk.out; have q_hx := H_hx.out; have q_hs := H_hs.out; unfold mkI; omega)
        subst this
        clear HD
        go_wp2
        go_ret
        exact ⟨by first | rfl | (simp; omega) | simp_all, B1⟩
  · have hkb : (k == 1) = false := by rw [beq_eq_false_iff_ne]; exact hk
    have H_hk := Lib.hid hk
    clear hk
    by_cases hx : x = 0
    · have hxb : (x == 0) = true := by simp [hx]
      have H_hx := Lib.hid hx
      clear hx
      by_cases hy : y = 0
      · have hyb : (y == 0) = true := by simp [hy]
        have H_hy := Lib.hid hy
        clear hy
        by_cases hz : (z : Int) = 0
        · have hzb : ((z : Int) == 0) = true := by simp [hz]
          have H_hz := Lib.hid hz
          clear hz
          by_cases hnp : (np : Int) = 0
          · have hnpb : ((np : Int) == 0) = true := by simp [hnp]
            have H_hnp := Lib.hid hnp
            clear hnp
            by_cases hs : s = 0
            · have hsb : (s == 0) = true := by simp [hs]
              have H_hs := Lib.hid hs
              clear hs
              by_cases ht : t = 0
              · have htb : (t == 0) = true := by simp [ht]
                have H_ht := Lib.hid ht
                clear ht
                by_cases hh : h = 0
                · have hhb : (h == 0) = true := by simp [hh]
                  have H_hh := Lib.hid hh
                  clear hh
                  by_cases hnh : (nh : Int) = 0
                  · have hnhb : ((nh : Int) == 0) = true := by simp [hnh]
                    have H_hnh := Lib.hid hnh
                    clear hnh
                    by_cases hn0 : (n : Int) = 0
                    · have hn0b : ((n : Int) == 0) = true := by simp [hn0]
                      have H_hn0 := Lib.hid hn0
                      clear hn0
                      have hnl : ¬ lifeK (s, t) := fun hl => by have q1 := H_hs.out; have q2 := hl.1.1; omega
                      go_wp2_with fail
                      refine (rlife_any (s, t) ht0 W1).mono ?_
                      rintro en W2 ⟨rfl, hb⟩
                      have K2 := Lib.hid (K1.out.below hb.out)
                      have B2 := Lib.hid (mtr B1.out hb.out)
                      clear K1 B1 hb k0 k1 k2 k3 k4 k5 k6 k7 k8 k9
                      obtain ⟨k0, k1, k2, k3, k4, k5, k6, k7, k8, k9⟩ := K2.out
                      by_cases hlfi : lifeK (s, t)
                      · rw [decide_eq_true hlfi]
                        have qlfi : lfi = 1 := by rw [← Elfi.out]; exact if_pos hlfi
                        clear hlfi
                        have H_qlfi := Lib.hid qlfi
                        clear qlfi
                        exact absurd H_qlfi.out (by rw [← Elfi.out, if_neg hnl]; decide)
                      · rw [decide_eq_false hlfi]
                        have qlfi : lfi = 0 := by rw [← Elfi.out]; exact if_neg hlfi
                        clear hlfi
                        have H_qlfi := Lib.hid qlfi
                        clear qlfi
                        clear hnl
                        have : r = false := by rw [← HD.out]; exact decide_eq_false (by have q_hk := H_hk.out; have q_hx := H_hx.out; have q_hy := H_hy.out; have q_hz := H_hz.out; have q_hnp := H_hnp.out; have q_hs := H_hs.out; have q_ht := H_ht.out; have q_hh := H_hh.out; have q_hnh := H_hnh.out; have q_hn0 := H_hn0.out; have q_qlfi := H_qlfi.out; unfold mkI; omega)
                        subst this
                        clear HD
                        go_wp2
                        go_ret
                        exact ⟨by first | rfl | (simp; omega) | simp_all, B2⟩
                    · have hn0b : ((n : Int) == 0) = false := by rw [beq_eq_false_iff_ne]; exact hn0
                      have H_hn0 := Lib.hid hn0
                      clear hn0
                      have hnl : ¬ lifeK (s, t) := fun hl => by have q1 := H_hs.out; have q2 := hl.1.1; omega
                      go_wp2_with fail
                      refine (rlife_any (s, t) ht0 W1).mono ?_
                      rintro en W2 ⟨rfl, hb⟩
                      have K2 := Lib.hid (K1.out.below hb.out)
                      have B2 := Lib.hid (mtr B1.out hb.out)
                      clear K1 B1 hb k0 k1 k2 k3 k4 k5 k6 k7 k8 k9
                      obtain ⟨k0, k1, k2, k3, k4, k5, k6, k7, k8, k9⟩ := K2.out
                      by_cases hlfi : lifeK (s, t)
                      · rw [decide_eq_true hlfi]
                        have qlfi : lfi = 1 := by rw [← Elfi.out]; exact if_pos hlfi
                        clear hlfi
                        have H_qlfi := Lib.hid qlfi
                        clear qlfi
                        exact absurd H_qlfi.out (by rw [← Elfi.out, if_neg hnl]; decide)
                      · rw [decide_eq_false hlfi]
                        have qlfi : lfi = 0 := by rw [← Elfi.out]; exact if_neg hlfi
                        clear hlfi
                        have H_qlfi := Lib.hid qlfi
                        clear qlfi
                        clear hnl
                        have : r = false := by rw [← HD.out]; exact decide_eq_false (by have q_hk := H_hk.out; have q_hx := H_hx.out; have q_hy := H_hy.out; have q_hz := H_hz.out; have q_hnp := H_hnp.out; have q_hs := H_hs.out; have q_ht := H_ht.out; have q_hh := H_hh.out; have q_hnh := H_hnh.out; have q_hn0 := H_hn0.out; have q_qlfi := H_qlfi.out; unfold mkI; omega)
                        subst this
                        clear HD
                        go_wp2
                        go_ret
                        exact ⟨by first | rfl | (simp; omega) | simp_all, B2⟩
                  · have hnhb : ((nh : Int) == 0) = false := by rw [beq_eq_false_iff_ne]; exact hnh
                    have H_hnh := Lib.hid hnh
                    clear hnh
                    have hnl : ¬ lifeK (s, t) := fun hl => by have q1 := H_hs.out; have q2 := hl.1.1; omega
                    go_wp2_with fail
                    refine (rlife_any (s, t) ht0 W1).mono ?_
                    rintro en W2 ⟨rfl, hb⟩
                    have K2 := Lib.hid (K1.out.below hb.out)
                    have B2 := Lib.hid (mtr B1.out hb.out)
                    clear K1 B1 hb k0 k1 k2 k3 k4 k5 k6 k7 k8 k9
                    obtain ⟨k0, k1, k2, k3, k4, k5, k6, k7, k8, k9⟩ := K2.out
                    by_cases hlfi : lifeK (s, t)
                    · rw [decide_eq_true hlfi]
                      have qlfi : lfi = 1 := by rw [← Elfi.out]; exact if_pos hlfi
                      clear hlfi
                      have H_qlfi := Lib.hid qlfi
                      clear qlfi
                      exact absurd H_qlfi.out (by rw [← Elfi.out, if_neg hnl]; decide)
                    · rw [decide_eq_false hlfi]
                      have qlfi : lfi = 0 := by rw [← Elfi.out]; exact if_neg hlfi
                      clear hlfi
                      have H_qlfi := Lib.hid qlfi
                      clear qlfi
                      clear hnl
                      have : r = false := by rw [← HD.out]; exact decide_eq_false (by have q_hk := H_hk.out; have q_hx := H_hx.out; have q_hy := H_hy.out; have q_hz := H_hz.out; have q_hnp := H_hnp.out; have q_hs := H_hs.out; have q_ht := H_ht.out; have q_hh := H_hh.out; have q_hnh := H_hnh.out; have q_qlfi := H_qlfi.out; unfold mkI; omega)
                      subst this
                      clear HD
                      go_wp2
                      go_ret
                      exact ⟨by first | rfl | (simp; omega) | simp_all, B2⟩
                · have hhb : (h == 0) = false := by rw [beq_eq_false_iff_ne]; exact hh
                  have H_hh := Lib.hid hh
                  clear hh
                  have hnl : ¬ lifeK (s, t) := fun hl => by have q1 := H_hs.out; have q2 := hl.1.1; omega
                  go_wp2_with fail
                  refine (rlife_any (s, t) ht0 W1).mono ?_
                  rintro en W2 ⟨rfl, hb⟩
                  have K2 := Lib.hid (K1.out.below hb.out)
                  have B2 := Lib.hid (mtr B1.out hb.out)
                  clear K1 B1 hb k0 k1 k2 k3 k4 k5 k6 k7 k8 k9
                  obtain ⟨k0, k1, k2, k3, k4, k5, k6, k7, k8, k9⟩ := K2.out
                  by_cases hlfi : lifeK (s, t)
                  · rw [decide_eq_true hlfi]
                    have qlfi : lfi = 1 := by rw [← Elfi.out]; exact if_pos hlfi
                    clear hlfi
                    have H_qlfi := Lib.hid qlfi
                    clear qlfi
                    exact absurd H_qlfi.out (by rw [← Elfi.out, if_neg hnl]; decide)
                  · rw [decide_eq_false hlfi]
                    have qlfi : lfi = 0 := by rw [← Elfi.out]; exact if_neg hlfi
                    clear hlfi
                    have H_qlfi := Lib.hid qlfi
                    clear qlfi
                    clear hnl
                    have : r = false := by rw [← HD.out]; exact decide_eq_false (by have q_hk := H_hk.out; have q_hx := H_hx.out; have q_hy := H_hy.out; have q_hz := H_hz.out; have q_hnp := H_hnp.out; have q_hs := H_hs.out; have q_ht := H_ht.out; have q_hh := H_hh.out; have q_qlfi := H_qlfi.out; unfold mkI; omega)
                    subst this
                    clear HD
                    go_wp2
                    go_ret
                    exact ⟨by first | rfl | (simp; omega) | simp_all, B2⟩
              · have htb : (t == 0) = false := by rw [beq_eq_false_iff_ne]; exact ht
                have H_ht := Lib.hid ht
                clear ht
                have hnl : ¬ lifeK (s, t) := fun hl => by have q1 := H_hs.out; have q2 := hl.1.1; omega
                go_wp2_with fail
                refine (rlife_any (s, t) ht0 W1).mono ?_
                rintro en W2 ⟨rfl, hb⟩
                have K2 := Lib.hid (K1.out.below hb.out)
                have B2 := Lib.hid (mtr B1.out hb.out)
                clear K1 B1 hb k0 k1 k2 k3 k4 k5 k6 k7 k8 k9
                obtain ⟨k0, k1, k2, k3, k4, k5, k6, k7, k8, k9⟩ := K2.out
                by_cases hlfi : lifeK (s, t)
                · rw [decide_eq_true hlfi]
                  have qlfi : lfi = 1 := by rw [← Elfi.out]; exact if_pos hlfi
                  clear hlfi
                  have H_qlfi := Lib.hid qlfi
                  clear qlfi
                  exact absurd H_qlfi.out (by rw [← Elfi.out, if_neg hnl]; decide)
                · rw [decide_eq_false hlfi]
                  have qlfi : lfi = 0 := by rw [← Elfi.out]; exact if_neg hlfi
                  clear hlfi
                  have H_qlfi := Lib.hid qlfi
                  clear qlfi
                  clear hnl
                  have : r = false := by rw [← HD.out]; exact decide_eq_false (by have q_hk := H_hk.out; have q_hx := H_hx.out; have q_hy := H_hy.out; have q_hz := H_hz.out; have q_hnp := H_hnp.out; have q_hs := H_hs.out; have q_ht := H_ht.out; have q_qlfi := H_qlfi.out; unfold mkI; omega)
                  subst this
                  clear HD
                  go_wp2
                  go_ret
                  exact ⟨by first | rfl | (simp; omega) | simp_all, B2⟩
            · have hsb : (s == 0) = false := by rw [beq_eq_false_iff_ne]; exact hs
              have H_hs := Lib.hid hs
              clear hs
              go_wp2_with fail
              refine (rlife_any (s, t) ht0 W1).mono ?_
              rintro en W2 ⟨rfl, hb⟩
              have K2 := Lib.hid (K1.out.below hb.out)
              have B2 := Lib.hid (mtr B1.out hb.out)
              clear K1 B1 hb k0 k1 k2 k3 k4 k5 k6 k7 k8 k9
              obtain ⟨k0, k1, k2, k3, k4, k5, k6, k7, k8, k9⟩ := K2.out
              by_cases hlfi : lifeK (s, t)
              · rw [decide_eq_true hlfi]
                have qlfi : lfi = 1 := by rw [← Elfi.out]; exact if_pos hlfi
                clear hlfi
                have H_qlfi := Lib.hid qlfi
                clear qlfi
                by_cases hh1 : h < 0
                · have hh1b : decide (h < 0) = true := decide_eq_true hh1
                  have H_hh1 := Lib.hid hh1
                  clear hh1
                  have : r = false := by rw [← HD.out]; exact decide_eq_false (by have q_hk := H_hk.out; have q_hx := H_hx.out; have q_hy := H_hy.out; have q_hz := H_hz.out; have q_hnp := H_hnp.out; have q_hs := H_hs.out; have q_qlfi := H_qlfi.out; have q_hh1 := H_hh1.out; unfold mkI; omega)
                  subst this
                  clear HD
                  go_wp2
                  go_ret
                  exact ⟨by first | rfl | (simp; omega) | simp_all, B2⟩
                · have hh1b : decide (h < 0) = false := decide_eq_false hh1
                  have H_hh1 := Lib.hid hh1
                  clear hh1
                  by_cases hh2 : 8 < h
                  · have hh2b : decide (8 < h) = true := decide_eq_true hh2
                    have H_hh2 := Lib.hid hh2
                    clear hh2
                    have : r = false := by rw [← HD.out]; exact decide_eq_false (by have q_hk := H_hk.out; have q_hx := H_hx.out; have q_hy := H_hy.out; have q_hz := H_hz.out; have q_hnp := H_hnp.out; have q_hs := H_hs.out; have q_qlfi := H_qlfi.out; have q_hh1 := H_hh1.out; have q_hh2 := H_hh2.out; unfold mkI; omega)
                    subst this
                    clear HD
                    go_wp2
                    go_ret
                    exact ⟨by first | rfl | (simp; omega) | simp_all, B2⟩
                  · have hh2b : decide (8 < h) = false := decide_eq_false hh2
                    have H_hh2 := Lib.hid hh2
                    clear hh2
                    go_wp2_with fail
                    refine (rheads_any k s t h x y (z : Int) H A P nh ch n cap np cp heads B W2 (HH.out.below (B2.out.mono hB)) (Nat.le_trans hB B2.out.size) HNH.out hhmx).mono ?_
                    rintro en W3 ⟨rfl, hb⟩
                    have K3 := Lib.hid (K2.out.below hb.out)
                    have B3 := Lib.hid (mtr B2.out hb.out)
                    clear K2 B2 hb k0 k1 k2 k3 k4 k5 k6 k7 k8 k9
                    obtain ⟨k0, k1, k2, k3, k4, k5, k6, k7, k8, k9⟩ := K3.out
                    by_cases hhki : headsK k s heads
                    · rw [decide_eq_true hhki]
                      have qhki : hki = 1 := by rw [← Ehki.out]; exact if_pos hhki
                      clear hhki
                      have H_qhki := Lib.hid qhki
                      clear qhki
                      by_cases hk2 : k = 2
                      · have hk2b : (k == 2) = true := by simp [hk2]
                        have H_hk2 := Lib.hid hk2
                        clear hk2
                        by_cases ha : (1 : Int) ≤ (n : Int)
                        · have hab : decide ((1 : Int) ≤ (n : Int)) = true := decide_eq_true ha
                          have H_ha := Lib.hid ha
                          clear ha
                          by_cases hb3 : (n : Int) ≤ 320
                          · have hb3b : decide ((n : Int) ≤ 320) = true := decide_eq_true hb3
                            have H_hb3 := Lib.hid hb3
                            clear hb3
                            have : r = true := by rw [← HD.out]; exact decide_eq_true (by have q_hk := H_hk.out; have q_hx := H_hx.out; have q_hy := H_hy.out; have q_hz := H_hz.out; have q_hnp := H_hnp.out; have q_hs := H_hs.out; have q_qlfi := H_qlfi.out; have q_hh1 := H_hh1.out; have q_hh2 := H_hh2.out; have q_qhki := H_qhki.out; have q_hk2 := H_hk2.out; have q_ha := H_ha.out; have q_hb3 := H_hb3.out; unfold mkI; omega)
                            subst this
                            clear HD
                            go_wp2
                            go_ret
                            exact ⟨by first | rfl | (simp; omega) | simp_all, B3⟩
                          · have hb3b : decide ((n : Int) ≤ 320) = false := decide_eq_false hb3
                            have H_hb3 := Lib.hid hb3
                            clear hb3
                            have hk3b : (k == 3) = false := by have := H_hk2.out; rw [beq_eq_false_iff_ne]; omega
                            have : r = false := by rw [← HD.out]; exact decide_eq_false (by have q_hk := H_hk.out; have q_hx := H_hx.out; have q_hy := H_hy.out; have q_hz := H_hz.out; have q_hnp := H_hnp.out; have q_hs := H_hs.out; have q_qlfi := H_qlfi.out; have q_hh1 := H_hh1.out; have q_hh2 := H_hh2.out; have q_qhki := H_qhki.out; have q_hk2 := H_hk2.out; have q_ha := H_ha.out; have q_hb3 := H_hb3.out; unfold mkI; omega)
                            subst this
                            clear HD
                            go_wp2
                            go_ret
                            exact ⟨by first | rfl | (simp; omega) | simp_all, B3⟩
                        · have hab : decide ((1 : Int) ≤ (n : Int)) = false := decide_eq_false ha
                          have H_ha := Lib.hid ha
                          clear ha
                          have hk3b : (k == 3) = false := by have := H_hk2.out; rw [beq_eq_false_iff_ne]; omega
                          have : r = false := by rw [← HD.out]; exact decide_eq_false (by have q_hk := H_hk.out; have q_hx := H_hx.out; have q_hy := H_hy.out; have q_hz := H_hz.out; have q_hnp := H_hnp.out; have q_hs := H_hs.out; have q_qlfi := H_qlfi.out; have q_hh1 := H_hh1.out; have q_hh2 := H_hh2.out; have q_qhki := H_qhki.out; have q_hk2 := H_hk2.out; have q_ha := H_ha.out; unfold mkI; omega)
                          subst this
                          clear HD
                          go_wp2
                          go_ret
                          exact ⟨by first | rfl | (simp; omega) | simp_all, B3⟩
                      · have hk2b : (k == 2) = false := by rw [beq_eq_false_iff_ne]; exact hk2
                        have H_hk2 := Lib.hid hk2
                        clear hk2
                        by_cases hk3 : k = 3
                        · have hk3b : (k == 3) = true := by simp [hk3]
                          have H_hk3 := Lib.hid hk3
                          clear hk3
                          by_cases hn1 : (n : Int) = 0
                          · have hn1b : ((n : Int) == 0) = true := by simp [hn1]
                            have H_hn1 := Lib.hid hn1
                            clear hn1
                            by_cases hn2 : (nh : Int) = 1
                            · have hn2b : ((nh : Int) == 1) = true := by simp [hn2]
                              have H_hn2 := Lib.hid hn2
                              clear hn2
                              have : r = true := by rw [← HD.out]; exact decide_eq_true (by have q_hk := H_hk.out; have q_hx := H_hx.out; have q_hy := H_hy.out; have q_hz := H_hz.out; have q_hnp := H_hnp.out; have q_hs := H_hs.out; have q_qlfi := H_qlfi.out; have q_hh1 := H_hh1.out; have q_hh2 := H_hh2.out; have q_qhki := H_qhki.out; have q_hk2 := H_hk2.out; have q_hk3 := H_hk3.out; have q_hn1 := H_hn1.out; have q_hn2 := H_hn2.out; unfold mkI; omega)
                              subst this
                              clear HD
                              go_wp2
                              go_ret
                              exact ⟨by first | rfl | (simp; omega) | simp_all, B3⟩
                            · have hn2b : ((nh : Int) == 1) = false := by rw [beq_eq_false_iff_ne]; exact hn2
                              have H_hn2 := Lib.hid hn2
                              clear hn2
                              have : r = false := by rw [← HD.out]; exact decide_eq_false (by have q_hk := H_hk.out; have q_hx := H_hx.out; have q_hy := H_hy.out; have q_hz := H_hz.out; have q_hnp := H_hnp.out; have q_hs := H_hs.out; have q_qlfi := H_qlfi.out; have q_hh1 := H_hh1.out; have q_hh2 := H_hh2.out; have q_qhki := H_qhki.out; have q_hk2 := H_hk2.out; have q_hk3 := H_hk3.out; have q_hn1 := H_hn1.out; have q_hn2 := H_hn2.out; unfold mkI; omega)
                              subst this
                              clear HD
                              go_wp2
                              go_ret
                              exact ⟨by first | rfl | (simp; omega) | simp_all, B3⟩
                          · have hn1b : ((n : Int) == 0) = false := by rw [beq_eq_false_iff_ne]; exact hn1
                            have H_hn1 := Lib.hid hn1
                            clear hn1
                            have : r = false := by rw [← HD.out]; exact decide_eq_false (by have q_hk := H_hk.out; have q_hx := H_hx.out; have q_hy := H_hy.out; have q_hz := H_hz.out; have q_hnp := H_hnp.out; have q_hs := H_hs.out; have q_qlfi := H_qlfi.out; have q_hh1 := H_hh1.out; have q_hh2 := H_hh2.out; have q_qhki := H_qhki.out; have q_hk2 := H_hk2.out; have q_hk3 := H_hk3.out; have q_hn1 := H_hn1.out; unfold mkI; omega)
                            subst this
                            clear HD
                            go_wp2
                            go_ret
                            exact ⟨by first | rfl | (simp; omega) | simp_all, B3⟩
                        · have hk3b : (k == 3) = false := by rw [beq_eq_false_iff_ne]; exact hk3
                          have H_hk3 := Lib.hid hk3
                          clear hk3
                          have : r = false := by rw [← HD.out]; exact decide_eq_false (by have q_hk := H_hk.out; have q_hx := H_hx.out; have q_hy := H_hy.out; have q_hz := H_hz.out; have q_hnp := H_hnp.out; have q_hs := H_hs.out; have q_qlfi := H_qlfi.out; have q_hh1 := H_hh1.out; have q_hh2 := H_hh2.out; have q_qhki := H_qhki.out; have q_hk2 := H_hk2.out; have q_hk3 := H_hk3.out; unfold mkI; omega)
                          subst this
                          clear HD
                          go_wp2
                          go_ret
                          exact ⟨by first | rfl | (simp; omega) | simp_all, B3⟩
                    · rw [decide_eq_false hhki]
                      have qhki : hki = 0 := by rw [← Ehki.out]; exact if_neg hhki
                      clear hhki
                      have H_qhki := Lib.hid qhki
                      clear qhki
                      have : r = false := by rw [← HD.out]; exact decide_eq_false (by have q_hk := H_hk.out; have q_hx := H_hx.out; have q_hy := H_hy.out; have q_hz := H_hz.out; have q_hnp := H_hnp.out; have q_hs := H_hs.out; have q_qlfi := H_qlfi.out; have q_hh1 := H_hh1.out; have q_hh2 := H_hh2.out; have q_qhki := H_qhki.out; unfold mkI; omega)
                      subst this
                      clear HD
                      go_wp2
                      go_ret
                      exact ⟨by first | rfl | (simp; omega) | simp_all, B3⟩
              · rw [decide_eq_false hlfi]
                have qlfi : lfi = 0 := by rw [← Elfi.out]; exact if_neg hlfi
                clear hlfi
                have H_qlfi := Lib.hid qlfi
                clear qlfi
                have : r = false := by rw [← HD.out]; exact decide_eq_false (by have q_hk := H_hk.out; have q_hx := H_hx.out; have q_hy := H_hy.out; have q_hz := H_hz.out; have q_hnp := H_hnp.out; have q_hs := H_hs.out; have q_qlfi := H_qlfi.out; unfold mkI; omega)
                subst this
                clear HD
                go_wp2
                go_ret
                exact ⟨by first | rfl | (simp; omega) | simp_all, B2⟩
          · have hnpb : ((np : Int) == 0) = false := by rw [beq_eq_false_iff_ne]; exact hnp
            have H_hnp := Lib.hid hnp
            clear hnp
            by_cases hs : s = 0
            · have hsb : (s == 0) = true := by simp [hs]
              have H_hs := Lib.hid hs
              clear hs
              by_cases ht : t = 0
              · have htb : (t == 0) = true := by simp [ht]
                have H_ht := Lib.hid ht
                clear ht
                by_cases hh : h = 0
                · have hhb : (h == 0) = true := by simp [hh]
                  have H_hh := Lib.hid hh
                  clear hh
                  by_cases hnh : (nh : Int) = 0
                  · have hnhb : ((nh : Int) == 0) = true := by simp [hnh]
                    have H_hnh := Lib.hid hnh
                    clear hnh
                    by_cases hn0 : (n : Int) = 0
                    · have hn0b : ((n : Int) == 0) = true := by simp [hn0]
                      have H_hn0 := Lib.hid hn0
                      clear hn0
                      have : r = false := by rw [← HD.out]; exact decide_eq_false (by have q_hk := H_hk.out; have q_hx := H_hx.out; have q_hy := H_hy.out; have q_hz := H_hz.out; have q_hnp := H_hnp.out; have q_hs := H_hs.out; have q_ht := H_ht.out; have q_hh := H_hh.out; have q_hnh := H_hnh.out; have q_hn0 := H_hn0.out; unfold mkI; omega)
                      subst this
                      clear HD
                      go_wp2
                      go_ret
                      exact ⟨by first | rfl | (simp; omega) | simp_all, B1⟩
                    · have hn0b : ((n : Int) == 0) = false := by rw [beq_eq_false_iff_ne]; exact hn0
                      have H_hn0 := Lib.hid hn0
                      clear hn0
                      have : r = false := by rw [← HD.out]; exact decide_eq_false (by have q_hk := H_hk.out; have q_hx := H_hx.out; have q_hy := H_hy.out; have q_hz := H_hz.out; have q_hnp := H_hnp.out; have q_hs := H_hs.out; have q_ht := H_ht.out; have q_hh := H_hh.out; have q_hnh := H_hnh.out; have q_hn0 := H_hn0.out; unfold mkI; omega)
                      subst this
                      clear HD
                      go_wp2
                      go_ret
                      exact ⟨by first | rfl | (simp; omega) | simp_all, B1⟩
                  · have hnhb : ((nh : Int) == 0) = false := by rw [beq_eq_false_iff_ne]; exact hnh
                    have H_hnh := Lib.hid hnh
                    clear hnh
                    have : r = false := by rw [← HD.out]; exact decide_eq_false (by have q_hk := H_hk.out; have q_hx := H_hx.out; have q_hy := H_hy.out; have q_hz := H_hz.out; have q_hnp := H_hnp.out; have q_hs := H_hs.out; have q_ht := H_ht.out; have q_hh := H_hh.out; have q_hnh := H_hnh.out; unfold mkI; omega)
                    subst this
                    clear HD
                    go_wp2
                    go_ret
                    exact ⟨by first | rfl | (simp; omega) | simp_all, B1⟩
                · have hhb : (h == 0) = false := by rw [beq_eq_false_iff_ne]; exact hh
                  have H_hh := Lib.hid hh
                  clear hh
                  have : r = false := by rw [← HD.out]; exact decide_eq_false (by have q_hk := H_hk.out; have q_hx := H_hx.out; have q_hy := H_hy.out; have q_hz := H_hz.out; have q_hnp := H_hnp.out; have q_hs := H_hs.out; have q_ht := H_ht.out; have q_hh := H_hh.out; unfold mkI; omega)
                  subst this
                  clear HD
                  go_wp2
                  go_ret
                  exact ⟨by first | rfl | (simp; omega) | simp_all, B1⟩
              · have htb : (t == 0) = false := by rw [beq_eq_false_iff_ne]; exact ht
                have H_ht := Lib.hid ht
                clear ht
                have : r = false := by rw [← HD.out]; exact decide_eq_false (by have q_hk := H_hk.out; have q_hx := H_hx.out; have q_hy := H_hy.out; have q_hz := H_hz.out; have q_hnp := H_hnp.out; have q_hs := H_hs.out; have q_ht := H_ht.out; unfold mkI; omega)
                subst this
                clear HD
                go_wp2
                go_ret
                exact ⟨by first | rfl | (simp; omega) | simp_all, B1⟩
            · have hsb : (s == 0) = false := by rw [beq_eq_false_iff_ne]; exact hs
              have H_hs := Lib.hid hs
              clear hs
              have : r = false := by rw [← HD.out]; exact decide_eq_false (by have q_hk := H_hk.out; have q_hx := H_hx.out; have q_hy := H_hy.out; have q_hz := H_hz.out; have q_hnp := H_hnp.out; have q_hs := H_hs.out; unfold mkI; omega)
              subst this
              clear HD
              go_wp2
              go_ret
              exact ⟨by first | rfl | (simp; omega) | simp_all, B1⟩
        · have hzb : ((z : Int) == 0) = false := by rw [beq_eq_false_iff_ne]; exact hz
          have H_hz := Lib.hid hz
          clear hz
          by_cases hs : s = 0
          · have hsb : (s == 0) = true := by simp [hs]
            have H_hs := Lib.hid hs
            clear hs
            by_cases ht : t = 0
            · have htb : (t == 0) = true := by simp [ht]
              have H_ht := Lib.hid ht
              clear ht
              by_cases hh : h = 0
              · have hhb : (h == 0) = true := by simp [hh]
                have H_hh := Lib.hid hh
                clear hh
                by_cases hnh : (nh : Int) = 0
                · have hnhb : ((nh : Int) == 0) = true := by simp [hnh]
                  have H_hnh := Lib.hid hnh
                  clear hnh
                  by_cases hn0 : (n : Int) = 0
                  · have hn0b : ((n : Int) == 0) = true := by simp [hn0]
                    have H_hn0 := Lib.hid hn0
                    clear hn0
                    have : r = false := by rw [← HD.out]; exact decide_eq_false (by have q_hk := H_hk.out; have q_hx := H_hx.out; have q_hy := H_hy.out; have q_hz := H_hz.out; have q_hs := H_hs.out; have q_ht := H_ht.out; have q_hh := H_hh.out; have q_hnh := H_hnh.out; have q_hn0 := H_hn0.out; unfold mkI; omega)
                    subst this
                    clear HD
                    go_wp2
                    go_ret
                    exact ⟨by first | rfl | (simp; omega) | simp_all, B1⟩
                  · have hn0b : ((n : Int) == 0) = false := by rw [beq_eq_false_iff_ne]; exact hn0
                    have H_hn0 := Lib.hid hn0
                    clear hn0
                    have : r = false := by rw [← HD.out]; exact decide_eq_false (by have q_hk := H_hk.out; have q_hx := H_hx.out; have q_hy := H_hy.out; have q_hz := H_hz.out; have q_hs := H_hs.out; have q_ht := H_ht.out; have q_hh := H_hh.out; have q_hnh := H_hnh.out; have q_hn0 := H_hn0.out; unfold mkI; omega)
                    subst this
                    clear HD
                    go_wp2
                    go_ret
                    exact ⟨by first | rfl | (simp; omega) | simp_all, B1⟩
                · have hnhb : ((nh : Int) == 0) = false := by rw [beq_eq_false_iff_ne]; exact hnh
                  have H_hnh := Lib.hid hnh
                  clear hnh
                  have : r = false := by rw [← HD.out]; exact decide_eq_false (by have q_hk := H_hk.out; have q_hx := H_hx.out; have q_hy := H_hy.out; have q_hz := H_hz.out; have q_hs := H_hs.out; have q_ht := H_ht.out; have q_hh := H_hh.out; have q_hnh := H_hnh.out; unfold mkI; omega)
                  subst this
                  clear HD
                  go_wp2
                  go_ret
                  exact ⟨by first | rfl | (simp; omega) | simp_all, B1⟩
              · have hhb : (h == 0) = false := by rw [beq_eq_false_iff_ne]; exact hh
                have H_hh := Lib.hid hh
                clear hh
                have : r = false := by rw [← HD.out]; exact decide_eq_false (by have q_hk := H_hk.out; have q_hx := H_hx.out; have q_hy := H_hy.out; have q_hz := H_hz.out; have q_hs := H_hs.out; have q_ht := H_ht.out; have q_hh := H_hh.out; unfold mkI; omega)
                subst this
                clear HD
                go_wp2
                go_ret
                exact ⟨by first | rfl | (simp; omega) | simp_all, B1⟩
            · have htb : (t == 0) = false := by rw [beq_eq_false_iff_ne]; exact ht
              have H_ht := Lib.hid ht
              clear ht
              have : r = false := by rw [← HD.out]; exact decide_eq_false (by have q_hk := H_hk.out; have q_hx := H_hx.out; have q_hy := H_hy.out; have q_hz := H_hz.out; have q_hs := H_hs.out; have q_ht := H_ht.out; unfold mkI; omega)
              subst this
              clear HD
              go_wp2
              go_ret
              exact ⟨by first | rfl | (simp; omega) | simp_all, B1⟩
          · have hsb : (s == 0) = false := by rw [beq_eq_false_iff_ne]; exact hs
            have H_hs := Lib.hid hs
            clear hs
            have : r = false := by rw [← HD.out]; exact decide_eq_false (by have q_hk := H_hk.out; have q_hx := H_hx.out; have q_hy := H_hy.out; have q_hz := H_hz.out; have q_hs := H_hs.out; unfold mkI; omega)
            subst this
            clear HD
            go_wp2
            go_ret
            exact ⟨by first | rfl | (simp; omega) | simp_all, B1⟩
      · have hyb : (y == 0) = false := by rw [beq_eq_false_iff_ne]; exact hy
        have H_hy := Lib.hid hy
        clear hy
        by_cases hs : s = 0
        · have hsb : (s == 0) = true := by simp [hs]
          have H_hs := Lib.hid hs
          clear hs
          by_cases ht : t = 0
          · have htb : (t == 0) = true := by simp [ht]
            have H_ht := Lib.hid ht
            clear ht
            by_cases hh : h = 0
            · have hhb : (h == 0) = true := by simp [hh]
              have H_hh := Lib.hid hh
              clear hh
              by_cases hnh : (nh : Int) = 0
              · have hnhb : ((nh : Int) == 0) = true := by simp [hnh]
                have H_hnh := Lib.hid hnh
                clear hnh
                by_cases hn0 : (n : Int) = 0
                · have hn0b : ((n : Int) == 0) = true := by simp [hn0]
                  have H_hn0 := Lib.hid hn0
                  clear hn0
                  have : r = false := by rw [← HD.out]; exact decide_eq_false (by have q_hk := H_hk.out; have q_hx := H_hx.out; have q_hy := H_hy.out; have q_hs := H_hs.out; have q_ht := H_ht.out; have q_hh := H_hh.out; have q_hnh := H_hnh.out; have q_hn0 := H_hn0.out; unfold mkI; omega)
                  subst this
                  clear HD
                  go_wp2
                  go_ret
                  exact ⟨by first | rfl | (simp; omega) | simp_all, B1⟩
                · have hn0b : ((n : Int) == 0) = false := by rw [beq_eq_false_iff_ne]; exact hn0
                  have H_hn0 := Lib.hid hn0
                  clear hn0
                  have : r = false := by rw [← HD.out]; exact decide_eq_false (by have q_hk := H_hk.out; have q_hx := H_hx.out; have q_hy := H_hy.out; have q_hs := H_hs.out; have q_ht := H_ht.out; have q_hh := H_hh.out; have q_hnh := H_hnh.out; have q_hn0 := H_hn0.out; unfold mkI; omega)
                  subst this
                  clear HD
                  go_wp2
                  go_ret
                  exact ⟨by first | rfl | (simp; omega) | simp_all, B1⟩
              · have hnhb : ((nh : Int) == 0) = false := by rw [beq_eq_false_iff_ne]; exact hnh
                have H_hnh := Lib.hid hnh
                clear hnh
                have : r = false := by rw [← HD.out]; exact decide_eq_false (by have q_hk := H_hk.out; have q_hx := H_hx.out; have q_hy := H_hy.out; have q_hs := H_hs.out; have q_ht := H_ht.out; have q_hh := H_hh.out; have q_hnh := H_hnh.out; unfold mkI; omega)
                subst this
                clear HD
                go_wp2
                go_ret
                exact ⟨by first | rfl | (simp; omega) | simp_all, B1⟩
            · have hhb : (h == 0) = false := by rw [beq_eq_false_iff_ne]; exact hh
              have H_hh := Lib.hid hh
              clear hh
              have : r = false := by rw [← HD.out]; exact decide_eq_false (by have q_hk := H_hk.out; have q_hx := H_hx.out; have q_hy := H_hy.out; have q_hs := H_hs.out; have q_ht := H_ht.out; have q_hh := H_hh.out; unfold mkI; omega)
              subst this
              clear HD
              go_wp2
              go_ret
              exact ⟨by first | rfl | (simp; omega) | simp_all, B1⟩
          · have htb : (t == 0) = false := by rw [beq_eq_false_iff_ne]; exact ht
            have H_ht := Lib.hid ht
            clear ht
            have : r = false := by rw [← HD.out]; exact decide_eq_false (by have q_hk := H_hk.out; have q_hx := H_hx.out; have q_hy := H_hy.out; have q_hs := H_hs.out; have q_ht := H_ht.out; unfold mkI; omega)
            subst this
            clear HD
            go_wp2
            go_ret
            exact ⟨by first | rfl | (simp; omega) | simp_all, B1⟩
        · have hsb : (s == 0) = false := by rw [beq_eq_false_iff_ne]; exact hs
          have H_hs := Lib.hid hs
          clear hs
          have : r = false := by rw [← HD.out]; exact decide_eq_false (by have q_hk := H_hk.out; have q_hx := H_hx.out; have q_hy := H_hy.out; have q_hs := H_hs.out; unfold mkI; omega)
          subst this
          clear HD
          go_wp2
          go_ret
          exact ⟨by first | rfl | (simp; omega) | simp_all, B1⟩
    · have hxb : (x == 0) = false := by rw [beq_eq_false_iff_ne]; exact hx
      have H_hx := Lib.hid hx
      clear hx
      by_cases hs : s = 0
      · have hsb : (s == 0) = true := by simp [hs]
        have H_hs := Lib.hid hs
        clear hs
        by_cases ht : t = 0
        · have htb : (t == 0) = true := by simp [ht]
          have H_ht := Lib.hid ht
          clear ht
          by_cases hh : h = 0
          · have hhb : (h == 0) = true := by simp [hh]
            have H_hh := Lib.hid hh
            clear hh
            by_cases hnh : (nh : Int) = 0
            · have hnhb : ((nh : Int) == 0) = true := by simp [hnh]
              have H_hnh := Lib.hid hnh
              clear hnh
              by_cases hn0 : (n : Int) = 0
              · have hn0b : ((n : Int) == 0) = true := by simp [hn0]
                have H_hn0 := Lib.hid hn0
                clear hn0
                have : r = false := by rw [← HD.out]; exact decide_eq_false (by have q_hk := H_hk.out; have q_hx := H_hx.out; have q_hs := H_hs.out; have q_ht := H_ht.out; have q_hh := H_hh.out; have q_hnh := H_hnh.out; have q_hn0 := H_hn0.out; unfold mkI; omega)
                subst this
                clear HD
                go_wp2
                go_ret
                exact ⟨by first | rfl | (simp; omega) | simp_all, B1⟩
              · have hn0b : ((n : Int) == 0) = false := by rw [beq_eq_false_iff_ne]; exact hn0
                have H_hn0 := Lib.hid hn0
                clear hn0
                have : r = false := by rw [← HD.out]; exact decide_eq_false (by have q_hk := H_hk.out; have q_hx := H_hx.out; have q_hs := H_hs.out; have q_ht := H_ht.out; have q_hh := H_hh.out; have q_hnh := H_hnh.out; have q_hn0 := H_hn0.out; unfold mkI; omega)
                subst this
                clear HD
                go_wp2
                go_ret
                exact ⟨by first | rfl | (simp; omega) | simp_all, B1⟩
            · have hnhb : ((nh : Int) == 0) = false := by rw [beq_eq_false_iff_ne]; exact hnh
              have H_hnh := Lib.hid hnh
              clear hnh
              have : r = false := by rw [← HD.out]; exact decide_eq_false (by have q_hk := H_hk.out; have q_hx := H_hx.out; have q_hs := H_hs.out; have q_ht := H_ht.out; have q_hh := H_hh.out; have q_hnh := H_hnh.out; unfold mkI; omega)
              subst this
              clear HD
              go_wp2
              go_ret
              exact ⟨by first | rfl | (simp; omega) | simp_all, B1⟩
          · have hhb : (h == 0) = false := by rw [beq_eq_false_iff_ne]; exact hh
            have H_hh := Lib.hid hh
            clear hh
            have : r = false := by rw [← HD.out]; exact decide_eq_false (by have q_hk := H_hk.out; have q_hx := H_hx.out; have q_hs := H_hs.out; have q_ht := H_ht.out; have q_hh := H_hh.out; unfold mkI; omega)
            subst this
            clear HD
            go_wp2
            go_ret
            exact ⟨by first | rfl | (simp; omega) | simp_all, B1⟩
        · have htb : (t == 0) = false := by rw [beq_eq_false_iff_ne]; exact ht
          have H_ht := Lib.hid ht
          clear ht
          have : r = false := by rw [← HD.out]; exact decide_eq_false (by have q_hk := H_hk.out; have q_hx := H_hx.out; have q_hs := H_hs.out; have q_ht := H_ht.out; unfold mkI; omega)
          subst this
          clear HD
          go_wp2
          go_ret
          exact ⟨by first | rfl | (simp; omega) | simp_all, B1⟩
      · have hsb : (s == 0) = false := by rw [beq_eq_false_iff_ne]; exact hs
        have H_hs := Lib.hid hs
        clear hs
        have : r = false := by rw [← HD.out]; exact decide_eq_false (by have q_hk := H_hk.out; have q_hx := H_hx.out; have q_hs := H_hs.out; unfold mkI; omega)
        subst this
        clear HD
        go_wp2
        go_ret
        exact ⟨by first | rfl | (simp; omega) | simp_all, B1⟩
end Go.Proofs.Ytlcddfkhklmieaa
