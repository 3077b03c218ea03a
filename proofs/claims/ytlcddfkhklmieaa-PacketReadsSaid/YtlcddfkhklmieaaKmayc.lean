/-
  Whether a packet may be, by package packet's May. For packets of at most 1,000,000 heads and peers.
-/
import Derived.Test.YtlcddfkhklmieaaKmayb
import Derived.Test.YtlcddfkhklmieaaKmayd
namespace Go.Proofs.Ytlcddfkhklmieaa
set_option maxRecDepth 20000
open Go.RowKit

/-- The way, by its numbers: lfi says whether the life may. -/
def traI (h x y z np lfi : Int) : Prop := lfi = 1 ∧ 0 ≤ h ∧ h ≤ 8 ∧ x = 0 ∧ y = 0 ∧ z = 0 ∧ np = 0
instance (h x y z np lfi : Int) : Decidable (traI h x y z np lfi) := inferInstanceAs (Decidable (_ ∧ _))
theorem traK_int (s : Life) (h x y : Int) (z np : Nat) : decide (traK s h (x, y) z np) = decide (traI h x y z np (if lifeK s then 1 else 0)) := by
  rw [Bool.eq_iff_iff, decide_eq_true_iff, decide_eq_true_iff]
  unfold traK traI
  rw [ind1]
  simp only
  constructor
  · rintro ⟨a, b, c, d, e, f, g⟩; exact ⟨a, b, c, d, e, by omega, by omega⟩
  · rintro ⟨a, b, c, d, e, f, g⟩; exact ⟨a, b, c, d, e, by omega, by omega⟩
set_option maxHeartbeats 8000000 in
theorem travels_any (k s t h x y : Int) (z : Nat) (H A P : Option Addr) (nh ch n cap np cp : Nat) (w : World) (ht0 : 0 ≤ t) :
    Calls Try.prog 21 #[.agg #[.int .i64 k, .int .i64 s, .int .u64 t, .int .i64 h, .slice H nh ch, .slice A n cap, .int .i64 x, .int .u64 y, .int .u64 (z : Int), .slice P np cp]] w fun e w' => e = .returned (.bool (decide (traK (s, t) h (x, y) z np))) ∧ Hid (Below w.heap.size w w') := by
  rw [traK_int]
  have K1 := Lib.hid (kbox_new (k := k) (s := s) (t := t) (h := h) (x := x) (y := y) (z := (z : Int)) (H := H) (A := A) (P := P) (nh := nh) (ch := ch) (n := n) (cap := cap) (np := np) (cp := cp) (w := w) 31)
  have B1 := Lib.hid (kbelow_box w (.cells #[.int .i64 k, .int .i64 s, .int .u64 t, .int .i64 h, .slice H nh ch, .slice A n cap, .int .i64 x, .int .u64 y, .int .u64 (z : Int), .slice P np cp] 31))
  have HLF := Lib.hid (fun W => islife_any (s, t) ht0 W)
  obtain ⟨lfi, hlfi⟩ : ∃ v, (if lifeK (s, t) then (1 : Int) else 0) = v := ⟨_, rfl⟩
  rw [hlfi]
  have Elfi := Lib.hid hlfi
  generalize hd : decide (traI h x y z np lfi) = r
  have HD := Lib.hid hd
  clear hd hlfi
  go_enter Try.func21, Try.ntmps21
  obtain ⟨k0, k1, k2, k3, k4, k5, k6, k7, k8, k9⟩ := K1.out
  generalize hW : w.alloc (.cells #[.int .i64 k, .int .i64 s, .int .u64 t, .int .i64 h, .slice H nh ch, .slice A n cap, .int .i64 x, .int .u64 y, .int .u64 (z : Int), .slice P np cp] 31) = W1 at *
  go_wp2_with fail
  refine (HLF.out W1).mono ?_
  rintro en W2 ⟨rfl, hb⟩
  have K2 := Lib.hid (K1.out.below hb.out)
  have B2 := Lib.hid (ktr B1.out hb.out)
  clear K1 B1 hb k0 k1 k2 k3 k4 k5 k6 k7 k8 k9
  obtain ⟨k0, k1, k2, k3, k4, k5, k6, k7, k8, k9⟩ := K2.out
  by_cases hlfi : lifeK (s, t)
  · rw [decide_eq_true hlfi]
    have qlfi : lfi = 1 := by rw [← Elfi.out]; exact if_pos hlfi
    clear hlfi
    have H_qlfi := Lib.hid qlfi
    clear qlfi
    by_cases hh0 : 0 ≤ h
    · have hh0b : decide (0 ≤ h) = true := decide_eq_true hh0
      have H_hh0 := Lib.hid hh0
      clear hh0
      by_cases hh8 : h ≤ 8
      · have hh8b : decide (h ≤ 8) = true := decide_eq_true hh8
        have H_hh8 := Lib.hid hh8
        clear hh8
        by_cases hx : x = 0
        · have hxb : (x == 0) = true := by simp [hx]
          have H_hx := Lib.hid hx
          clear hx
          by_cases hy : y = 0
          · have hyb : (y == 0) = true := by simp [hy]
            have H_hy := Lib.hid hy
            clear hy
            by_cases hz : (z : Int) = 0
            · have hzb : ((z : Int) == 0) = true := by simp [hz]
              have H_hz := Lib.hid hz
              clear hz
              by_cases hnp : (np : Int) = 0
              · have hnpb : ((np : Int) == 0) = true := by simp [hnp]
                have H_hnp := Lib.hid hnp
                clear hnp
                have : r = true := by rw [← HD.out]; exact decide_eq_true (by have q_qlfi := H_qlfi.out; have q_hh0 := H_hh0.out; have q_hh8 := H_hh8.out; have q_hx := H_hx.out; have q_hy := H_hy.out; have q_hz := H_hz.out; have q_hnp := H_hnp.out; unfold traI; omega)
                subst this
                clear HD
                go_wp2
                go_ret
                exact ⟨by first | rfl | (simp; omega) | simp_all, B2⟩
              · have hnpb : ((np : Int) == 0) = false := by rw [beq_eq_false_iff_ne]; exact hnp
                have H_hnp := Lib.hid hnp
                clear hnp
                have : r = false := by rw [← HD.out]; exact decide_eq_false (by have q_qlfi := H_qlfi.out; have q_hh0 := H_hh0.out; have q_hh8 := H_hh8.out; have q_hx := H_hx.out; have q_hy := H_hy.out; have q_hz := H_hz.out; have q_hnp := H_hnp.out; unfold traI; omega)
                subst this
                clear HD
                go_wp2
                go_ret
                exact ⟨by first | rfl | (simp; omega) | simp_all, B2⟩
            · have hzb : ((z : Int) == 0) = false := by rw [beq_eq_false_iff_ne]; exact hz
              have H_hz := Lib.hid hz
              clear hz
              have : r = false := by rw [← HD.out]; exact decide_eq_false (by have q_qlfi := H_qlfi.out; have q_hh0 := H_hh0.out; have q_hh8 := H_hh8.out; have q_hx := H_hx.out; have q_hy := H_hy.out; have q_hz := H_hz.out; unfold traI; omega)
              subst this
              clear HD
              go_wp2
              go_ret
              exact ⟨by first | rfl | (simp; omega) | simp_all, B2⟩
          · have hyb : (y == 0) = false := by rw [beq_eq_false_iff_ne]; exact hy
            have H_hy := Lib.hid hy
            clear hy
            have : r = false := by rw [← HD.out]; exact decide_eq_false (by have q_qlfi := H_qlfi.out; have q_hh0 := H_hh0.out; have q_hh8 := H_hh8.out; have q_hx := H_hx.out; have q_hy := H_hy.out; unfold traI; omega)
            subst this
            clear HD
            go_wp2
            go_ret
            exact ⟨by first | rfl | (simp; omega) | simp_all, B2⟩
        · have hxb : (x == 0) = false := by rw [beq_eq_false_iff_ne]; exact hx
          have H_hx := Lib.hid hx
          clear hx
          have : r = false := by rw [← HD.out]; exact decide_eq_false (by have q_qlfi := H_qlfi.out; have q_hh0 := H_hh0.out; have q_hh8 := H_hh8.out; have q_hx := H_hx.out; unfold traI; omega)
          subst this
          clear HD
          go_wp2
          go_ret
          exact ⟨by first | rfl | (simp; omega) | simp_all, B2⟩
      · have hh8b : decide (h ≤ 8) = false := decide_eq_false hh8
        have H_hh8 := Lib.hid hh8
        clear hh8
        have : r = false := by rw [← HD.out]; exact decide_eq_false (by have q_qlfi := H_qlfi.out; have q_hh0 := H_hh0.out; have q_hh8 := H_hh8.out; unfold traI; omega)
        subst this
        clear HD
        go_wp2
        go_ret
        exact ⟨by first | rfl | (simp; omega) | simp_all, B2⟩
    · have hh0b : decide (0 ≤ h) = false := decide_eq_false hh0
      have H_hh0 := Lib.hid hh0
      clear hh0
      have : r = false := by rw [← HD.out]; exact decide_eq_false (by have q_qlfi := H_qlfi.out; have q_hh0 := H_hh0.out; unfold traI; omega)
      subst this
      clear HD
      go_wp2
      go_ret
      exact ⟨by first | rfl | (simp; omega) | simp_all, B2⟩
  · rw [decide_eq_false hlfi]
    have qlfi : lfi = 0 := by rw [← Elfi.out]; exact if_neg hlfi
    clear hlfi
    have H_qlfi := Lib.hid qlfi
    clear qlfi
    have : r = false := by rw [← HD.out]; exact decide_eq_false (by have q_qlfi := H_qlfi.out; unfold traI; omega)
    subst this
    clear HD
    go_wp2
    go_ret
    exact ⟨by first | rfl | (simp; omega) | simp_all, B2⟩
set_option maxHeartbeats 16000000 in
theorem kmay_any (k s t h x y : Int) (z : Nat) (heads : List Hd) (body : List UInt8) (peers : List Life) (H A P : Option Addr) (nh ch n cap np cp B : Nat) (w : World) (ht0 : 0 ≤ t) (hy0 : 0 ≤ y)
    (hH : Hds w B H heads) (hPl : Lives w B P peers) (hB : B ≤ w.heap.size) (hnh : heads.length = nh) (hnn : body.length = n) (hnp0 : peers.length = np) (hhmx : nh ≤ 1000000) (hpmx : np ≤ 1000000) (hpos : ∀ p ∈ peers, 0 ≤ p.2) :
    Calls Try.prog 11 #[.agg #[.int .i64 k, .int .i64 s, .int .u64 t, .int .i64 h, .slice H nh ch, .slice A n cap, .int .i64 x, .int .u64 y, .int .u64 (z : Int), .slice P np cp]] w fun e w' => e = .returned (.bool (decide (mayK ⟨k, (s, t), h, heads, body, (x, y), z, peers⟩))) ∧ Hid (Below w.heap.size w w') := by
  rw [mayK_c, hnh, hnn, hnp0]
  have K1 := Lib.hid (kbox_new (k := k) (s := s) (t := t) (h := h) (x := x) (y := y) (z := (z : Int)) (H := H) (A := A) (P := P) (nh := nh) (ch := ch) (n := n) (cap := cap) (np := np) (cp := cp) (w := w) 31)
  have B1 := Lib.hid (kbelow_box w (.cells #[.int .i64 k, .int .i64 s, .int .u64 t, .int .i64 h, .slice H nh ch, .slice A n cap, .int .i64 x, .int .u64 y, .int .u64 (z : Int), .slice P np cp] 31))
  have HH := Lib.hid hH
  have HP := Lib.hid hPl
  have HNH := Lib.hid hnh
  have HNP := Lib.hid hnp0
  have HPOS := Lib.hid hpos
  obtain ⟨adi, hadi⟩ : ∃ v, (if advK (x, y) z peers then (1 : Int) else 0) = v := ⟨_, rfl⟩
  obtain ⟨tri, htri⟩ : ∃ v, (if traK (s, t) h (x, y) z np then (1 : Int) else 0) = v := ⟨_, rfl⟩
  obtain ⟨h2i, hh2i⟩ : ∃ v, (if upHd false s heads nh then (1 : Int) else 0) = v := ⟨_, rfl⟩
  obtain ⟨h3i, hh3i⟩ : ∃ v, (if upHd true s heads nh then (1 : Int) else 0) = v := ⟨_, rfl⟩
  rw [hadi, htri, hh2i, hh3i]
  have Eadi := Lib.hid hadi
  have Etri := Lib.hid htri
  have Eh2i := Lib.hid hh2i
  have Eh3i := Lib.hid hh3i
  generalize hd : decide (mkC k s t h nh n adi tri h2i h3i) = r
  have HD := Lib.hid hd
  clear hd hadi htri hh2i hh3i hH hPl hnh hnn hnp0 hpos
  go_enter Try.func11, Try.ntmps11
  obtain ⟨k0, k1, k2, k3, k4, k5, k6, k7, k8, k9⟩ := K1.out
  generalize hW : w.alloc (.cells #[.int .i64 k, .int .i64 s, .int .u64 t, .int .i64 h, .slice H nh ch, .slice A n cap, .int .i64 x, .int .u64 y, .int .u64 (z : Int), .slice P np cp] 31) = W1 at *
  by_cases hk1 : k = 1
  · have hk1b : (k == 1) = true := by simp [hk1]
    have H_hk1 := Lib.hid hk1
    clear hk1
    go_wp2_with fail
    refine (mayadv_any x y z P peers np cp B W1 hy0 (HP.out.below (B1.out.mono hB)) (Nat.le_trans hB B1.out.size) HNP.out hpmx HPOS.out).mono ?_
    rintro en W2 ⟨rfl, hb⟩
    have K2 := Lib.hid (K1.out.below hb.out)
    have B2 := Lib.hid (ktr B1.out hb.out)
    clear K1 B1 hb k0 k1 k2 k3 k4 k5 k6 k7 k8 k9
    obtain ⟨k0, k1, k2, k3, k4, k5, k6, k7, k8, k9⟩ := K2.out
    by_cases hadi : advK (x, y) z peers
    · rw [decide_eq_true hadi]
      have qadi : adi = 1 := by rw [← Eadi.out]; exact if_pos hadi
      clear hadi
      have H_qadi := Lib.hid qadi
      clear qadi
      by_cases hs : s = 0
      · have hsb : (s == 0) = true := by simp [hs]
        have H_hs := Lib.hid hs
        clear hs
        by_cases ht : t = 0
        · have htb : (t == 0) = true := by simp [ht]
          have H_ht := Lib.hid ht
          clear ht
          by_cases hh : h = 0
          · have hhb : (h == 0) = true := by simp [hh]
            have H_hh := Lib.hid hh
            clear hh
            by_cases hnh : (nh : Int) = 0
            · have hnhb : ((nh : Int) == 0) = true := by simp [hnh]
              have H_hnh := Lib.hid hnh
              clear hnh
              by_cases hn0 : (n : Int) = 0
              · have hn0b : ((n : Int) == 0) = true := by simp [hn0]
                have H_hn0 := Lib.hid hn0
                clear hn0
                have : r = true := by rw [← HD.out]; exact decide_eq_true (by have q_hk1 := H_hk1.out; have q_qadi := H_qadi.out; have q_hs := H_hs.out; have q_ht := H_ht.out; have q_hh := H_hh.out; have q_hnh := H_hnh.out; have q_hn0 := H_hn0.out; unfold mkC; omega)
                subst this
                clear HD
                go_wp2
                go_ret
                exact ⟨by first | rfl | (simp; omega) | simp_all, B2⟩
              · have hn0b : ((n : Int) == 0) = false := by rw [beq_eq_false_iff_ne]; exact hn0
                have H_hn0 := Lib.hid hn0
                clear hn0
                have : r = false := by rw [← HD.out]; exact decide_eq_false (by have q_hk1 := H_hk1.out; have q_qadi := H_qadi.out; have q_hs := H_hs.out; have q_ht := H_ht.out; have q_hh := H_hh.out; have q_hnh := H_hnh.out; have q_hn0 := H_hn0.out; unfold mkC; omega)
                subst this
                clear HD
                go_wp2
                go_ret
                exact ⟨by first | rfl | (simp; omega) | simp_all, B2⟩
            · have hnhb : ((nh : Int) == 0) = false := by rw [beq_eq_false_iff_ne]; exact hnh
              have H_hnh := Lib.hid hnh
              clear hnh
              have : r = false := by rw [← HD.out]; exact decide_eq_false (by have q_hk1 := H_hk1.out; have q_qadi := H_qadi.out; have q_hs := H_hs.out; have q_ht := H_ht.out; have q_hh := H_hh.out; have q_hnh := H_hnh.out; unfold mkC; omega)
              subst this
              clear HD
              go_wp2
              go_ret
              exact ⟨by first | rfl | (simp; omega) | simp_all, B2⟩
          · have hhb : (h == 0) = false := by rw [beq_eq_false_iff_ne]; exact hh
            have H_hh := Lib.hid hh
            clear hh
            have : r = false := by rw [← HD.out]; exact decide_eq_false (by have q_hk1 := H_hk1.out; have q_qadi := H_qadi.out; have q_hs := H_hs.out; have q_ht := H_ht.out; have q_hh := H_hh.out; unfold mkC; omega)
            subst this
            clear HD
            go_wp2
            go_ret
            exact ⟨by first | rfl | (simp; omega) | simp_all, B2⟩
        · have htb : (t == 0) = false := by rw [beq_eq_false_iff_ne]; exact ht
          have H_ht := Lib.hid ht
          clear ht
          have : r = false := by rw [← HD.out]; exact decide_eq_false (by have q_hk1 := H_hk1.out; have q_qadi := H_qadi.out; have q_hs := H_hs.out; have q_ht := H_ht.out; unfold mkC; omega)
          subst this
          clear HD
          go_wp2
          go_ret
          exact ⟨by first | rfl | (simp; omega) | simp_all, B2⟩
      · have hsb : (s == 0) = false := by rw [beq_eq_false_iff_ne]; exact hs
        have H_hs := Lib.hid hs
        clear hs
        have : r = false := by rw [← HD.out]; exact decide_eq_false (by have q_hk1 := H_hk1.out; have q_qadi := H_qadi.out; have q_hs := H_hs.out; unfold mkC; omega)
        subst this
        clear HD
        go_wp2
        go_ret
        exact ⟨by first | rfl | (simp; omega) | simp_all, B2⟩
    · rw [decide_eq_false hadi]
      have qadi : adi = 0 := by rw [← Eadi.out]; exact if_neg hadi
      clear hadi
      have H_qadi := Lib.hid qadi
      clear qadi
      have : r = false := by rw [← HD.out]; exact decide_eq_false (by have q_hk1 := H_hk1.out; have q_qadi := H_qadi.out; unfold mkC; omega)
      subst this
      clear HD
      go_wp2
      go_ret
      exact ⟨by first | rfl | (simp; omega) | simp_all, B2⟩
  · have hk1b : (k == 1) = false := by rw [beq_eq_false_iff_ne]; exact hk1
    have H_hk1 := Lib.hid hk1
    clear hk1
    by_cases hk2 : k = 2
    · have hk2b : (k == 2) = true := by simp [hk2]
      have H_hk2 := Lib.hid hk2
      clear hk2
      go_wp2_with fail
      refine (travels_any k s t h x y z H A P nh ch n cap np cp W1 ht0).mono ?_
      rintro en W2 ⟨rfl, hb⟩
      have K2 := Lib.hid (K1.out.below hb.out)
      have B2 := Lib.hid (ktr B1.out hb.out)
      clear K1 B1 hb k0 k1 k2 k3 k4 k5 k6 k7 k8 k9
      obtain ⟨k0, k1, k2, k3, k4, k5, k6, k7, k8, k9⟩ := K2.out
      by_cases htri : traK (s, t) h (x, y) z np
      · rw [decide_eq_true htri]
        have qtri : tri = 1 := by rw [← Etri.out]; exact if_pos htri
        clear htri
        have H_qtri := Lib.hid qtri
        clear qtri
        by_cases hn1 : (1 : Int) ≤ (nh : Int)
        · have hn1b : decide ((1 : Int) ≤ (nh : Int)) = true := decide_eq_true hn1
          have H_hn1 := Lib.hid hn1
          clear hn1
          go_wp2_with fail
          refine (headed2_any k s t h x y (z : Int) H A P nh ch n cap np cp B heads W2 (HH.out.below (B2.out.mono hB)) (Nat.le_trans hB B2.out.size) HNH.out hhmx).mono ?_
          rintro en W3 ⟨rfl, hb⟩
          have K3 := Lib.hid (K2.out.below hb.out)
          have B3 := Lib.hid (ktr B2.out hb.out)
          clear K2 B2 hb k0 k1 k2 k3 k4 k5 k6 k7 k8 k9
          obtain ⟨k0, k1, k2, k3, k4, k5, k6, k7, k8, k9⟩ := K3.out
          by_cases hh2i : upHd false s heads nh
          · rw [decide_eq_true hh2i]
            have qh2i : h2i = 1 := by rw [← Eh2i.out]; exact if_pos hh2i
            clear hh2i
            have H_qh2i := Lib.hid qh2i
            clear qh2i
            by_cases hb1 : (1 : Int) ≤ (n : Int)
            · have hb1b : decide ((1 : Int) ≤ (n : Int)) = true := decide_eq_true hb1
              have H_hb1 := Lib.hid hb1
              clear hb1
              by_cases hb3 : (n : Int) ≤ 320
              · have hb3b : decide ((n : Int) ≤ 320) = true := decide_eq_true hb3
                have H_hb3 := Lib.hid hb3
                clear hb3
                have : r = true := by rw [← HD.out]; exact decide_eq_true (by have q_hk1 := H_hk1.out; have q_hk2 := H_hk2.out; have q_qtri := H_qtri.out; have q_hn1 := H_hn1.out; have q_qh2i := H_qh2i.out; have q_hb1 := H_hb1.out; have q_hb3 := H_hb3.out; unfold mkC; omega)
                subst this
                clear HD
                go_wp2
                go_ret
                exact ⟨by first | rfl | (simp; omega) | simp_all, B3⟩
              · have hb3b : decide ((n : Int) ≤ 320) = false := decide_eq_false hb3
                have H_hb3 := Lib.hid hb3
                clear hb3
                have : r = false := by rw [← HD.out]; exact decide_eq_false (by have q_hk1 := H_hk1.out; have q_hk2 := H_hk2.out; have q_qtri := H_qtri.out; have q_hn1 := H_hn1.out; have q_qh2i := H_qh2i.out; have q_hb1 := H_hb1.out; have q_hb3 := H_hb3.out; unfold mkC; omega)
                subst this
                clear HD
                go_wp2
                go_ret
                exact ⟨by first | rfl | (simp; omega) | simp_all, B3⟩
            · have hb1b : decide ((1 : Int) ≤ (n : Int)) = false := decide_eq_false hb1
              have H_hb1 := Lib.hid hb1
              clear hb1
              have : r = false := by rw [← HD.out]; exact decide_eq_false (by have q_hk1 := H_hk1.out; have q_hk2 := H_hk2.out; have q_qtri := H_qtri.out; have q_hn1 := H_hn1.out; have q_qh2i := H_qh2i.out; have q_hb1 := H_hb1.out; unfold mkC; omega)
              subst this
              clear HD
              go_wp2
              go_ret
              exact ⟨by first | rfl | (simp; omega) | simp_all, B3⟩
          · rw [decide_eq_false hh2i]
            have qh2i : h2i = 0 := by rw [← Eh2i.out]; exact if_neg hh2i
            clear hh2i
            have H_qh2i := Lib.hid qh2i
            clear qh2i
            have : r = false := by rw [← HD.out]; exact decide_eq_false (by have q_hk1 := H_hk1.out; have q_hk2 := H_hk2.out; have q_qtri := H_qtri.out; have q_hn1 := H_hn1.out; have q_qh2i := H_qh2i.out; unfold mkC; omega)
            subst this
            clear HD
            go_wp2
            go_ret
            exact ⟨by first | rfl | (simp; omega) | simp_all, B3⟩
        · have hn1b : decide ((1 : Int) ≤ (nh : Int)) = false := decide_eq_false hn1
          have H_hn1 := Lib.hid hn1
          clear hn1
          have : r = false := by rw [← HD.out]; exact decide_eq_false (by have q_hk1 := H_hk1.out; have q_hk2 := H_hk2.out; have q_qtri := H_qtri.out; have q_hn1 := H_hn1.out; unfold mkC; omega)
          subst this
          clear HD
          go_wp2
          go_ret
          exact ⟨by first | rfl | (simp; omega) | simp_all, B2⟩
      · rw [decide_eq_false htri]
        have qtri : tri = 0 := by rw [← Etri.out]; exact if_neg htri
        clear htri
        have H_qtri := Lib.hid qtri
        clear qtri
        have : r = false := by rw [← HD.out]; exact decide_eq_false (by have q_hk1 := H_hk1.out; have q_hk2 := H_hk2.out; have q_qtri := H_qtri.out; unfold mkC; omega)
        subst this
        clear HD
        go_wp2
        go_ret
        exact ⟨by first | rfl | (simp; omega) | simp_all, B2⟩
    · have hk2b : (k == 2) = false := by rw [beq_eq_false_iff_ne]; exact hk2
      have H_hk2 := Lib.hid hk2
      clear hk2
      by_cases hk3 : k = 3
      · have hk3b : (k == 3) = true := by simp [hk3]
        have H_hk3 := Lib.hid hk3
        clear hk3
        go_wp2_with fail
        refine (travels_any k s t h x y z H A P nh ch n cap np cp W1 ht0).mono ?_
        rintro en W2 ⟨rfl, hb⟩
        have K2 := Lib.hid (K1.out.below hb.out)
        have B2 := Lib.hid (ktr B1.out hb.out)
        clear K1 B1 hb k0 k1 k2 k3 k4 k5 k6 k7 k8 k9
        obtain ⟨k0, k1, k2, k3, k4, k5, k6, k7, k8, k9⟩ := K2.out
        by_cases htri : traK (s, t) h (x, y) z np
        · rw [decide_eq_true htri]
          have qtri : tri = 1 := by rw [← Etri.out]; exact if_pos htri
          clear htri
          have H_qtri := Lib.hid qtri
          clear qtri
          by_cases hn1 : (nh : Int) = 1
          · have hn1b : ((nh : Int) == 1) = true := by simp [hn1]
            have H_hn1 := Lib.hid hn1
            clear hn1
            go_wp2_with fail
            refine (headed3_any k s t h x y (z : Int) H A P nh ch n cap np cp B heads W2 (HH.out.below (B2.out.mono hB)) (Nat.le_trans hB B2.out.size) HNH.out hhmx).mono ?_
            rintro en W3 ⟨rfl, hb⟩
            have K3 := Lib.hid (K2.out.below hb.out)
            have B3 := Lib.hid (ktr B2.out hb.out)
            clear K2 B2 hb k0 k1 k2 k3 k4 k5 k6 k7 k8 k9
            obtain ⟨k0, k1, k2, k3, k4, k5, k6, k7, k8, k9⟩ := K3.out
            by_cases hh3i : upHd true s heads nh
            · rw [decide_eq_true hh3i]
              have qh3i : h3i = 1 := by rw [← Eh3i.out]; exact if_pos hh3i
              clear hh3i
              have H_qh3i := Lib.hid qh3i
              clear qh3i
              by_cases hb1 : (n : Int) = 0
              · have hb1b : ((n : Int) == 0) = true := by simp [hb1]
                have H_hb1 := Lib.hid hb1
                clear hb1
                have : r = true := by rw [← HD.out]; exact decide_eq_true (by have q_hk1 := H_hk1.out; have q_hk2 := H_hk2.out; have q_hk3 := H_hk3.out; have q_qtri := H_qtri.out; have q_hn1 := H_hn1.out; have q_qh3i := H_qh3i.out; have q_hb1 := H_hb1.out; unfold mkC; omega)
                subst this
                clear HD
                go_wp2
                go_ret
                exact ⟨by first | rfl | (simp; omega) | simp_all, B3⟩
              · have hb1b : ((n : Int) == 0) = false := by rw [beq_eq_false_iff_ne]; exact hb1
                have H_hb1 := Lib.hid hb1
                clear hb1
                have : r = false := by rw [← HD.out]; exact decide_eq_false (by have q_hk1 := H_hk1.out; have q_hk2 := H_hk2.out; have q_hk3 := H_hk3.out; have q_qtri := H_qtri.out; have q_hn1 := H_hn1.out; have q_qh3i := H_qh3i.out; have q_hb1 := H_hb1.out; unfold mkC; omega)
                subst this
                clear HD
                go_wp2
                go_ret
                exact ⟨by first | rfl | (simp; omega) | simp_all, B3⟩
            · rw [decide_eq_false hh3i]
              have qh3i : h3i = 0 := by rw [← Eh3i.out]; exact if_neg hh3i
              clear hh3i
              have H_qh3i := Lib.hid qh3i
              clear qh3i
              have : r = false := by rw [← HD.out]; exact decide_eq_false (by have q_hk1 := H_hk1.out; have q_hk2 := H_hk2.out; have q_hk3 := H_hk3.out; have q_qtri := H_qtri.out; have q_hn1 := H_hn1.out; have q_qh3i := H_qh3i.out; unfold mkC; omega)
              subst this
              clear HD
              go_wp2
              go_ret
              exact ⟨by first | rfl | (simp; omega) | simp_all, B3⟩
          · have hn1b : ((nh : Int) == 1) = false := by rw [beq_eq_false_iff_ne]; exact hn1
            have H_hn1 := Lib.hid hn1
            clear hn1
            have : r = false := by rw [← HD.out]; exact decide_eq_false (by have q_hk1 := H_hk1.out; have q_hk2 := H_hk2.out; have q_hk3 := H_hk3.out; have q_qtri := H_qtri.out; have q_hn1 := H_hn1.out; unfold mkC; omega)
            subst this
            clear HD
            go_wp2
            go_ret
            exact ⟨by first | rfl | (simp; omega) | simp_all, B2⟩
        · rw [decide_eq_false htri]
          have qtri : tri = 0 := by rw [← Etri.out]; exact if_neg htri
          clear htri
          have H_qtri := Lib.hid qtri
          clear qtri
          have : r = false := by rw [← HD.out]; exact decide_eq_false (by have q_hk1 := H_hk1.out; have q_hk2 := H_hk2.out; have q_hk3 := H_hk3.out; have q_qtri := H_qtri.out; unfold mkC; omega)
          subst this
          clear HD
          go_wp2
          go_ret
          exact ⟨by first | rfl | (simp; omega) | simp_all, B2⟩
      · have hk3b : (k == 3) = false := by rw [beq_eq_false_iff_ne]; exact hk3
        have H_hk3 := Lib.hid hk3
        clear hk3
        have : r = false := by rw [← HD.out]; exact decide_eq_false (by have q_hk1 := H_hk1.out; have q_hk2 := H_hk2.out; have q_hk3 := H_hk3.out; unfold mkC; omega)
        subst this
        clear HD
        go_wp2
        go_ret
        exact ⟨by first | rfl | (simp; omega) | simp_all, B1⟩
end Go.Proofs.Ytlcddfkhklmieaa
