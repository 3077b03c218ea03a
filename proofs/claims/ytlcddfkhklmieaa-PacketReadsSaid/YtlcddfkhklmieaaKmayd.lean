/-
  Package packet's headed: whether heads may be, and rise. For at most 1,000,000 heads.
-/
import Derived.Test.YtlcddfkhklmieaaKmaya
namespace Go.Proofs.Ytlcddfkhklmieaa
set_option maxRecDepth 20000
open Go.RowKit

theorem prevH_succ (l : List Hd) (k : Nat) : prevH l (k + 1) = (atH l k).dst := by
  unfold prevH
  rw [if_neg (by omega), Nat.add_sub_cancel]
theorem upHd_succ {k3 : Bool} {n : Int} {l : List Hd} {k : Nat} (h : upHd k3 n l k) (h1 : hdOk k3 (atH l k)) (h2 : (atH l k).dst ≠ n) (h3 : prevH l k < (atH l k).dst) (h4 : (atH l k).dst ≤ 10) : upHd k3 n l (k + 1) := fun i hi => by
  by_cases e : i = k
  · subst e; exact ⟨h1, h2, h3, h4⟩
  · exact h i (by omega)
theorem Hds.at_ {w : World} {B : Nat} {A : Option Addr} {l : List Hd} (h : Hds w B A l) {k : Nat} (hk : k < l.length) : ∃ b off, A = some ⟨b, off, none⟩ ∧ b < B ∧ w.cell? ⟨b, off + k * 4, none⟩ = some (.int .i64 (atH l k).dst) ∧ w.cell? ⟨b, off + k * 4 + 1, none⟩ = some (.int .u64 ((atH l k).conn : Int)) ∧
    w.cell? ⟨b, off + k * 4 + 2, none⟩ = some (.int .u64 ((atH l k).seq : Int)) ∧ w.cell? ⟨b, off + k * 4 + 3, none⟩ = some (.int .u64 ((atH l k).inc : Int)) := by
  obtain ⟨b, off, e, hb, hc⟩ := h (by omega)
  obtain ⟨c0, c1, c2, c3⟩ := hc k hk
  exact ⟨b, off, e, hb, c0, c1, c2, c3⟩
set_option maxHeartbeats 4000000 in
theorem headed2_any (k s t h x y z : Int) (H A P : Option Addr) (nh ch n cap np cp B : Nat) (l : List Hd) (w : World) (hl : Hds w B H l) (hB : B ≤ w.heap.size) (hn : l.length = nh) (hb : nh ≤ 1000000) :
    Calls Try.prog 22 #[.agg #[.int .i64 k, .int .i64 s, .int .u64 t, .int .i64 h, .slice H nh ch, .slice A n cap, .int .i64 x, .int .u64 y, .int .u64 z, .slice P np cp], .func (.func 23) #[] #[]] w fun e w' => e = .returned (.bool (decide (upHd false s l nh))) ∧ Hid (Below w.heap.size w w') := by
  have X := Lib.hid (kbox_new (k := k) (s := s) (t := t) (h := h) (x := x) (y := y) (z := z) (H := H) (A := A) (P := P) (nh := nh) (ch := ch) (n := n) (cap := cap) (np := np) (cp := cp) (w := w) 31)
  have B1 := Lib.hid (kbelow_box w (.cells #[.int .i64 k, .int .i64 s, .int .u64 t, .int .i64 h, .slice H nh ch, .slice A n cap, .int .i64 x, .int .u64 y, .int .u64 z, .slice P np cp] 31))
  have HL := Lib.hid (hl.below (B1.out.mono hB))
  have HN := Lib.hid hn
  generalize hd : decide (upHd false s l nh) = r
  have HD := Lib.hid hd
  clear hd hl hn
  obtain ⟨k0, k1, k2, k3, k4, k5, k6, k7, k8, k9⟩ := X.out
  go_enter Try.func22, Try.ntmps22
  go_wp2
  generalize w.alloc (.cells #[.int .i64 k, .int .i64 s, .int .u64 t, .int .i64 h, .slice H nh ch, .slice A n cap, .int .i64 x, .int .u64 y, .int .u64 z, .slice P np cp] 31) = W1 at *
  have hs1 := B1.out.size
  clear k0 k1 k2 k3 k4 k5 k6 k7 k8 k9
  go_loopw [5, 11] (fun lv iv wr => ∃ k : Nat, k ≤ nh ∧ lv = .int .i64 (prevH l k) ∧ iv = .int .i64 (k : Nat) ∧ Hid (Below W1.heap.size W1 wr) ∧ Hid (upHd false s l k)) (fun _ iv _ => nh - (intOf iv).toNat)
  case atStart => exact ⟨0, by omega, rfl, rfl, Lib.hid (Below.refl _ _), Lib.hid fun i hi => by omega⟩
  case round =>
    obtain ⟨k, hk, rfl, rfl, hbw, hall⟩ := hrel
    by_cases hlt : k < nh
    · have XR := Lib.hid (X.out.below hbw.out)
      have hkl : k < l.length := by rw [HN.out]; exact hlt
      have g0 : (0 : Int) ≤ (k : Int) := by omega
      have g1 : (k : Int) < (nh : Int) := by omega
      obtain ⟨b, off, rfl, hbb, h1, h2, h3, h4⟩ := (HL.out.below (hbw.out.mono (by omega))).at_ (k := k) hkl
      have HA := Lib.hid (fun q1 q2 q3 q4 => upHd_succ (n := s) hall.out (k := k) q1 q2 q3 q4)
      have HNO := Lib.hid (show upHd false s l nh → hdOk false (atH l k) ∧ (atH l k).dst ≠ s ∧ prevH l k < (atH l k).dst ∧ (atH l k).dst ≤ 10 from fun hu => hu k hlt)
      have HPS := Lib.hid (prevH_succ l k)
      generalize prevH l k = la at *
      generalize atH l k = p at *
      obtain ⟨d, c, q, i⟩ := p
      simp only at h1 h2 h3 h4
      have HS := Lib.hid (fun W => maydata_any d c q i W)
      have J0 := Lib.hid (hbox_new wr d c q i 51)
      have B3 := Lib.hid (kbelow_box wr (.cells #[.int .i64 d, .int .u64 (c : Int), .int .u64 (q : Int), .int .u64 (i : Int)] 51))
      have X3 := Lib.hid (XR.out.below B3.out)
      obtain ⟨j0, j1, j2, j3⟩ := J0.out
      obtain ⟨k0, k1, k2, k3, k4, k5, k6, k7, k8, k9⟩ := X3.out
      go_wp2_with fail
      generalize wr.alloc (.cells #[.int .i64 d, .int .u64 (c : Int), .int .u64 (q : Int), .int .u64 (i : Int)] 51) = W3 at *
      refine (HS.out W3).mono ?_
      rintro e w4 ⟨rfl, hb4⟩
      have hbw4 := Lib.hid (ktr hbw.out (ktr B3.out hb4.out))
      have X4 := Lib.hid (X3.out.below hb4.out)
      have J4 := Lib.hid (J0.out.below hb4.out)
      clear k0 k1 k2 k3 k4 k5 k6 k7 k8 k9 j0 j1 j2 j3 h1 h2 h3 h4 hb4 B3 X3 XR J0
      obtain ⟨k0, k1, k2, k3, k4, k5, k6, k7, k8, k9⟩ := X4.out
      obtain ⟨j0, j1, j2, j3⟩ := J4.out
      generalize wr.heap.size = gb at *
      by_cases hs : hdOk false ⟨d, c, q, i⟩
      · rw [decide_eq_true hs]
        by_cases he : d = s
        · have heb : (d == s) = true := by simp [he]
          have : r = false := by rw [← HD.out]; exact decide_eq_false (fun hu => (HNO.out hu).2.1 he)
          subst this
          clear HA HNO HS hs hall hbw he HD
          go_wp2
          go_ret
          exact ⟨rfl, Lib.hid (B1.out.trans (hbw4.out.mono (by omega)))⟩
        · have heb : (d == s) = false := by rw [beq_eq_false_iff_ne]; exact he
          by_cases hle : d ≤ la
          · have hleb : decide (d ≤ la) = true := decide_eq_true hle
            have : r = false := by rw [← HD.out]; exact decide_eq_false (fun hu => by have := (HNO.out hu).2.2.1; (try simp only at this); omega)
            subst this
            clear HA HNO HS hs hall hbw he HD
            go_wp2
            go_ret
            exact ⟨rfl, Lib.hid (B1.out.trans (hbw4.out.mono (by omega)))⟩
          · have hleb : decide (d ≤ la) = false := decide_eq_false hle
            by_cases hgt : 10 < d
            · have hgtb : decide (10 < d) = true := decide_eq_true hgt
              have : r = false := by rw [← HD.out]; exact decide_eq_false (fun hu => by have := (HNO.out hu).2.2.2; (try simp only at this); omega)
              subst this
              clear HA HNO HS hs hall hbw he HD
              go_wp2
              go_ret
              exact ⟨rfl, Lib.hid (B1.out.trans (hbw4.out.mono (by omega)))⟩
            · have hgtb : decide (10 < d) = false := decide_eq_false hgt
              have HA2 := Lib.hid (HA.out hs he (by first | omega | (simp only; omega)) (by first | omega | (simp only; omega)))
              clear HA HNO HS hs hall hbw he
              go_wp2
              go_roundw
              case rel => exact ⟨k + 1, by omega, by rw [HPS.out], by go_num, hbw4, HA2⟩
              case measure => simp [intOf]; omega
      · rw [decide_eq_false hs]
        have : r = false := by rw [← HD.out]; exact decide_eq_false (fun hu => hs (HNO.out hu).1)
        subst this
        clear HA HNO HS hs hall hbw HD
        go_wp2
        go_ret
        exact ⟨rfl, Lib.hid (B1.out.trans (hbw4.out.mono (by omega)))⟩
    · obtain rfl : k = nh := by omega
      have g1 : ¬ (k : Int) < (k : Int) := by omega
      have : r = true := by rw [← HD.out]; exact decide_eq_true hall.out
      subst this
      clear HD
      go_wp2
      go_ret
      exact ⟨rfl, Lib.hid (B1.out.trans (hbw.out.mono (by omega)))⟩
set_option maxHeartbeats 4000000 in
theorem headed3_any (k s t h x y z : Int) (H A P : Option Addr) (nh ch n cap np cp B : Nat) (l : List Hd) (w : World) (hl : Hds w B H l) (hB : B ≤ w.heap.size) (hn : l.length = nh) (hb : nh ≤ 1000000) :
    Calls Try.prog 22 #[.agg #[.int .i64 k, .int .i64 s, .int .u64 t, .int .i64 h, .slice H nh ch, .slice A n cap, .int .i64 x, .int .u64 y, .int .u64 z, .slice P np cp], .func (.func 24) #[] #[]] w fun e w' => e = .returned (.bool (decide (upHd true s l nh))) ∧ Hid (Below w.heap.size w w') := by
  have X := Lib.hid (kbox_new (k := k) (s := s) (t := t) (h := h) (x := x) (y := y) (z := z) (H := H) (A := A) (P := P) (nh := nh) (ch := ch) (n := n) (cap := cap) (np := np) (cp := cp) (w := w) 31)
  have B1 := Lib.hid (kbelow_box w (.cells #[.int .i64 k, .int .i64 s, .int .u64 t, .int .i64 h, .slice H nh ch, .slice A n cap, .int .i64 x, .int .u64 y, .int .u64 z, .slice P np cp] 31))
  have HL := Lib.hid (hl.below (B1.out.mono hB))
  have HN := Lib.hid hn
  generalize hd : decide (upHd true s l nh) = r
  have HD := Lib.hid hd
  clear hd hl hn
  obtain ⟨k0, k1, k2, k3, k4, k5, k6, k7, k8, k9⟩ := X.out
  go_enter Try.func22, Try.ntmps22
  go_wp2
  generalize w.alloc (.cells #[.int .i64 k, .int .i64 s, .int .u64 t, .int .i64 h, .slice H nh ch, .slice A n cap, .int .i64 x, .int .u64 y, .int .u64 z, .slice P np cp] 31) = W1 at *
  have hs1 := B1.out.size
  clear k0 k1 k2 k3 k4 k5 k6 k7 k8 k9
  go_loopw [5, 11] (fun lv iv wr => ∃ k : Nat, k ≤ nh ∧ lv = .int .i64 (prevH l k) ∧ iv = .int .i64 (k : Nat) ∧ Hid (Below W1.heap.size W1 wr) ∧ Hid (upHd true s l k)) (fun _ iv _ => nh - (intOf iv).toNat)
  case atStart => exact ⟨0, by omega, rfl, rfl, Lib.hid (Below.refl _ _), Lib.hid fun i hi => by omega⟩
  case round =>
    obtain ⟨k, hk, rfl, rfl, hbw, hall⟩ := hrel
    by_cases hlt : k < nh
    · have XR := Lib.hid (X.out.below hbw.out)
      have hkl : k < l.length := by rw [HN.out]; exact hlt
      have g0 : (0 : Int) ≤ (k : Int) := by omega
      have g1 : (k : Int) < (nh : Int) := by omega
      obtain ⟨b, off, rfl, hbb, h1, h2, h3, h4⟩ := (HL.out.below (hbw.out.mono (by omega))).at_ (k := k) hkl
      have HA := Lib.hid (fun q1 q2 q3 q4 => upHd_succ (n := s) hall.out (k := k) q1 q2 q3 q4)
      have HNO := Lib.hid (show upHd true s l nh → hdOk true (atH l k) ∧ (atH l k).dst ≠ s ∧ prevH l k < (atH l k).dst ∧ (atH l k).dst ≤ 10 from fun hu => hu k hlt)
      have HPS := Lib.hid (prevH_succ l k)
      generalize prevH l k = la at *
      generalize atH l k = p at *
      obtain ⟨d, c, q, i⟩ := p
      simp only at h1 h2 h3 h4
      have HS := Lib.hid (fun W => mayack_any d c q i W)
      have J0 := Lib.hid (hbox_new wr d c q i 51)
      have B3 := Lib.hid (kbelow_box wr (.cells #[.int .i64 d, .int .u64 (c : Int), .int .u64 (q : Int), .int .u64 (i : Int)] 51))
      have X3 := Lib.hid (XR.out.below B3.out)
      obtain ⟨j0, j1, j2, j3⟩ := J0.out
      obtain ⟨k0, k1, k2, k3, k4, k5, k6, k7, k8, k9⟩ := X3.out
      go_wp2_with fail
      generalize wr.alloc (.cells #[.int .i64 d, .int .u64 (c : Int), .int .u64 (q : Int), .int .u64 (i : Int)] 51) = W3 at *
      refine (HS.out W3).mono ?_
      rintro e w4 ⟨rfl, hb4⟩
      have hbw4 := Lib.hid (ktr hbw.out (ktr B3.out hb4.out))
      have X4 := Lib.hid (X3.out.below hb4.out)
      have J4 := Lib.hid (J0.out.below hb4.out)
      clear k0 k1 k2 k3 k4 k5 k6 k7 k8 k9 j0 j1 j2 j3 h1 h2 h3 h4 hb4 B3 X3 XR J0
      obtain ⟨k0, k1, k2, k3, k4, k5, k6, k7, k8, k9⟩ := X4.out
      obtain ⟨j0, j1, j2, j3⟩ := J4.out
      generalize wr.heap.size = gb at *
      by_cases hs : hdOk true ⟨d, c, q, i⟩
      · rw [decide_eq_true hs]
        by_cases he : d = s
        · have heb : (d == s) = true := by simp [he]
          have : r = false := by rw [← HD.out]; exact decide_eq_false (fun hu => (HNO.out hu).2.1 he)
          subst this
          clear HA HNO HS hs hall hbw he HD
          go_wp2
          go_ret
          exact ⟨rfl, Lib.hid (B1.out.trans (hbw4.out.mono (by omega)))⟩
        · have heb : (d == s) = false := by rw [beq_eq_false_iff_ne]; exact he
          by_cases hle : d ≤ la
          · have hleb : decide (d ≤ la) = true := decide_eq_true hle
            have : r = false := by rw [← HD.out]; exact decide_eq_false (fun hu => by have := (HNO.out hu).2.2.1; (try simp only at this); omega)
            subst this
            clear HA HNO HS hs hall hbw he HD
            go_wp2
            go_ret
            exact ⟨rfl, Lib.hid (B1.out.trans (hbw4.out.mono (by omega)))⟩
          · have hleb : decide (d ≤ la) = false := decide_eq_false hle
            by_cases hgt : 10 < d
            · have hgtb : decide (10 < d) = true := decide_eq_true hgt
              have : r = false := by rw [← HD.out]; exact decide_eq_false (fun hu => by have := (HNO.out hu).2.2.2; (try simp only at this); omega)
              subst this
              clear HA HNO HS hs hall hbw he HD
              go_wp2
              go_ret
              exact ⟨rfl, Lib.hid (B1.out.trans (hbw4.out.mono (by omega)))⟩
            · have hgtb : decide (10 < d) = false := decide_eq_false hgt
              have HA2 := Lib.hid (HA.out hs he (by first | omega | (simp only; omega)) (by first | omega | (simp only; omega)))
              clear HA HNO HS hs hall hbw he
              go_wp2
              go_roundw
              case rel => exact ⟨k + 1, by omega, by rw [HPS.out], by go_num, hbw4, HA2⟩
              case measure => simp [intOf]; omega
      · rw [decide_eq_false hs]
        have : r = false := by rw [← HD.out]; exact decide_eq_false (fun hu => hs (HNO.out hu).1)
        subst this
        clear HA HNO HS hs hall hbw HD
        go_wp2
        go_ret
        exact ⟨rfl, Lib.hid (B1.out.trans (hbw4.out.mono (by omega)))⟩
    · obtain rfl : k = nh := by omega
      have g1 : ¬ (k : Int) < (k : Int) := by omega
      have : r = true := by rw [← HD.out]; exact decide_eq_true hall.out
      subst this
      clear HD
      go_wp2
      go_ret
      exact ⟨rfl, Lib.hid (B1.out.trans (hbw.out.mono (by omega)))⟩
end Go.Proofs.Ytlcddfkhklmieaa
