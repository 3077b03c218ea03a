/-
  Whether two frames are the same, by the document's answer. No condition.
-/
import Derived.Test.YtelbhlkojpnmgaaDoorFmem
namespace Go.Proofs.YtelbhlkojpnmgaaDoor
set_option maxRecDepth 20000
open Go.RowKit

theorem same_str (l l' : List UInt8) : ((⟨l.toArray⟩ : ByteArray).toList == (⟨l'.toArray⟩ : ByteArray).toList) = decide (l = l') := by
  rw [ByteArray.toList_eq, ByteArray.toList_eq, Bool.eq_iff_iff]
  simp
set_option maxHeartbeats 8000000 in
theorem fsame_int (k s t i c p q a e k' s' t' i' c' p' q' a' e' : Int) (A A' : Option Addr) (n cap m cap' B : Nat) (l l' : List UInt8) (hn : l.length = n) (hm : l'.length = m) (w : World) (h1 : Bytes w B A l) (h2 : Bytes w B A' l') (hB : B ≤ w.heap.size) :
    Calls Tryd.prog 16 #[.agg #[.int .i64 k, .int .i64 s, .int .i64 t, .int .u64 i, .int .u64 c, .int .u64 p, .int .u64 q, .int .u64 a, .int .u64 e, .slice A n cap], .agg #[.int .i64 k', .int .i64 s', .int .i64 t', .int .u64 i', .int .u64 c', .int .u64 p', .int .u64 q', .int .u64 a', .int .u64 e', .slice A' m cap']] w fun en w' => en = .returned (.bool (decide (k = k' ∧ s = s' ∧ t = t' ∧ i = i' ∧ c = c' ∧ p = p' ∧ q = q' ∧ a = a' ∧ e = e' ∧ l = l'))) ∧ Hid (Below w.heap.size w w') := by
  have HX := Lib.hid (fbox_new w k s t i c p q a e A n cap 25)
  have HY := Lib.hid (fbox_new (w.alloc (.cells #[.int .i64 k, .int .i64 s, .int .i64 t, .int .u64 i, .int .u64 c, .int .u64 p, .int .u64 q, .int .u64 a, .int .u64 e, .slice A n cap] 25)) k' s' t' i' c' p' q' a' e' A' m cap' 25)
  have B1 := Lib.hid (fbelow_box w (.cells #[.int .i64 k, .int .i64 s, .int .i64 t, .int .u64 i, .int .u64 c, .int .u64 p, .int .u64 q, .int .u64 a, .int .u64 e, .slice A n cap] 25))
  have B2 := Lib.hid (fbelow_box (w.alloc (.cells #[.int .i64 k, .int .i64 s, .int .i64 t, .int .u64 i, .int .u64 c, .int .u64 p, .int .u64 q, .int .u64 a, .int .u64 e, .slice A n cap] 25)) (.cells #[.int .i64 k', .int .i64 s', .int .i64 t', .int .u64 i', .int .u64 c', .int .u64 p', .int .u64 q', .int .u64 a', .int .u64 e', .slice A' m cap'] 25))
  generalize hr : decide (k = k' ∧ s = s' ∧ t = t' ∧ i = i' ∧ c = c' ∧ p = p' ∧ q = q' ∧ a = a' ∧ e = e' ∧ l = l') = r
  have HD := Lib.hid hr
  clear hr
  have BW := Lib.hid (fbtr B1.out B2.out)
  have HZ := Lib.hid (HX.out.below B2.out)
  have H1 := Lib.hid (conv_str cap (h1.below (BW.out.mono hB)) hn)
  have H2 := Lib.hid (conv_str cap' (h2.below (BW.out.mono hB)) hm)
  have HE := Lib.hid (same_str l l')
  generalize (⟨l.toArray⟩ : ByteArray) = sa at H1 HE
  generalize (⟨l'.toArray⟩ : ByteArray) = sb at H2 HE
  clear h1 h2 hB hn hm HX B1 B2
  go_enter Tryd.func16, Tryd.ntmps16
  obtain ⟨k0, k1, k2, k3, k4, k5, k6, k7, k8, k9⟩ := HZ.out
  obtain ⟨j0, j1, j2, j3, j4, j5, j6, j7, j8, j9⟩ := HY.out
  have c1 := H1.out
  have c2 := H2.out
  rw [show (w.alloc (.cells #[.int .i64 k, .int .i64 s, .int .i64 t, .int .u64 i, .int .u64 c, .int .u64 p, .int .u64 q, .int .u64 a, .int .u64 e, .slice A n cap] 25)).heap.size = w.heap.size + 1 by simp] at j0 j1 j2 j3 j4 j5 j6 j7 j8 j9
  clear HY HZ H1 H2
  by_cases hk : k = k'
  · have hkb : (k == k') = true := by rw [beq_iff_eq]; exact hk
    have Hk := Lib.hid hk
    clear hk
    by_cases hs : s = s'
    · have hsb : (s == s') = true := by rw [beq_iff_eq]; exact hs
      have Hs := Lib.hid hs
      clear hs
      by_cases ht : t = t'
      · have htb : (t == t') = true := by rw [beq_iff_eq]; exact ht
        have Ht := Lib.hid ht
        clear ht
        by_cases hi : i = i'
        · have hib : (i == i') = true := by rw [beq_iff_eq]; exact hi
          have Hi := Lib.hid hi
          clear hi
          by_cases hc : c = c'
          · have hcb : (c == c') = true := by rw [beq_iff_eq]; exact hc
            have Hc := Lib.hid hc
            clear hc
            by_cases hp : p = p'
            · have hpb : (p == p') = true := by rw [beq_iff_eq]; exact hp
              have Hp := Lib.hid hp
              clear hp
              by_cases hq : q = q'
              · have hqb : (q == q') = true := by rw [beq_iff_eq]; exact hq
                have Hq := Lib.hid hq
                clear hq
                by_cases ha : a = a'
                · have hab : (a == a') = true := by rw [beq_iff_eq]; exact ha
                  have Ha := Lib.hid ha
                  clear ha
                  by_cases he : e = e'
                  · have heb : (e == e') = true := by rw [beq_iff_eq]; exact he
                    have He := Lib.hid he
                    clear he
                    by_cases hl : l = l'
                    · have hlb : (sa.toList == sb.toList) = true := by rw [HE.out]; exact decide_eq_true hl
                      have Hl := Lib.hid hl
                      clear hl
                      have : r = true := by rw [← HD.out]; exact decide_eq_true ⟨Hk.out, Hs.out, Ht.out, Hi.out, Hc.out, Hp.out, Hq.out, Ha.out, He.out, Hl.out⟩
                      subst this
                      clear HD
                      go_wp2
                      go_ret
                      exact ⟨by first | rfl | (simp; omega) | simp_all, BW⟩
                    · have hlb : (sa.toList == sb.toList) = false := by rw [HE.out]; exact decide_eq_false hl
                      have : r = false := by rw [← HD.out]; exact decide_eq_false (fun h => hl h.2.2.2.2.2.2.2.2.2)
                      subst this
                      clear HD
                      go_wp2
                      go_ret
                      exact ⟨by first | rfl | (simp; omega) | simp_all, BW⟩
                  · have heb : (e == e') = false := by rw [beq_eq_false_iff_ne]; exact he
                    have : r = false := by rw [← HD.out]; exact decide_eq_false (fun h => he h.2.2.2.2.2.2.2.2.1)
                    subst this
                    clear HD
                    go_wp2
                    go_ret
                    exact ⟨by first | rfl | (simp; omega) | simp_all, BW⟩
                · have hab : (a == a') = false := by rw [beq_eq_false_iff_ne]; exact ha
                  have : r = false := by rw [← HD.out]; exact decide_eq_false (fun h => ha h.2.2.2.2.2.2.2.1)
                  subst this
                  clear HD
                  go_wp2
                  go_ret
                  exact ⟨by first | rfl | (simp; omega) | simp_all, BW⟩
              · have hqb : (q == q') = false := by rw [beq_eq_false_iff_ne]; exact hq
                have : r = false := by rw [← HD.out]; exact decide_eq_false (fun h => hq h.2.2.2.2.2.2.1)
                subst this
                clear HD
                go_wp2
                go_ret
                exact ⟨by first | rfl | (simp; omega) | simp_all, BW⟩
            · have hpb : (p == p') = false := by rw [beq_eq_false_iff_ne]; exact hp
              have : r = false := by rw [← HD.out]; exact decide_eq_false (fun h => hp h.2.2.2.2.2.1)
              subst this
              clear HD
              go_wp2
              go_ret
              exact ⟨by first | rfl | (simp; omega) | simp_all, BW⟩
          · have hcb : (c == c') = false := by rw [beq_eq_false_iff_ne]; exact hc
            have : r = false := by rw [← HD.out]; exact decide_eq_false (fun h => hc h.2.2.2.2.1)
            subst this
            clear HD
            go_wp2
            go_ret
            exact ⟨by first | rfl | (simp; omega) | simp_all, BW⟩
        · have hib : (i == i') = false := by rw [beq_eq_false_iff_ne]; exact hi
          have : r = false := by rw [← HD.out]; exact decide_eq_false (fun h => hi h.2.2.2.1)
          subst this
          clear HD
          go_wp2
          go_ret
          exact ⟨by first | rfl | (simp; omega) | simp_all, BW⟩
      · have htb : (t == t') = false := by rw [beq_eq_false_iff_ne]; exact ht
        have : r = false := by rw [← HD.out]; exact decide_eq_false (fun h => ht h.2.2.1)
        subst this
        clear HD
        go_wp2
        go_ret
        exact ⟨by first | rfl | (simp; omega) | simp_all, BW⟩
    · have hsb : (s == s') = false := by rw [beq_eq_false_iff_ne]; exact hs
      have : r = false := by rw [← HD.out]; exact decide_eq_false (fun h => hs h.2.1)
      subst this
      clear HD
      go_wp2
      go_ret
      exact ⟨by first | rfl | (simp; omega) | simp_all, BW⟩
  · have hkb : (k == k') = false := by rw [beq_eq_false_iff_ne]; exact hk
    have : r = false := by rw [← HD.out]; exact decide_eq_false (fun h => hk h.1)
    subst this
    clear HD
    go_wp2
    go_ret
    exact ⟨by first | rfl | (simp; omega) | simp_all, BW⟩
theorem fsame_any (f g : Fr) (A A' : Option Addr) (n cap m cap' B : Nat) (hn : f.body.length = n) (hm : g.body.length = m) (w : World) (h1 : Bytes w B A f.body) (h2 : Bytes w B A' g.body) (hB : B ≤ w.heap.size) :
    Calls Tryd.prog 16 #[frV f A n cap, frV g A' m cap'] w fun en w' => en = .returned (.bool (decide (f = g))) ∧ Hid (Below w.heap.size w w') := by
  have h := fsame_int f.kind f.src f.dst f.inc f.conn f.pinc f.pconn f.ack f.seq g.kind g.src g.dst g.inc g.conn g.pinc g.pconn g.ack g.seq A A' n cap m cap' B f.body g.body hn hm w h1 h2 hB
  have e : decide (f = g) = decide (f.kind = g.kind ∧ f.src = g.src ∧ f.dst = g.dst ∧ (f.inc : Int) = g.inc ∧ (f.conn : Int) = g.conn ∧ (f.pinc : Int) = g.pinc ∧ (f.pconn : Int) = g.pconn ∧ (f.ack : Int) = g.ack ∧ (f.seq : Int) = g.seq ∧ f.body = g.body) := by
    obtain ⟨_, _, _, _, _, _, _, _, _, _⟩ := f
    obtain ⟨_, _, _, _, _, _, _, _, _, _⟩ := g
    rw [Bool.eq_iff_iff, decide_eq_true_iff, decide_eq_true_iff, Fr.mk.injEq]
    simp only [Int.natCast_inj]
  rw [e]
  exact h
end Go.Proofs.YtelbhlkojpnmgaaDoor
