/-
  Package packet's mayAdvert: whether what an advert says may be. For at most 1,000,000 peers, lives whose numbers are unsigned.
-/
import Derived.Test.YtlcddfkhklmieaaKmaya
import Derived.Test.YtlcddfkhklmieaaKadv
namespace Go.Proofs.Ytlcddfkhklmieaa
set_option maxRecDepth 20000
open Go.RowKit

theorem prevL_succ (l : List Life) (k : Nat) : prevL l (k + 1) = (atL l k).1 := by
  unfold prevL
  rw [if_neg (by omega), Nat.add_sub_cancel]
theorem upAdv_succ {n : Int} {l : List Life} {k : Nat} (h : upAdv n l k) (h1 : srvK (atL l k)) (h2 : (atL l k).1 ≠ n) (h3 : prevL l k < (atL l k).1) : upAdv n l (k + 1) := fun i hi => by
  by_cases e : i = k
  · subst e; exact ⟨h1, h2, h3⟩
  · exact h i (by omega)
theorem advK_tell {x y : Int} {z n : Nat} {l : List Life} (hn : l.length = n) (hu : upAdv x l n) : decide (advK (x, y) z l) = (decide (srvK (x, y)) && decide (countK z)) := by
  rw [Bool.eq_iff_iff, decide_eq_true_iff, Bool.and_eq_true, decide_eq_true_iff, decide_eq_true_iff, advK_iff, hn]
  exact ⟨fun h => h.2, fun h => ⟨hu, h⟩⟩
theorem advK_not {x y : Int} {z n : Nat} {l : List Life} (hn : l.length = n) (hu : ¬ upAdv x l n) : decide (advK (x, y) z l) = false := by
  rw [decide_eq_false_iff_not, advK_iff, hn]
  exact fun h => hu h.1
set_option maxHeartbeats 4000000 in
theorem mayadv_any (x y : Int) (z : Nat) (A : Option Addr) (l : List Life) (n c B : Nat) (w : World) (hy : 0 ≤ y) (h : Lives w B A l) (hB : B ≤ w.heap.size) (hn : l.length = n) (hb : n ≤ 1000000) (hpos : ∀ p ∈ l, 0 ≤ p.2) :
    Calls Try.prog 20 #[.agg #[.int .i64 x, .int .u64 y, .int .u64 (z : Int), .slice A n c]] w fun e w' => e = .returned (.bool (decide (advK (x, y) z l))) ∧ Hid (Below w.heap.size w w') := by
  have X := Lib.hid (abox_new w x y z A n c 29)
  have B1 := Lib.hid (kbelow_box w (.cells #[.int .i64 x, .int .u64 y, .int .u64 (z : Int), .slice A n c] 29))
  have HL := Lib.hid (h.below (B1.out.mono hB))
  have HN := Lib.hid hn
  have HP := Lib.hid hpos
  have HT := Lib.hid (fun hu : upAdv x l n => advK_tell (y := y) (z := z) hn hu)
  have HNT := Lib.hid (fun hu : ¬ upAdv x l n => advK_not (y := y) (z := z) hn hu)
  generalize hd : decide (advK (x, y) z l) = r at *
  clear hd h hn hpos
  obtain ⟨k0, k1, k2, k3⟩ := X.out
  go_enter Try.func20, Try.ntmps20
  go_wp2
  generalize w.alloc (.cells #[.int .i64 x, .int .u64 y, .int .u64 (z : Int), .slice A n c] 29) = W1 at *
  have hs1 := B1.out.size
  clear k0 k1 k2 k3
  go_loopw [3, 9] (fun lv iv wr => ∃ k : Nat, k ≤ n ∧ lv = .int .i64 (prevL l k) ∧ iv = .int .i64 (k : Nat) ∧ Hid (Below W1.heap.size W1 wr) ∧ Hid (upAdv x l k)) (fun _ iv _ => n - (intOf iv).toNat)
  case atStart => exact ⟨0, by omega, rfl, rfl, Lib.hid (Below.refl _ _), Lib.hid fun i hi => by omega⟩
  case round =>
    obtain ⟨k, hk, rfl, rfl, hbw, hall⟩ := hrel
    have XR := Lib.hid (X.out.below hbw.out)
    obtain ⟨k0, k1, k2, k3⟩ := XR.out
    by_cases hlt : k < n
    · have hkl : k < l.length := by rw [HN.out]; exact hlt
      have g0 : (0 : Int) ≤ (k : Int) := by omega
      have g1 : (k : Int) < (n : Int) := by omega
      obtain ⟨b, off, rfl, hbb, h1, h2⟩ := (HL.out.below (hbw.out.mono (by omega))).at_ (k := k) hkl
      have hpx := HP.out _ (atL_mem (l := l) (k := k) hkl)
      have HS := Lib.hid (fun W => isserver_any (atL l k) hpx W)
      have HA := Lib.hid (fun q1 q2 q3 => upAdv_succ (n := x) hall.out (k := k) q1 q2 q3)
      have HNO := Lib.hid (show upAdv x l n → srvK (atL l k) ∧ (atL l k).1 ≠ x ∧ prevL l k < (atL l k).1 from fun hu => hu k hlt)
      have HPS := Lib.hid (prevL_succ l k)
      generalize prevL l k = la at *
      generalize atL l k = p at *
      obtain ⟨px, py⟩ := p
      simp only at h1 h2
      obtain ⟨j1, j2⟩ := one_new wr px py
      have B3 := Lib.hid (kbelow_box wr (.cells #[.int .i64 px, .int .u64 py] 24))
      have X3 := Lib.hid (XR.out.below B3.out)
      have J1 := Lib.hid j1
      clear k0 k1 k2 k3
      obtain ⟨k0, k1, k2, k3⟩ := X3.out
      go_wp2_with fail
      generalize wr.alloc (.cells #[.int .i64 px, .int .u64 py] 24) = W3 at *
      refine (HS.out W3).mono ?_
      rintro e w4 ⟨rfl, hb4⟩
      have hbw4 := Lib.hid (ktr hbw.out (ktr B3.out hb4.out))
      have X4 := Lib.hid (X3.out.below hb4.out)
      have j1' := kcell_below J1.out hb4.out
      clear k0 k1 k2 k3 j1 j2 h1 h2 hb4 B3 X3 XR J1
      obtain ⟨k0, k1, k2, k3⟩ := X4.out
      generalize wr.heap.size = gb at *
      by_cases hs : srvK (px, py)
      · rw [decide_eq_true hs]
        by_cases he : px = x
        · have heb : (px == x) = true := by simp [he]
          have := HNT.out (fun hu => (HNO.out hu).2.1 he)
          subst this
          clear HA HNO HS hs hall hbw he HT HNT
          go_wp2
          go_ret
          exact ⟨rfl, Lib.hid (B1.out.trans (hbw4.out.mono (by omega)))⟩
        · have heb : (px == x) = false := by rw [beq_eq_false_iff_ne]; exact he
          by_cases hle : px ≤ la
          · have hleb : decide (px ≤ la) = true := decide_eq_true hle
            have := HNT.out (fun hu => by have := (HNO.out hu).2.2; (try simp only at this); omega)
            subst this
            clear HA HNO HS hs hall hbw he HT HNT
            go_wp2
            go_ret
            exact ⟨rfl, Lib.hid (B1.out.trans (hbw4.out.mono (by omega)))⟩
          · have hleb : decide (px ≤ la) = false := decide_eq_false hle
            have HA2 := Lib.hid (HA.out hs he (by first | omega | (simp only; omega)))
            clear HA HNO HS hs hall hbw he
            go_wp2
            go_roundw
            case rel => exact ⟨k + 1, by omega, by rw [HPS.out], by go_num, hbw4, HA2⟩
            case measure => simp [intOf]; omega
      · rw [decide_eq_false hs]
        have := HNT.out (fun hu => hs (HNO.out hu).1)
        subst this
        clear HA HNO HS hs hall hbw HT HNT
        go_wp2
        go_ret
        exact ⟨rfl, Lib.hid (B1.out.trans (hbw4.out.mono (by omega)))⟩
    · obtain rfl : k = n := by omega
      have g1 : ¬ (k : Int) < (k : Int) := by omega
      have HR := Lib.hid (HT.out hall.out)
      have HS := Lib.hid (fun W => isserver_any (x, y) hy W)
      have HC := Lib.hid (fun W => iscount_any z W)
      clear HT HNT hall
      go_wp2_with fail
      refine (HS.out wr).mono ?_
      rintro e w4 ⟨rfl, hb4⟩
      have hbw4 := Lib.hid (ktr hbw.out hb4.out)
      have X4 := Lib.hid (XR.out.below hb4.out)
      clear k0 k1 k2 k3 hbw
      obtain ⟨k0, k1, k2, k3⟩ := X4.out
      by_cases hs : srvK (x, y)
      · rw [decide_eq_true hs]
        have := HR.out
        rw [decide_eq_true hs, Bool.true_and] at this
        subst this
        clear HR hs
        go_wp2_with fail
        refine (HC.out w4).mono ?_
        rintro e w5 ⟨rfl, rfl⟩
        go_wp2
        go_ret
        exact ⟨rfl, Lib.hid (B1.out.trans (hbw4.out.mono (by omega)))⟩
      · rw [decide_eq_false hs]
        have := HR.out
        rw [decide_eq_false hs, Bool.false_and] at this
        subst this
        clear HR hs
        go_wp2
        go_ret
        exact ⟨rfl, Lib.hid (B1.out.trans (hbw4.out.mono (by omega)))⟩
end Go.Proofs.Ytlcddfkhklmieaa
