/-
  The document's own words for packets (caucusref06): a life that packets may have, a server's, servers. For lives whose numbers are unsigned.
-/
import Derived.Test.YtlcddfkhklmieaaKset
import Derived.Test.YtlcddfkhklmieaaFmay
import Derived.Test.YtlcddfkhklmieaaGc
namespace Go.Proofs.Ytlcddfkhklmieaa
set_option maxRecDepth 20000
open Go.RowKit

theorem kbelow_box (w : World) (o : Obj) : Below w.heap.size w (w.alloc o) := (Below.refl w.heap.size w).alloc (Nat.le_refl _) o
theorem ktr {w W W' : World} (h : Below w.heap.size w W) (k : Below W.heap.size W W') : Below w.heap.size w W' := h.trans (k.mono h.size)
theorem life_row (w : World) (x y : Int) (t : TypeId) : (w.alloc (.cells #[.int .i64 x, .int .u64 y] t)).heap[w.heap.size]? = some (.cells #[.int .i64 x, .int .u64 y] t (0, 0)) := heap_alloc_new w _
set_option maxHeartbeats 1000000 in
theorem rlife_any (p : Life) (hp : 0 ≤ p.2) (w : World) :
    Calls Try.prog 26 #[lifeV p] w fun e w' => e = .returned (.bool (decide (lifeK p))) ∧ Hid (Below w.heap.size w w') := by
  obtain ⟨x, y⟩ := p
  have R := Lib.hid (life_row w x y 24)
  have B1 := Lib.hid (kbelow_box w (.cells #[.int .i64 x, .int .u64 y] 24))
  have HM := Lib.hid (fun W => rmay_any (x, y) hp W)
  have HC := Lib.hid (fun W => rcount_any y W)
  generalize hd : decide (lifeK (x, y)) = r
  have HD := Lib.hid hd
  clear hd
  go_enter Try.func26, Try.ntmps26
  go_wp2_with fail
  generalize w.alloc (.cells #[.int .i64 x, .int .u64 y] 24) = W1 at *
  refine (HM.out W1).mono ?_
  rintro e W2 ⟨rfl, hb2⟩
  have R2 := Lib.hid ((hb2.out.block _ (lt_of_heap R.out)).trans R.out)
  have B2 := Lib.hid (ktr B1.out hb2.out)
  have p0 := cell_plain R2.out 0
  have p1 := cell_plain R2.out 1
  simp only [List.getElem?_toArray, List.getElem?_cons_zero, List.getElem?_cons_succ] at p0 p1
  clear R B1 hb2 HM
  by_cases hm : mayL (x, y)
  · rw [decide_eq_true hm]
    go_wp2_with fail
    refine (HC.out W2).mono ?_
    rintro e W3 ⟨rfl, rfl⟩
    have : r = decide (y < 34359738368) := by rw [← HD.out, Bool.eq_iff_iff, decide_eq_true_iff, decide_eq_true_iff]; exact ⟨fun h => h.2, fun h => ⟨hm, h⟩⟩
    subst this
    clear HD
    go_wp2
    go_ret
    exact ⟨rfl, B2⟩
  · rw [decide_eq_false hm]
    have : r = false := by rw [← HD.out]; exact decide_eq_false (fun h => hm h.1)
    subst this
    clear HD
    go_wp2
    go_ret
    exact ⟨rfl, B2⟩
set_option maxHeartbeats 1000000 in
theorem rserver_any (p : Life) (hp : 0 ≤ p.2) (w : World) :
    Calls Try.prog 48 #[lifeV p] w fun e w' => e = .returned (.bool (decide (srvK p))) ∧ Hid (Below w.heap.size w w') := by
  obtain ⟨x, y⟩ := p
  have R := Lib.hid (life_row w x y 24)
  have B1 := Lib.hid (kbelow_box w (.cells #[.int .i64 x, .int .u64 y] 24))
  have HM := Lib.hid (fun W => rlife_any (x, y) hp W)
  generalize hd : decide (srvK (x, y)) = r
  have HD := Lib.hid hd
  clear hd
  go_enter Try.func48, Try.ntmps48
  go_wp2_with fail
  generalize w.alloc (.cells #[.int .i64 x, .int .u64 y] 24) = W1 at *
  refine (HM.out W1).mono ?_
  rintro e W2 ⟨rfl, hb2⟩
  have R2 := Lib.hid ((hb2.out.block _ (lt_of_heap R.out)).trans R.out)
  have B2 := Lib.hid (ktr B1.out hb2.out)
  have p0 := cell_plain R2.out 0
  have p1 := cell_plain R2.out 1
  simp only [List.getElem?_toArray, List.getElem?_cons_zero, List.getElem?_cons_succ] at p0 p1
  clear R B1 hb2 HM
  by_cases hm : lifeK (x, y)
  · rw [decide_eq_true hm]
    have : r = decide (x ≤ 4) := by rw [← HD.out, Bool.eq_iff_iff, decide_eq_true_iff, decide_eq_true_iff]; exact ⟨fun h => h.2, fun h => ⟨hm, h⟩⟩
    subst this
    clear HD
    go_wp2
    go_ret
    exact ⟨rfl, B2⟩
  · rw [decide_eq_false hm]
    have : r = false := by rw [← HD.out]; exact decide_eq_false (fun h => hm h.1)
    subst this
    clear HD
    go_wp2
    go_ret
    exact ⟨rfl, B2⟩
set_option maxHeartbeats 1000000 in
theorem rservers_any (A : Option Addr) (l : List Life) (n c B : Nat) (w : World) (h : Lives w B A l) (hB : B ≤ w.heap.size) (hn : l.length = n) (hb : n ≤ 1000000) (hpos : ∀ p ∈ l, 0 ≤ p.2) :
    Calls Try.prog 51 #[.slice A n c] w fun e w' => e = .returned (.bool (decide (srvsK l))) ∧ Hid (Below w.heap.size w w') := by
  have HL := Lib.hid h
  have HN := Lib.hid hn
  have HP := Lib.hid hpos
  generalize hd : decide (srvsK l) = r
  have HD := Lib.hid hd
  clear h hn hpos hd
  go_enter Try.func51, Try.ntmps51
  go_wp2
  go_loopw [3] (fun iv wr => ∃ k : Nat, k ≤ n ∧ iv = .int .i64 (k : Nat) ∧ Hid (Below w.heap.size w wr) ∧ Hid (∀ i, i < k → srvK (atL l i))) (fun iv _ => n - (intOf iv).toNat)
  case atStart => exact ⟨0, by omega, rfl, Lib.hid (Below.refl _ _), Lib.hid fun i hi => by omega⟩
  case round =>
    obtain ⟨k, hk, rfl, hbw, hall⟩ := hrel
    by_cases hlt : k < n
    · have hkl : k < l.length := by rw [HN.out]; exact hlt
      have g0 : (0 : Int) ≤ (k : Int) := by omega
      have g1 : (k : Int) < (n : Int) := by omega
      obtain ⟨b, off, rfl, hbb, h1, h2⟩ := (HL.out.below (hbw.out.mono hB)).at_ (k := k) hkl
      have hpx := HP.out _ (atL_mem (l := l) (k := k) hkl)
      have HS := Lib.hid (fun W => rserver_any (atL l k) hpx W)
      have HA := Lib.hid (fun h : srvK (atL l k) => show ∀ i, i < k + 1 → srvK (atL l i) from fun i hi => by
        by_cases e : i = k
        · subst e; exact h
        · exact hall.out i (by omega))
      have HNO := Lib.hid (fun h : ¬ srvK (atL l k) => show ¬ srvsK l from fun h' => h (h' k hkl))
      generalize atL l k = p at *
      obtain ⟨x, y⟩ := p
      simp only at h1 h2
      go_wp2_with fail
      refine (HS.out wr).mono ?_
      rintro e w1 ⟨rfl, hb1⟩
      have hbw1 := Lib.hid (ktr hbw.out hb1.out)
      by_cases hs : srvK (x, y)
      · rw [decide_eq_true hs]
        have HA2 := Lib.hid (HA.out hs)
        clear HA HNO HS hs hall hbw hb1
        go_wp2
        go_roundw
        case rel => exact ⟨k + 1, by omega, by go_num, hbw1, HA2⟩
        case measure => simp [intOf]; omega
      · rw [decide_eq_false hs]
        have : r = false := by rw [← HD.out]; exact decide_eq_false (HNO.out hs)
        subst this
        clear HA HNO HS hs hall hbw hb1 HD
        go_wp2
        go_ret
        exact ⟨rfl, hbw1⟩
    · obtain rfl : k = n := by omega
      have g1 : ¬ (k : Int) < (k : Int) := by omega
      have : r = true := by rw [← HD.out]; exact decide_eq_true (fun i hi => hall.out i (by rw [← HN.out]; exact hi))
      subst this
      clear HD
      go_wp2
      go_ret
      exact ⟨rfl, hbw⟩
end Go.Proofs.Ytlcddfkhklmieaa
