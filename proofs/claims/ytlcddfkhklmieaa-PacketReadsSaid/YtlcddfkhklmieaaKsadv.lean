/-
  Whether two adverts are the same, by the document's answer. For at most 2^40 peers.
-/
import Derived.Test.YtlcddfkhklmieaaKadv
import Derived.Test.YtlcddfkhklmieaaGc
namespace Go.Proofs.Ytlcddfkhklmieaa
set_option maxRecDepth 20000
open Go.RowKit

theorem abox_two (w : World) (o o' : Obj) : Below w.heap.size w ((w.alloc o).alloc o') := ktr (kbelow_box w o) (kbelow_box _ o')
set_option maxHeartbeats 4000000 in
theorem rsadv_any (x y s : Int) (A : Option Addr) (n c : Nat) (x' y' s' : Int) (A' : Option Addr) (n' c' B : Nat) (l l' : List Life) (w : World) (h : Lives w B A l) (h' : Lives w B A' l') (hB : B ≤ w.heap.size) (hn : l.length = n) (hn' : l'.length = n') (hb : n ≤ 1099511627776) (hb' : n' ≤ 1099511627776) :
    Calls Try.prog 35 #[.agg #[.int .i64 x, .int .u64 y, .int .u64 s, .slice A n c], .agg #[.int .i64 x', .int .u64 y', .int .u64 s', .slice A' n' c']] w fun e w' => e = .returned (.bool (decide ((x, y) = (x', y') ∧ s = s' ∧ l = l'))) ∧ Hid (Below w.heap.size w w') := by
  have X0 := abox_new w x y s A n c 29
  have hz : (w.alloc (.cells #[.int .i64 x, .int .u64 y, .int .u64 s, .slice A n c] 29)).heap.size = w.heap.size + 1 := by simp
  have Y0 := abox_new (w.alloc (.cells #[.int .i64 x, .int .u64 y, .int .u64 s, .slice A n c] 29)) x' y' s' A' n' c' 29
  rw [hz] at Y0
  have X := Lib.hid (X0.below (kbelow_box _ (.cells #[.int .i64 x', .int .u64 y', .int .u64 s', .slice A' n' c'] 29)))
  have Y := Lib.hid Y0
  have B2 := Lib.hid (abox_two w (.cells #[.int .i64 x, .int .u64 y, .int .u64 s, .slice A n c] 29) (.cells #[.int .i64 x', .int .u64 y', .int .u64 s', .slice A' n' c'] 29))
  have HE := Lib.hid (fun W (hb2 : Below w.heap.size w W) => requal_any A l n c A' l' n' c' W ((h.below (hb2.mono hB)).more (Nat.le_trans hB hb2.size)) ((h'.below (hb2.mono hB)).more (Nat.le_trans hB hb2.size)) hn hn' hb hb')
  generalize hd : decide ((x, y) = (x', y') ∧ s = s' ∧ l = l') = r
  have HD := Lib.hid hd
  clear hd X0 Y0 hz h h' hn hn'
  go_enter Try.func35, Try.ntmps35
  obtain ⟨k0, k1, k2, k3⟩ := X.out
  obtain ⟨j0, j1, j2, j3⟩ := Y.out
  by_cases h1 : x = x'
  · have h1b : (x == x') = true := by simp [h1]
    have H1 := Lib.hid h1
    clear h1
    by_cases h3 : y = y'
    · have h3b : (y == y') = true := by simp [h3]
      have H3 := Lib.hid h3
      clear h3
      by_cases h2 : s = s'
      · have h2b : (s == s') = true := by simp [h2]
        have H2 := Lib.hid h2
        clear h2
        go_wp2_with fail
        refine (HE.out _ B2.out).mono ?_
        rintro en W3 ⟨rfl, hb3⟩
        have : r = decide (l = l') := by rw [← HD.out, Bool.eq_iff_iff, decide_eq_true_iff, decide_eq_true_iff]; exact ⟨fun h => h.2.2, fun h => ⟨by rw [H1.out, H3.out], H2.out, h⟩⟩
        subst this
        clear HD
        go_wp2
        go_ret
        exact ⟨rfl, Lib.hid (ktr B2.out hb3.out)⟩
      · have h2b : (s == s') = false := by rw [beq_eq_false_iff_ne]; exact h2
        have : r = false := by rw [← HD.out]; exact decide_eq_false (fun h => h2 h.2.1)
        subst this
        clear HD h2
        go_wp2
        go_ret
        exact ⟨rfl, B2⟩
    · have h3b : (y == y') = false := by rw [beq_eq_false_iff_ne]; exact h3
      have : r = false := by rw [← HD.out]; exact decide_eq_false (fun h => h3 (congrArg Prod.snd h.1))
      subst this
      clear HD h3
      go_wp2
      go_ret
      exact ⟨rfl, B2⟩
  · have h1b : (x == x') = false := by rw [beq_eq_false_iff_ne]; exact h1
    have : r = false := by rw [← HD.out]; exact decide_eq_false (fun h => h1 (congrArg Prod.fst h.1))
    subst this
    clear HD h1
    go_wp2
    go_ret
    exact ⟨rfl, B2⟩
end Go.Proofs.Ytlcddfkhklmieaa
