/-
  Whether what an advert says may be, by the document's answer. For at most 1000 peers, lives whose numbers are unsigned.
-/
import Derived.Test.YtlcddfkhklmieaaKsmall
import Derived.Test.YtlcddfkhklmieaaGc
namespace Go.Proofs.Ytlcddfkhklmieaa
set_option maxRecDepth 20000
open Go.RowKit

/-- An advert's cells. -/
def adC (x y s : Int) (A : Option Addr) (n c : Nat) : Array Value := #[.int .i64 x, .int .u64 y, .int .u64 s, .slice A n c]
def ABox (b : Nat) (x y s : Int) (A : Option Addr) (n c : Nat) (w : World) : Prop :=
  w.cell? ⟨b, 0, none⟩ = some (.int .i64 x) ∧ w.cell? ⟨b, 1, none⟩ = some (.int .u64 y) ∧ w.cell? ⟨b, 2, none⟩ = some (.int .u64 s) ∧ w.cell? ⟨b, 3, none⟩ = some (.slice A n c)
theorem kcell_below {w w' : World} {a : Addr} {v : Value} (h : w.cell? a = some v) (hb : Below w.heap.size w w') : w'.cell? a = some v := (hb.cell (World.block_lt_of_cell? w a h)).trans h
theorem ABox.below {b : Nat} {x y s : Int} {A : Option Addr} {n c : Nat} {w w' : World} (h : ABox b x y s A n c w) (hb : Below w.heap.size w w') : ABox b x y s A n c w' :=
  ⟨kcell_below h.1 hb, kcell_below h.2.1 hb, kcell_below h.2.2.1 hb, kcell_below h.2.2.2 hb⟩
theorem abox_new (w : World) (x y s : Int) (A : Option Addr) (n c : Nat) (t : TypeId) : ABox w.heap.size x y s A n c (w.alloc (.cells #[.int .i64 x, .int .u64 y, .int .u64 s, .slice A n c] t)) := by
  have h := heap_alloc_new w (.cells #[.int .i64 x, .int .u64 y, .int .u64 s, .slice A n c] t)
  exact ⟨cell_plain h 0, cell_plain h 1, cell_plain h 2, cell_plain h 3⟩
/-- An operation whose guard says yes goes as one without a guard. -/
theorem wpList_unguard {P : Program} {ops : Array Oper} {Q : Exit → Act → World → Prop} {a : Act} {w : World} {rest : List Oper} {o : Oper} (hw : Region.wanted o (yielded ops a.tmps) = true)
    (h : wpList P ops Q ({ o with guard := none } :: rest) a w) : wpList P ops Q (o :: rest) a w := by
  unfold wpList at h ⊢
  rw [if_pos hw]
  rw [if_pos (show Region.wanted { o with guard := none } (yielded ops a.tmps) = true from rfl)] at h
  exact h
theorem ownP_one (w : World) (x y : Int) : OwnP (w.alloc (.cells #[.int .i64 x, .int .u64 y] 24)) w.heap.size (some ⟨w.heap.size, 0, none⟩) 1 1 [(x, y)] := by
  have hh := heap_alloc_new w (.cells #[.int .i64 x, .int .u64 y] 24)
  exact ⟨by simp [flatP, encP], .inr ⟨w.heap.size, 1, _, rfl, Nat.le_refl _, hh, by omega, by unfold maxLen; omega, rfl, rfl⟩⟩
set_option maxHeartbeats 4000000 in
theorem radvert_any (x y : Int) (s : Nat) (A : Option Addr) (l : List Life) (n c B : Nat) (w : World) (hy : 0 ≤ y) (h : Lives w B A l) (hB : B ≤ w.heap.size) (hA : A = none → c = 0) (hn : l.length = n) (hb : n ≤ 1000) (hpos : ∀ p ∈ l, 0 ≤ p.2) :
    Calls Try.prog 25 #[.agg #[.int .i64 x, .int .u64 y, .int .u64 (s : Int), .slice A n c]] w fun e w' => e = .returned (.bool (decide (advK (x, y) s l))) ∧ Hid (Below w.heap.size w w') := by
  have X := Lib.hid (abox_new w x y (s : Int) A n c 29)
  have B1 := Lib.hid (kbelow_box w (.cells #[.int .i64 x, .int .u64 y, .int .u64 (s : Int), .slice A n c] 29))
  have HL := Lib.hid h
  have HN := Lib.hid hn
  have HP := Lib.hid hpos
  have HS := Lib.hid (fun W => rserver_any (x, y) hy W)
  have HC := Lib.hid (fun W => rcount_any (s : Int) W)
  have HSet := Lib.hid (fun W (hb : Below w.heap.size w W) => rset_any A l n c W ((h.below (hb.mono hB)).more (Nat.le_trans hB hb.size)) hn (by omega) hpos)
  have HSr := Lib.hid (fun W (hb : Below w.heap.size w W) => rservers_any A l n c B W (h.below (hb.mono hB)) (Nat.le_trans hB hb.size) hn (by omega) hpos)
  generalize hd : decide (advK (x, y) s l) = r
  have HD := Lib.hid hd
  clear hd h hn hpos
  go_enter Try.func25, Try.ntmps25
  obtain ⟨k0, k1, k2, k3⟩ := X.out
  go_wp2_with fail
  generalize w.alloc (.cells #[.int .i64 x, .int .u64 y, .int .u64 (s : Int), .slice A n c] 29) = W1 at *
  refine (HS.out W1).mono ?_
  rintro e W2 ⟨rfl, hb2⟩
  have X2 := Lib.hid (X.out.below hb2.out)
  have B2 := Lib.hid (ktr B1.out hb2.out)
  clear X B1 hb2 k0 k1 k2 k3 HS
  obtain ⟨k0, k1, k2, k3⟩ := X2.out
  have NO : ∀ p : Prop, (advK (x, y) s l → p) → ¬ p → r = false := fun p h1 h2 => by rw [← HD.out]; exact decide_eq_false (fun h => h2 (h1 h))
  have HNO := Lib.hid NO
  clear NO
  by_cases h1 : srvK (x, y)
  · rw [decide_eq_true h1]
    by_cases h2 : s = 0
    · have e2 : ((s : Int) == 0) = true := by simp [h2]
      obtain rfl : r = false := HNO.out _ (fun h => h.2.1) (by simp [h2])
      have H2 := Lib.hid h2
      clear HD HNO h2
      go_wp2
      go_ret
      exact ⟨rfl, B2⟩
    · have e2 : ((s : Int) == 0) = false := by rw [beq_eq_false_iff_ne]; omega
      go_wp2_with fail
      refine (HC.out W2).mono ?_
      rintro e W3 ⟨rfl, rfl⟩
      by_cases h3 : (s : Int) < 34359738368
      · rw [decide_eq_true h3]
        go_wp2_with fail
        refine (HSet.out W2 B2.out).mono ?_
        rintro e W4 ⟨rfl, hb4⟩
        have X4 := Lib.hid (X2.out.below hb4.out)
        have B4 := Lib.hid (ktr B2.out hb4.out)
        clear X2 B2 hb4 k0 k1 k2 k3 HSet
        obtain ⟨k0, k1, k2, k3⟩ := X4.out
        by_cases h4 : setUpTo l n
        · rw [decide_eq_true h4]
          go_wp2_with fail
          refine (HSr.out W4 B4.out).mono ?_
          rintro e W5 ⟨rfl, hb5⟩
          have X5 := Lib.hid (X4.out.below hb5.out)
          have B5 := Lib.hid (ktr B4.out hb5.out)
          clear X4 B4 hb5 k0 k1 k2 k3 HSr
          obtain ⟨k0, k1, k2, k3⟩ := X5.out
          by_cases h5 : srvsK l
          · rw [decide_eq_true h5]
            have HAP : Hid (r = decide (apart ((x, y) :: l))) := Lib.hid (by
              rw [← HD.out, Bool.eq_iff_iff, decide_eq_true_iff, decide_eq_true_iff]
              exact ⟨fun h => h.2.2.2.2.2, fun h => ⟨h1, h2, by unfold cnt; omega, by unfold isSet; rw [HN.out]; exact h4, h5, h⟩⟩)
            clear h1 h2 h3 h4 h5 HNO HD
            have OW := Lib.hid (ownP_one W5 x y)
            have BA := Lib.hid (kbelow_box W5 (.cells #[.int .i64 x, .int .u64 y] 24))
            have HLW := Lib.hid (HL.out.below ((ktr B5.out BA.out).mono hB))
            have BW := Lib.hid (ktr B5.out BA.out)
            have hz5 := B5.out.size
            have X6 := Lib.hid (X5.out.below BA.out)
            clear X5 B5
            obtain ⟨j0, j1, j2, j3⟩ := X6.out
            go_wp2_with (at_builtin; refine wpList_unguard (by kernel_rfl) ?_; refine wpList_appendP rfl _ _ rfl W5.heap.size (some ⟨W5.heap.size, 0, none⟩) 1 1 _ rfl BA.out.size OW.out A n c _ l rfl HN.out hA HLW.out (by omega) ?_)
            intro A9 c9 w9 e1 e2 e3
            have B9 := Lib.hid (e2.out.below BW.out (fun j hj => by have : W5.heap.size = j := Option.some.inj hj; omega) BW.out.size)
            have HL9 := Lib.hid (rlives_any A9 ((x, y) :: l) (1 + n) c9 w9 e1.out.lives (by rw [List.length_cons, HN.out]; omega) (by omega))
            clear e1 e2 e3 OW BA HLW BW X6 k0 k1 k2 k3 j0 j1 j2 j3
            go_wp2_with fail
            refine HL9.out.mono ?_
            rintro e W10 ⟨rfl, hb10⟩
            rw [← HAP.out]
            go_wp2
            go_ret
            exact ⟨rfl, Lib.hid (ktr B9.out hb10.out)⟩
          · rw [decide_eq_false h5]
            obtain rfl : r = false := HNO.out _ (fun h => h.2.2.2.2.1) h5
            clear HD HNO h1 h2 h4 h5
            go_wp2
            go_ret
            exact ⟨rfl, B5⟩
        · rw [decide_eq_false h4]
          obtain rfl : r = false := HNO.out _ (fun h => by have := h.2.2.2.1; unfold isSet at this; rwa [HN.out] at this) h4
          clear HD HNO h1 h2 h4
          go_wp2
          go_ret
          exact ⟨rfl, B4⟩
      · rw [decide_eq_false h3]
        obtain rfl : r = false := HNO.out _ (fun h => h.2.2.1) (by unfold cnt; omega)
        clear HD HNO h1 h2
        go_wp2
        go_ret
        exact ⟨rfl, B2⟩
  · rw [decide_eq_false h1]
    obtain rfl : r = false := HNO.out _ (fun h => h.1) h1
    clear HD HNO h1
    go_wp2
    go_ret
    exact ⟨rfl, B2⟩
end Go.Proofs.Ytlcddfkhklmieaa
