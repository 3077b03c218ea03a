/-
  The walk of WindowDue. No condition.
-/
import Derived.Test.YtmkkhknbokfciaaQawake
import Derived.Test.YtmkkhknbokfciaaQargs
import Derived.Test.YtmkkhknbokfciaaQlong
import Derived.Test.YtmkkhknbokfciaaQsame
import Derived.Test.YtmkkhknbokfciaaQspoil
import Derived.Test.YtmkkhknbokfciaaQown
import Derived.Test.YtmkkhknbokfciaaQround
import Derived.Lib.QuietBelow
import Derived.LoopNIn
namespace Go.Proofs.Ytmkkhknbokfciaa
set_option maxRecDepth 20000
open Go.RowKit Go.Shelf Go.Sort
attribute [local go_sem] Oper.semAt_some wideDepth wideFn

theorem round_quiet_below {P : Program} {Q : Exit → Act → World → Prop} {r id : Nat} {a : Act} {w : World} {l : List Oper} (hm : P.follows .mixedOrders = true) (hB : Region.lexB .any l.toArray = true) (hQ : ¬ LetsOut Q) (hd : l.all noDefer = true)
    (h : wpQuiet P l.toArray (fun w' => ∃ p : Regrown, w' = grow (redrawn w p.d) p.os) (fun a' => ∀ w', (∃ p : Regrown, w' = grow (redrawn w p.d) p.os) → Q .normal a' w') l a) : (Code.region id l.toArray true).wpIn (Fence.wide.inRound r) 0 P Q a w := by
  have hB' := hB
  simp only [Region.lexB, Bool.and_eq_true] at hB'
  refine wpIn_region_any hm (any_round hQ (by simpa using hd) _ _ _ _ ?_)
  refine wpAny_of_quiet (C := fun w' => ∃ p : Regrown, w' = grow (redrawn w p.d) p.os) (Q := fun a' => ∀ w', (∃ p : Regrown, w' = grow (redrawn w p.d) p.os) → Q .normal a' w') (fun _ w' hw' h => h w' hw') _ _ _ _ ⟨⟨w.drawn + 1, #[]⟩, by rw [grow_empty]; rfl⟩ ?_
  have := wpAnyQ_lex (C := fun w' => ∃ p : Regrown, w' = grow (redrawn w p.d) p.os) (md := .any) hB'.1 l.toArray.toList 0 (Array.replicate l.toArray.size false) a (by simp) (by simpa using hB'.2) (by simpa using h)
  simpa using this
theorem ne_of3 {nb p q j : Nat} (h1 : nb < p) (h2 : nb < q) (h : p ≤ j ∨ j = q ∨ j = q + 1) : j ≠ nb := by omega
theorem ne_of1 {nb q j : Nat} (h2 : nb < q) (h : q ≤ j) : j ≠ nb := by omega
theorem ne_of2 {a b c : Nat} (h : a + 3 ≤ b) (h2 : b < c) : ¬ a + 1 = c := by omega
theorem lv_next {lv : Int} {i : Nat} (h : 0 < lv → (i : Int) < lv) (hq : ¬ (i : Int) + 1 = lv) : 0 < lv → ((i + 1 : Nat) : Int) < lv := fun h0 => by have := h h0; omega
theorem rdue_e (b n c : Nat) (A : Option Addr) (ls : List (List UInt8)) (w : World) (hl : ls.length = n) (hi : Rws w w.heap.size A ls) :
    Calls Try.prog 18 #[.agg #[.int .u64 (b : Int), .slice A n c]] w fun e w' => e = .returned (.int .i64 ((dueS b ls : Nat) : Int)) ∧ Below w.heap.size w w' :=
  (rdue_any b n c A ls w hl hi).mono fun _ _ h => ⟨h.1, h.2.out⟩
set_option maxHeartbeats 8000000 in
theorem dues7_int (b : Nat) (A : Option Addr) (n c : Nat) (lv : Int) (ls : List (List UInt8)) (w : World) (hl : ls.length = n) (hi : Rws w w.heap.size A ls) (hc : n ≤ c) (hz : ∀ k, k < n → (bodK ls k).length ≤ maxLen) (hb : b < 18446744073709551616) :
    Calls Try.prog 4 #[.agg #[.int .u64 (b : Int), .slice A n c], .int .i64 lv] w fun e w' => e = .returned (.bool true) ∧ Hid (Below w.heap.size w w') := by
  obtain ⟨W1, hW1⟩ : ∃ W1, w.alloc (.cells #[.int .u64 (b : Int), .slice A n c] 25) = W1 := ⟨_, rfl⟩
  obtain ⟨W2, hW2⟩ : ∃ W2, W1.alloc (.cells #[.int .i64 lv] 3) = W2 := ⟨_, rfl⟩
  obtain ⟨W3, hW3⟩ : ∃ W3, W2.alloc (.cells #[.bool false] 4) = W3 := ⟨_, rfl⟩
  have s1 : W1.heap.size = w.heap.size + 1 := by rw [← hW1]; simp
  have s2 : W2.heap.size = w.heap.size + 1 + 1 := by rw [← hW2, World.size_alloc, s1]
  have s3 : W3.heap.size = w.heap.size + 3 := by rw [← hW3, World.size_alloc, s2]
  have b1 : Below w.heap.size w W1 := by rw [← hW1]; exact qbox _ _
  have b2 : Below W1.heap.size W1 W2 := by rw [← hW2]; exact qbox _ _
  have b3 : Below W2.heap.size W2 W3 := by rw [← hW3]; exact qbox _ _
  have P3 := Lib.hid (show SRow w.heap.size b A n c W3 from ((show SRow w.heap.size b A n c W1 by rw [← hW1]; exact qnew _ _ _).below b2).below b3)
  have L3 := Lib.hid (show W3.heap[w.heap.size + 1]? = some (.cells #[.int .i64 lv] 3 (0, 0)) by
    have h : W2.heap[w.heap.size + 1]? = some (.cells #[.int .i64 lv] 3 (0, 0)) := by rw [← hW2, ← s1]; exact qnew _ _ _
    exact (b3.block _ (lt_of_heap h)).trans h)
  have R3 := Lib.hid (show W3.heap[w.heap.size + 1 + 1]? = some (.cells #[.bool false] 4 (0, 0)) by rw [← hW3, ← s2]; exact qnew _ _ _)
  have B3 := Lib.hid (show Below w.heap.size w W3 from qtr (qtr b1 b2) b3)
  have hWW : ((w.alloc (.cells #[.int .u64 (b : Int), .slice A n c] 25)).alloc (.cells #[.int .i64 lv] 3)).alloc (.cells #[.bool false] 4) = W3 := by rw [hW1, hW2, hW3]
  have I3 := Lib.hid ((hi.below B3.out).more B3.out.size)
  have S3 := Lib.hid s3
  have HL := Lib.hid hl
  have HZ := Lib.hid hz
  have HC := Lib.hid hc
  have HB := Lib.hid hb
  clear hi hl hz hc hb hW1 hW2 hW3 s1 s2 s3 b1 b2 b3
  refine calls_of_marks Try.func4 rfl ?_
  simp only [Try.ntmps4, List.size_toArray, List.length_cons, List.length_nil, Nat.reduceAdd, Nat.reduceSub, Array.replicate_succ, Array.replicate_zero, List.push_toArray, List.append_toArray, List.nil_append, List.cons_append]
  obtain ⟨k1, k2⟩ := P3.out.box
  go_wp2_with fail
  clear k1 k2 hWW
  generalize hrr : w.heap.size + 1 + 1 = rb at *
  have HRB := Lib.hid hrr
  clear hrr
  refine (long7_any b A n c ls W3 HL.out I3.out (fun k hk => by have := HZ.out k hk; unfold maxLen at this; omega)).mono ?_
  rintro e W4 ⟨rfl, b4⟩
  have P4 := Lib.hid (P3.out.below b4.out)
  have L4 := Lib.hid ((b4.out.block _ (lt_of_heap L3.out)).trans L3.out)
  have R4 := Lib.hid ((b4.out.block _ (lt_of_heap R3.out)).trans R3.out)
  have B4 := Lib.hid (qtr B3.out b4.out)
  have I4 := Lib.hid ((I3.out.below b4.out).more b4.out.size)
  have S4 := Lib.hid (show w.heap.size + 3 ≤ W4.heap.size by have := S3.out; have := b4.out.size; omega)
  clear P3 L3 R3 B3 I3 S3 b4
  by_cases hlg : longS ls
  · rw [decide_eq_true hlg]
    clear hlg
    go_wp2_with fail
    refine (awake7_any _).mono ?_
    rintro e W5 ⟨rfl, b5⟩
    have B5 := Lib.hid (qtr B4.out b5.out)
    have R5 := Lib.hid ((b5.out.block _ (lt_of_heap R4.out)).trans R4.out)
    have kr : W5.cell? ⟨rb, 0, none⟩ = some (.bool false) := by simpa using cell_plain R5.out 0
    have fr := frozen_plain R5.out 0
    have O6 : Only (fun k => k = rb) W5 (W5.setCell ⟨rb, 0, none⟩ (.bool true)) := (Only.refl (fun k => k = rb) W5).setCell (p := ⟨rb, 0, none⟩) (.inl rfl) _
    have B6 := Lib.hid (O6.below B5.out (fun k e => by have := HRB.out; omega) B5.out.size)
    have R6 := Lib.hid (show (W5.setCell ⟨rb, 0, none⟩ (.bool true)).heap[rb]? = some (.cells #[.bool true] 4 (0, 0)) by have := R5.out; simp [World.setCell, Array.getElem?_modify, this])
    clear O6 b5
    go_wp2
    exact ⟨_, qres_one rfl _ _ rb (.bool true) rfl (run_loadBool R6.out), rfl, B6⟩
  · rw [decide_eq_false hlg]
    have hsm := small hlg
    rw [HL.out] at hsm
    have HS := Lib.hid hsm
    clear hlg hsm
    obtain ⟨k1, k2⟩ := P4.out.box
    go_wp2_with fail
    clear k1 k2
    refine (own_any b A n c ls W4 HL.out I4.out HS.out.1 HS.out.2).mono ?_
    rintro e W5 ⟨A5, c5, rfl, o5, b5⟩
    have P5 := Lib.hid (P4.out.below b5.out)
    have L5 := Lib.hid ((b5.out.block _ (lt_of_heap L4.out)).trans L4.out)
    have R5 := Lib.hid ((b5.out.block _ (lt_of_heap R4.out)).trans R4.out)
    have B5 := Lib.hid (qtr B4.out b5.out)
    have I5 := Lib.hid ((I4.out.below b5.out).more b5.out.size)
    have S5 := Lib.hid (show w.heap.size + 3 ≤ W5.heap.size by have := S4.out; have := b5.out.size; omega)
    have K6 := Lib.hid (show SRow W5.heap.size b A5 n c5 (W5.alloc (.cells #[.int .u64 (b : Int), .slice A5 n c5] 25)) from qnew W5 _ _)
    have b6 := qbox W5 (.cells #[.int .u64 (b : Int), .slice A5 n c5] 25)
    have hz6 : (W5.alloc (.cells #[.int .u64 (b : Int), .slice A5 n c5] 25)).heap.size = W5.heap.size + 1 := by simp
    have P6 := Lib.hid (P5.out.below b6)
    have L6 := Lib.hid ((b6.block _ (lt_of_heap L5.out)).trans L5.out)
    have R6 := Lib.hid ((b6.block _ (lt_of_heap R5.out)).trans R5.out)
    have B6 := Lib.hid (qtr B5.out b6)
    have I6 := Lib.hid ((I5.out.below b6).more b6.size)
    have J6 := Lib.hid (o5.out.rws.below b6)
    have C6 := Lib.hid o5.out.cap_le
    have S6 := Lib.hid (show w.heap.size + 3 ≤ W5.heap.size ∧ (W5.alloc (.cells #[.int .u64 (b : Int), .slice A5 n c5] 25)).heap.size = W5.heap.size + 1 from ⟨S5.out, hz6⟩)
    clear P4 L4 R4 B4 I4 S4 b5 P5 L5 R5 B5 I5 S5 o5 b6 hz6
    obtain ⟨k1, k2⟩ := P6.out.box
    go_wp2_with fail
    clear k1 k2
    generalize W5.alloc (.cells #[.int .u64 (b : Int), .slice A5 n c5] 25) = W6 at *
    generalize W5.heap.size = wb at *
    refine (wdue_any b n c A ls W6 HL.out I6.out HC.out).mono ?_
    rintro e W7 ⟨p1, b1', rfl, _, _, _, b7⟩
    have P7 := Lib.hid (P6.out.below b7.out)
    have K7 := Lib.hid (K6.out.below b7.out)
    have L7 := Lib.hid ((b7.out.block _ (lt_of_heap L6.out)).trans L6.out)
    have R7 := Lib.hid ((b7.out.block _ (lt_of_heap R6.out)).trans R6.out)
    have B7 := Lib.hid (qtr B6.out b7.out)
    have I7 := Lib.hid ((I6.out.below b7.out).more b7.out.size)
    have J7 := Lib.hid (J6.out.below (b7.out.mono (show wb ≤ W6.heap.size by have := S6.out.2; omega)))
    have HF := run_eql_func_nil (P := Try.prog) W7 37 (f := .func 37) (bs := #[]) (cs := #[.pointer (some ⟨p1, 0, none⟩)]) Try.underlying37
    have N8 := Lib.hid (show (W7.alloc (.cells #[.int .i64 0] 3)).heap[W7.heap.size]? = some (.cells #[.int .i64 0] 3 (0, 0)) from qnew W7 _ _)
    have b8 := qbox W7 (.cells #[.int .i64 0] 3)
    have S7 := Lib.hid (show w.heap.size + 3 ≤ wb ∧ wb + 1 ≤ W7.heap.size by have := S6.out; have := b7.out.size; omega)
    have hz8 : (W7.alloc (.cells #[.int .i64 0] 3)).heap.size = W7.heap.size + 1 := by simp
    have P8 := Lib.hid (P7.out.below b8)
    have K8 := Lib.hid (K7.out.below b8)
    have K7q := Lib.hid (show wb < W7.heap.size from lt_of_heap K7.out)
    have L8 := Lib.hid ((b8.block _ (lt_of_heap L7.out)).trans L7.out)
    have R8 := Lib.hid ((b8.block _ (lt_of_heap R7.out)).trans R7.out)
    have B8 := Lib.hid (qtr B7.out b8)
    have I8 := Lib.hid ((I7.out.below b8).more b8.size)
    have IA8 := Lib.hid (I7.out.below b8)
    have J8 := Lib.hid (J7.out.below (b8.mono (show wb ≤ W7.heap.size by have := S7.out; omega)))
    have Z8 := Lib.hid hz8
    clear P6 K6 L6 R6 B6 I6 J6 S6 b7 P7 K7 L7 R7 B7 I7 J7 b8 hz8
    obtain ⟨k1, k2⟩ := P8.out.box
    go_wp2_with fail
    clear k1 k2 HF
    generalize W7.alloc (.cells #[.int .i64 0] 3) = W8 at *
    generalize W7.heap.size = nb at *
    refine (wdue_any b n c A ls W8 HL.out I8.out HC.out).mono ?_
    rintro e W9 ⟨p2, b', rfl, hseq, hp, hbb, b9⟩
    have P9 := Lib.hid (P8.out.below b9.out)
    have K9 := Lib.hid (K8.out.below b9.out)
    have L9 := Lib.hid ((b9.out.block _ (lt_of_heap L8.out)).trans L8.out)
    have R9 := Lib.hid ((b9.out.block _ (lt_of_heap R8.out)).trans R8.out)
    have N9 := Lib.hid ((b9.out.block _ (lt_of_heap N8.out)).trans N8.out)
    have B9 := Lib.hid (qtr B8.out b9.out)
    have IA9 := Lib.hid (IA8.out.below (b9.out.mono (show nb ≤ W8.heap.size by have := Z8.out; omega)))
    have J9 := Lib.hid (J8.out.below (b9.out.mono (show wb ≤ W8.heap.size by have := Z8.out; have := S7.out; omega)))
    have HWn := Lib.hid (show wb < nb by have := S7.out; have h := K7q.out; omega)
    have S9 := Lib.hid (show W8.heap.size = nb + 1 ∧ nb + 1 ≤ W9.heap.size by have := Z8.out; have := b9.out.size; omega)
    have HBB := Lib.hid hbb.out
    have hseq2 := hseq.out
    have HDL := Lib.hid (dueL_length b ls)
    have HDs := Lib.hid (dueS_le b ls)
    have HMay := Lib.hid (show 0 < dueS b ls → mayS b ls from fun h => by
      by_cases hm : mayS b ls
      · exact hm
      · rw [dueS_not hm] at h; omega)
    have HBk := Lib.hid (show ∀ i, i < dueS b ls → bodK (dueL b ls) i = bodK ls i from fun i hi => bodK_take hi)
    have HRd := Lib.hid (fun W (hi : Rws W W.heap.size A5 ls) => rdue_e b n c5 A5 ls W HL.out hi)
    unfold DueSeq at hseq2
    rw [HDL.out] at hseq2
    clear P8 K8 L8 R8 N8 B8 I8 IA8 J8 Z8 b9 hbb hseq HDL
    generalize dueS b ls = d at *
    go_wp2_with fail
    apply wp_rangeG2 (lb := #[.pointer (some ⟨p2, 0, none⟩)]) rfl (enters_of Try.func37 (by kernel_rfl) rfl) hseq2 (fun i vs b' W' e => by obtain ⟨_, rfl, _⟩ := e; rfl) (fun i vs b' => dueArg_own _ _ _ _ _ _)
      (fun i W' => (W'.heap[nb]? = some (.cells #[.int .i64 (i : Nat)] 3 (0, 0)) ∧ Only (fun k => k = nb) W9 W') ∧ (0 < lv → (i : Int) < lv))
      (fun cc i W' => (W'.heap[nb]? = some (.cells #[.int .i64 (i : Nat)] 3 (0, 0)) ∧ Only (fun k => k = nb) W9 W') ∧ (cc = .exit 0 ∧ (i : Int) = lv))
      (OwnFrom.and (OwnFrom.and (fun i X Y row hs hg hr => cells_grown hg (fun r e => (hr r e).2) _ _ hs rfl) (own_only (Nat.le_refl _))) (ownFrom_pure _ _))
      (fun cc => OwnFrom.and (OwnFrom.and (fun i X Y row hs hg hr => cells_grown hg (fun r e => (hr r e).2) _ _ hs rfl) (own_only (Nat.le_refl _))) (ownFrom_pure _ _))
      ⟨⟨N9.out, Only.refl _ _⟩, fun h => h⟩
    case hassign =>
      intro l2 x y W' K hK
      gi_wp2
      exact hK
    case hdone =>
      rintro W' ⟨⟨hn, ho⟩, hlv⟩ hK
      have P10 := Lib.hid (show SRow w.heap.size b A n c W' from (ho.block _ (lt_of_heap P9.out) (by have := S7.out; have := HWn.out; omega)).trans P9.out)
      have K10 := Lib.hid (show SRow wb b A5 n c5 W' from (ho.block _ (lt_of_heap K9.out) (by have := HWn.out; omega)).trans K9.out)
      have L10 := Lib.hid ((ho.block _ (lt_of_heap L9.out) (by have := S7.out; have := HWn.out; omega)).trans L9.out)
      have R10 := Lib.hid ((ho.block _ (lt_of_heap R9.out) (by have := S7.out; have := HWn.out; have := HRB.out; omega)).trans R9.out)
      have B10 := Lib.hid (ho.below B9.out (fun k e => by have := S7.out; have := HWn.out; omega) B9.out.size)
      have hsz := ho.size
      have I10 := Lib.hid ((IA9.out.only (by have := S9.out; omega) ho (fun k hk => by omega)).more (show nb ≤ W'.heap.size by have := S9.out; omega))
      have J10 := Lib.hid ((J9.out.only (by have := S9.out; have := HWn.out; omega) ho (fun k hk => by have := HWn.out; omega)).more (show wb ≤ W'.heap.size by have := S9.out; have := HWn.out; omega))
      have HN10 := Lib.hid hn
      have HK10 := Lib.hid hK
      have HD0 := Lib.hid (show w.heap.size + 3 ≤ W9.heap.size ∧ rb < W9.heap.size ∧ w.heap.size ≤ rb ∧ w.heap.size ≤ W9.heap.size by have := S7.out; have := S9.out; have := HWn.out; have := HRB.out; omega)
      clear hn ho hK hseq2 P9 K9 R9 L9 B9 IA9 J9 N9 hsz
      obtain ⟨k1, k2⟩ := K10.out.box
      have kl := (show W'.cell? ⟨w.heap.size + 1, 0, none⟩ = some (.int .i64 lv) by simpa using cell_plain L10.out 0)
      have HLv := Lib.hid hlv
      clear hlv
      simp only [Exit.inBlock, Exit.then]
      go_wp2_with fail
      clear k1 k2 kl
      refine (HRd.out W' J10.out).mono ?_
      rintro e V ⟨rfl, hbv⟩
      have P11 := Lib.hid (P10.out.below hbv)
      have K11 := Lib.hid (K10.out.below hbv)
      have L11 := Lib.hid ((hbv.block _ (lt_of_heap L10.out)).trans L10.out)
      have R11 := Lib.hid ((hbv.block _ (lt_of_heap R10.out)).trans R10.out)
      have N11 := Lib.hid ((hbv.block _ (lt_of_heap HN10.out)).trans HN10.out)
      have HK11 := Lib.hid ((hbv.block _ (lt_of_heap HK10.out)).trans HK10.out)
      have B11 := Lib.hid (qtr B10.out hbv)
      have I11 := Lib.hid ((I10.out.below hbv).more hbv.size)
      have J11 := Lib.hid ((J10.out.below hbv).more hbv.size)
      clear P10 K10 L10 R10 HN10 HK10 B10 I10 J10 hbv HRd
      obtain ⟨k1, k2⟩ := K11.out.box
      obtain ⟨j1, j2⟩ := P11.out.box
      have kl := (show V.cell? ⟨w.heap.size + 1, 0, none⟩ = some (.int .i64 lv) by simpa using cell_plain L11.out 0)
      have kn := (show V.cell? ⟨nb, 0, none⟩ = some (.int .i64 (d : Nat)) by simpa using cell_plain N11.out 0)
      by_cases h0 : 0 < lv
      · have g0 : ¬ lv ≤ 0 := by omega
        have g1 : min (d : Int) lv = (d : Int) := by have := HLv.out h0; omega
        clear h0
        go_wp2_with fail
        clear k1 k2 j1 j2 kl kn
        refine (same7_any b b A A5 n c n c5 ls ls V (by have := HS.out.1; omega) HL.out HL.out I11.out J11.out).mono ?_
        rintro e V2 ⟨rfl, hb2⟩
        rw [decide_eq_true (show b = b ∧ ls = ls from ⟨rfl, rfl⟩)]
        have R12 := Lib.hid ((hb2.out.block _ (lt_of_heap R11.out)).trans R11.out)
        have HK12 := Lib.hid ((hb2.out.block _ (lt_of_heap HK11.out)).trans HK11.out)
        have B12 := Lib.hid (qtr B11.out hb2.out)
        clear hb2
        go_wp2_with fail
        refine (awake7_any _).mono ?_
        rintro e V3 ⟨rfl, hb3⟩
        have R13 := Lib.hid ((hb3.out.block _ (lt_of_heap R12.out)).trans R12.out)
        have HK13 := Lib.hid ((hb3.out.block _ (lt_of_heap HK12.out)).trans HK12.out)
        have B13 := Lib.hid (qtr B12.out hb3.out)
        clear hb3 R12 HK12 B12
        have kr : V3.cell? ⟨rb, 0, none⟩ = some (.bool false) := by simpa using cell_plain R13.out 0
        have fr := frozen_plain R13.out 0
        have O15 : Only (fun k => k = rb) V3 (V3.setCell ⟨rb, 0, none⟩ (.bool true)) := (Only.refl (fun k => k = rb) V3).setCell (p := ⟨rb, 0, none⟩) (.inl rfl) _
        have hK2 := (O15.block _ (lt_of_heap HK13.out) (by have := HD0.out; omega)).trans HK13.out
        have hk := cells_putObj (o := .deferred none) hK2
        have HR := Lib.hid (hk rb (.cells #[.bool true] 4 (0, 0)) (by have := R13.out; simp [World.setCell, Array.getElem?_modify, this]) rfl)
        have B16 := Lib.hid ((O15.below B13.out (fun j e => by have := HD0.out; omega) B13.out.size).trans (belowK_b (w := w) (Nat.le_refl _) _ W9.heap.size _ (.deferred none) HD0.out.2.2.2 hK2 rfl rfl))
        have HK2 := Lib.hid hK2
        clear hK2 hk O15 R13 B13
        go_wp2
        refine leave_mark HK2.out (qres_one rfl _ _ rb (.bool true) rfl (run_loadBool HR.out)) ?_
        exact ⟨rfl, B16⟩
      · have g0 : ¬ (0 : Int) < lv := h0
        clear h0
        go_wp2_with fail
        clear k1 k2 j1 j2 kl kn
        refine (same7_any b b A A5 n c n c5 ls ls V (by have := HS.out.1; omega) HL.out HL.out I11.out J11.out).mono ?_
        rintro e V2 ⟨rfl, hb2⟩
        rw [decide_eq_true (show b = b ∧ ls = ls from ⟨rfl, rfl⟩)]
        have R12 := Lib.hid ((hb2.out.block _ (lt_of_heap R11.out)).trans R11.out)
        have HK12 := Lib.hid ((hb2.out.block _ (lt_of_heap HK11.out)).trans HK11.out)
        have B12 := Lib.hid (qtr B11.out hb2.out)
        clear hb2
        go_wp2_with fail
        refine (awake7_any _).mono ?_
        rintro e V3 ⟨rfl, hb3⟩
        have R13 := Lib.hid ((hb3.out.block _ (lt_of_heap R12.out)).trans R12.out)
        have HK13 := Lib.hid ((hb3.out.block _ (lt_of_heap HK12.out)).trans HK12.out)
        have B13 := Lib.hid (qtr B12.out hb3.out)
        clear hb3 R12 HK12 B12
        have kr : V3.cell? ⟨rb, 0, none⟩ = some (.bool false) := by simpa using cell_plain R13.out 0
        have fr := frozen_plain R13.out 0
        have O15 : Only (fun k => k = rb) V3 (V3.setCell ⟨rb, 0, none⟩ (.bool true)) := (Only.refl (fun k => k = rb) V3).setCell (p := ⟨rb, 0, none⟩) (.inl rfl) _
        have hK2 := (O15.block _ (lt_of_heap HK13.out) (by have := HD0.out; omega)).trans HK13.out
        have hk := cells_putObj (o := .deferred none) hK2
        have HR := Lib.hid (hk rb (.cells #[.bool true] 4 (0, 0)) (by have := R13.out; simp [World.setCell, Array.getElem?_modify, this]) rfl)
        have B16 := Lib.hid ((O15.below B13.out (fun j e => by have := HD0.out; omega) B13.out.size).trans (belowK_b (w := w) (Nat.le_refl _) _ W9.heap.size _ (.deferred none) HD0.out.2.2.2 hK2 rfl rfl))
        have HK2 := Lib.hid hK2
        clear hK2 hk O15 R13 B13
        go_wp2
        refine leave_mark HK2.out (qres_one rfl _ _ rb (.bool true) rfl (run_loadBool HR.out)) ?_
        exact ⟨rfl, B16⟩
    case hstop =>
      rintro cc i W' hi ⟨⟨hn, ho⟩, rfl, hlv⟩ hK
      have hle : lv ≤ (d : Int) := by omega
      have hpos : 0 < lv := by omega
      rw [hlv] at hn
      have P10 := Lib.hid (show SRow w.heap.size b A n c W' from (ho.block _ (lt_of_heap P9.out) (by have := S7.out; have := HWn.out; omega)).trans P9.out)
      have K10 := Lib.hid (show SRow wb b A5 n c5 W' from (ho.block _ (lt_of_heap K9.out) (by have := HWn.out; omega)).trans K9.out)
      have L10 := Lib.hid ((ho.block _ (lt_of_heap L9.out) (by have := S7.out; have := HWn.out; omega)).trans L9.out)
      have R10 := Lib.hid ((ho.block _ (lt_of_heap R9.out) (by have := S7.out; have := HWn.out; have := HRB.out; omega)).trans R9.out)
      have B10 := Lib.hid (ho.below B9.out (fun k e => by have := S7.out; have := HWn.out; omega) B9.out.size)
      have hsz := ho.size
      have I10 := Lib.hid ((IA9.out.only (by have := S9.out; omega) ho (fun k hk => by omega)).more (show nb ≤ W'.heap.size by have := S9.out; omega))
      have J10 := Lib.hid ((J9.out.only (by have := S9.out; have := HWn.out; omega) ho (fun k hk => by have := HWn.out; omega)).more (show wb ≤ W'.heap.size by have := S9.out; have := HWn.out; omega))
      have HN10 := Lib.hid hn
      have HK10 := Lib.hid hK
      have HD0 := Lib.hid (show w.heap.size + 3 ≤ W9.heap.size ∧ rb < W9.heap.size ∧ w.heap.size ≤ rb ∧ w.heap.size ≤ W9.heap.size by have := S7.out; have := S9.out; have := HWn.out; have := HRB.out; omega)
      clear hn ho hK hseq2 P9 K9 R9 L9 B9 IA9 J9 N9 hsz
      obtain ⟨k1, k2⟩ := K10.out.box
      have kl := (show W'.cell? ⟨w.heap.size + 1, 0, none⟩ = some (.int .i64 lv) by simpa using cell_plain L10.out 0)
      clear hlv
      go_wp2_with fail
      clear k1 k2 kl
      refine (HRd.out W' J10.out).mono ?_
      rintro e V ⟨rfl, hbv⟩
      have P11 := Lib.hid (P10.out.below hbv)
      have K11 := Lib.hid (K10.out.below hbv)
      have L11 := Lib.hid ((hbv.block _ (lt_of_heap L10.out)).trans L10.out)
      have R11 := Lib.hid ((hbv.block _ (lt_of_heap R10.out)).trans R10.out)
      have N11 := Lib.hid ((hbv.block _ (lt_of_heap HN10.out)).trans HN10.out)
      have HK11 := Lib.hid ((hbv.block _ (lt_of_heap HK10.out)).trans HK10.out)
      have B11 := Lib.hid (qtr B10.out hbv)
      have I11 := Lib.hid ((I10.out.below hbv).more hbv.size)
      have J11 := Lib.hid ((J10.out.below hbv).more hbv.size)
      clear P10 K10 L10 R10 HN10 HK10 B10 I10 J10 hbv HRd
      obtain ⟨k1, k2⟩ := K11.out.box
      obtain ⟨j1, j2⟩ := P11.out.box
      have kl := (show V.cell? ⟨w.heap.size + 1, 0, none⟩ = some (.int .i64 lv) by simpa using cell_plain L11.out 0)
      have kn := (show V.cell? ⟨nb, 0, none⟩ = some (.int .i64 lv) by simpa using cell_plain N11.out 0)
      have g0 : ¬ lv ≤ 0 := by omega
      clear hpos
      by_cases h0 : ¬ lv < (d : Int)
      · have hlvd : lv = (d : Int) := by omega
        have q5 : (lv == (d : Int)) = true := by rw [beq_iff_eq]; exact hlvd
        have g1 : min (d : Int) lv = (d : Int) := by omega
        clear hlvd hle h0
        go_wp2_with fail
        clear k1 k2 j1 j2 kl kn
        refine (same7_any b b A A5 n c n c5 ls ls V (by have := HS.out.1; omega) HL.out HL.out I11.out J11.out).mono ?_
        rintro e V2 ⟨rfl, hb2⟩
        rw [decide_eq_true (show b = b ∧ ls = ls from ⟨rfl, rfl⟩)]
        have R12 := Lib.hid ((hb2.out.block _ (lt_of_heap R11.out)).trans R11.out)
        have HK12 := Lib.hid ((hb2.out.block _ (lt_of_heap HK11.out)).trans HK11.out)
        have B12 := Lib.hid (qtr B11.out hb2.out)
        clear hb2
        go_wp2_with fail
        refine (awake7_any _).mono ?_
        rintro e V3 ⟨rfl, hb3⟩
        have R13 := Lib.hid ((hb3.out.block _ (lt_of_heap R12.out)).trans R12.out)
        have HK13 := Lib.hid ((hb3.out.block _ (lt_of_heap HK12.out)).trans HK12.out)
        have B13 := Lib.hid (qtr B12.out hb3.out)
        clear hb3 R12 HK12 B12
        have kr : V3.cell? ⟨rb, 0, none⟩ = some (.bool false) := by simpa using cell_plain R13.out 0
        have fr := frozen_plain R13.out 0
        have O15 : Only (fun k => k = rb) V3 (V3.setCell ⟨rb, 0, none⟩ (.bool true)) := (Only.refl (fun k => k = rb) V3).setCell (p := ⟨rb, 0, none⟩) (.inl rfl) _
        have hK2 := (O15.block _ (lt_of_heap HK13.out) (by have := HD0.out; omega)).trans HK13.out
        have hk := cells_putObj (o := .deferred none) hK2
        have HR := Lib.hid (hk rb (.cells #[.bool true] 4 (0, 0)) (by have := R13.out; simp [World.setCell, Array.getElem?_modify, this]) rfl)
        have B16 := Lib.hid ((O15.below B13.out (fun j e => by have := HD0.out; omega) B13.out.size).trans (belowK_b (w := w) (Nat.le_refl _) _ W9.heap.size _ (.deferred none) HD0.out.2.2.2 hK2 rfl rfl))
        have HK2 := Lib.hid hK2
        clear hK2 hk O15 R13 B13
        go_wp2
        refine leave_mark HK2.out (qres_one rfl _ _ rb (.bool true) rfl (run_loadBool HR.out)) ?_
        exact ⟨rfl, B16⟩
      · have g1 : min (d : Int) lv = lv := by omega
        clear h0 hle
        go_wp2_with fail
        clear k1 k2 j1 j2 kl kn
        refine (same7_any b b A A5 n c n c5 ls ls V (by have := HS.out.1; omega) HL.out HL.out I11.out J11.out).mono ?_
        rintro e V2 ⟨rfl, hb2⟩
        rw [decide_eq_true (show b = b ∧ ls = ls from ⟨rfl, rfl⟩)]
        have R12 := Lib.hid ((hb2.out.block _ (lt_of_heap R11.out)).trans R11.out)
        have HK12 := Lib.hid ((hb2.out.block _ (lt_of_heap HK11.out)).trans HK11.out)
        have B12 := Lib.hid (qtr B11.out hb2.out)
        clear hb2
        go_wp2_with fail
        refine (awake7_any _).mono ?_
        rintro e V3 ⟨rfl, hb3⟩
        have R13 := Lib.hid ((hb3.out.block _ (lt_of_heap R12.out)).trans R12.out)
        have HK13 := Lib.hid ((hb3.out.block _ (lt_of_heap HK12.out)).trans HK12.out)
        have B13 := Lib.hid (qtr B12.out hb3.out)
        clear hb3 R12 HK12 B12
        have kr : V3.cell? ⟨rb, 0, none⟩ = some (.bool false) := by simpa using cell_plain R13.out 0
        have fr := frozen_plain R13.out 0
        have O15 : Only (fun k => k = rb) V3 (V3.setCell ⟨rb, 0, none⟩ (.bool true)) := (Only.refl (fun k => k = rb) V3).setCell (p := ⟨rb, 0, none⟩) (.inl rfl) _
        have hK2 := (O15.block _ (lt_of_heap HK13.out) (by have := HD0.out; omega)).trans HK13.out
        have hk := cells_putObj (o := .deferred none) hK2
        have HR := Lib.hid (hk rb (.cells #[.bool true] 4 (0, 0)) (by have := R13.out; simp [World.setCell, Array.getElem?_modify, this]) rfl)
        have B16 := Lib.hid ((O15.below B13.out (fun j e => by have := HD0.out; omega) B13.out.size).trans (belowK_b (w := w) (Nat.le_refl _) _ W9.heap.size _ (.deferred none) HD0.out.2.2.2 hK2 rfl rfl))
        have HK2 := Lib.hid hK2
        clear hK2 hk O15 R13 B13
        go_wp2
        refine leave_mark HK2.out (qres_one rfl _ _ rb (.bool true) rfl (run_loadBool HR.out)) ?_
        exact ⟨rfl, B16⟩
    case hbody =>
      rintro l2 i x y b9 W' hi hW' hb9 ⟨⟨hn, ho⟩, hlv⟩ ⟨c9, he, h8⟩
      have hmay := HMay.out (by omega)
      obtain rfl : b' = b := HBB.out hmay
      rw [HBk.out i hi] at he h8
      have hlen := (mayS_small hmay).2 i (by have := HDs.out.2; omega)
      have hbm := hmay.2.1
      have hln := HL.out
      have hd2 := HDs.out
      obtain ⟨xv, hxv⟩ : ∃ xv : Int, ((b' + 1 + i : Nat) : Int) = xv := ⟨_, rfl⟩
      rw [hxv] at he
      obtain ⟨rfl, rfl⟩ : x = .int .u64 xv ∧ y = .slice (some ⟨b9, 0, none⟩) (bodK ls i).length c9 := by
        simp only [Array.mk.injEq, List.cons.injEq, and_true] at he
        exact ⟨he.1, he.2⟩
      have hwn : wb < nb := by have := S7.out; have := S9.out; have := lt_of_heap K9.out; have h1 := HWn.out; omega
      have K' : SRow wb b' A5 n c5 W' := (ho.block wb (lt_of_heap K9.out) (by omega)).trans K9.out
      have J' : Rws W' wb A5 ls := J9.out.only (by have := lt_of_heap K9.out; omega) ho (fun k hk => by omega)
      obtain ⟨bb, off, rfl, hbl, hcs⟩ := J' (by omega)
      obtain ⟨A6, c6, hcell, hn6, hby⟩ := hcs i (by omega)
      have hwW : wb ≤ W'.heap.size := by have := lt_of_heap K'; omega
      have kn : W'.cell? ⟨nb, 0, none⟩ = some (.int .i64 (i : Nat)) := by simpa using cell_plain hn 0
      have q1 := fun d os => cell_regrown (d := d) (os := os) kn
      have q2 := fun d os => cell_regrown (d := d) (os := os) K'.box.1
      have q3 := fun d os => cell_regrown (d := d) (os := os) K'.box.2
      have q4 := fun d os => cell_regrown (d := d) (os := os) hcell
      have cs1 := fun d os => conv_str (w := grow (redrawn W' d) os) c9 (h8.bytes.below (below_regrown W' d os)) rfl
      have cs2 := fun d os => conv_str (w := grow (redrawn W' d) os) c6 ((hby.more hwW).below (below_regrown W' d os)) rfl
      have HCall := Lib.hid (fun d os => HRd.out (grow (redrawn W' d) os) ((J'.below ((below_regrown W' d os).mono hwW)).more (Nat.le_trans hwW (below_regrown W' d os).size)))
      have g1 : ¬ (d : Int) ≤ (i : Int) := by omega
      have g2 : (i : Int) < (n : Int) := by omega
      have e3 : IntKind.u64.wrap (i : Int) = (i : Int) := wrapU (by omega) (by omega)
      have e4 : IntKind.u64.wrap ((b' : Int) + (i : Int)) = (b' : Int) + (i : Int) := wrapU (by omega) (by omega)
      have e5 : IntKind.u64.wrap ((b' : Int) + (i : Int) + 1) = xv := by rw [wrapU (by omega) (by omega)]; omega
      have mixed : Try.prog.follows .mixedOrders = true := by kernel_rfl
      have ct : ((⟨(bodK ls i).toArray⟩ : ByteArray).toList == (⟨(bodK ls i).toArray⟩ : ByteArray).toList) = true := by simp
      have HO := Lib.hid ho
      have HN := Lib.hid hn
      have H8 := Lib.hid h8
      have HLv := Lib.hid hlv
      have HLn := Lib.hid hlen
      generalize (⟨(bodK ls i).toArray⟩ : ByteArray) = tx at *
      generalize hm : (bodK ls i).length = m at *
      clear he hxv hn ho h8 hlv K' J' hbl hcs hcell hn6 hby hseq2 hlen hbm hln hd2
      gi_wp2
      refine round_quiet_below mixed (by kernel_rfl) (fun ⟨_, _, h⟩ => h) (by kernel_rfl) ?_
      repeat (quiet_step ((go_at_call 18; refine Calls.regrown_of (HCall.out _ _))))
      refine wpQuiet_nil ?_
      intro _ hw'
      obtain ⟨⟨nq, osq⟩, hw''⟩ := hw'
      subst hw''
      have hbq := below_regrown W' nq osq
      clear q1 q2 q3 q4 cs1 cs2 HCall kn
      generalize grow (redrawn W' nq) osq = Wq at *
      have HU := Lib.hid (show U8 Wq b9 m from by
        have h9 := own8_at H8.out (fun k e => by
          have e' : b9 = k := Option.some.inj e
          exact hbq.block k (by rw [← e']; exact (H8.out.lt rfl).2))
        obtain ⟨_, cur, hh, hs, hn', ht⟩ := h9.block (g := b9) rfl
        refine ⟨cur, hh, fun j hj => ?_⟩
        have hj2 : (cur.toList.take m)[j]? = (bv (bodK ls i))[j]? := by rw [ht]
        rw [List.getElem?_take, if_pos hj, bv_get (by omega)] at hj2
        exact ⟨_, by simpa using hj2⟩)
      have HNq := Lib.hid ((hbq.block nb (lt_of_heap HN.out)).trans HN.out)
      have HOq := Lib.hid (show Only (fun k => k = nb) W9 Wq from HO.out.trans (Only.ofBelow (S := fun k => k = nb) hbq) fun _ _ h => h)
      have HLq := Lib.hid ((HOq.out.block _ (lt_of_heap L9.out) (by have := S7.out; omega)).trans L9.out)
      have HWs := Lib.hid (show W'.heap.size ≤ Wq.heap.size from hbq.size)
      have Hnb := Lib.hid (show nb < W9.heap.size from lt_of_heap N9.out)
      have HBq := Lib.hid (show Kept (fun _ => True) b9 W' Wq from ⟨hbq.size, fun j _ _ hlt => hbq.block j hlt⟩)
      have hil : i ≤ 8 := by have := HDs.out; omega
      have Hil := Lib.hid hil
      have Hm := Lib.hid HLn.out
      clear hbq HN HO H8 HLn hil
      gi_wp2
      gi_loopw [9] (fun z wr => ∃ j, j ≤ m ∧ z = .int .i64 (j : Nat) ∧ Hid (U8 wr b9 m) ∧ Hid (Only (fun k => k = b9) Wq wr)) (fun z _ => m - (intOf z).toNat)
      case atStart => exact ⟨0, Nat.zero_le _, rfl, HU, Lib.hid (Only.refl _ _)⟩
      case round =>
        obtain ⟨j, hj, rfl, HU2, HO2⟩ := hrel
        have hm4 := Hm.out
        by_cases hj2 : j < m
        · have g6 : (j : Int) < (m : Int) := by omega
          obtain ⟨cur, hh, hcur⟩ := HU2.out
          obtain ⟨xx, hx⟩ := hcur j hj2
          have hc2 : wr.cell? ⟨b9, j, none⟩ = some (.int .u8 xx) := by rw [cell_plain hh]; exact hx
          have hf2 := frozen_plain hh j
          have HU3 := Lib.hid (fun y => HU2.out.set (g' := b9) (j := j) (y := y))
          have HO3 := Lib.hid (fun y => HO2.out.setCell (p := ⟨b9, j, none⟩) (.inl rfl) (.int .u8 y))
          clear hh hcur hx
          gi_wp2
          go_roundw
          case rel => exact ⟨j + 1, by omega, by go_num, Lib.hid (HU3.out _), Lib.hid (HO3.out _)⟩
          case measure => simp [intOf]; omega
        · obtain rfl : j = m := by omega
          have g6 : ¬ (j : Int) < (j : Int) := by omega
          have hbn : nb ≠ b9 := by have := Hnb.out; omega
          have HNr := (HO2.out.block nb (lt_of_heap HNq.out) hbn).trans HNq.out
          have HLr := (HO2.out.block (w.heap.size + 1) (lt_of_heap HLq.out) (by have := S7.out; have := S9.out; omega)).trans HLq.out
          have kn : wr.cell? ⟨nb, 0, none⟩ = some (.int .i64 (i : Nat)) := by simpa using cell_plain HNr 0
          have fn := frozen_plain HNr 0
          have kl : wr.cell? ⟨w.heap.size + 1, 0, none⟩ = some (.int .i64 lv) := by simpa using cell_plain HLr 0
          have e8 : wrap64 ((i : Int) + 1) = (i : Int) + 1 := IntWalk.wrap64_in _ (by have := Hil.out; omega)
          have hne : ¬ w.heap.size + 1 = nb := by have := S7.out; have := HWn.out; omega
          have kl2 : (wr.setCell ⟨nb, 0, none⟩ (.int .i64 ((i : Int) + 1))).cell? ⟨w.heap.size + 1, 0, none⟩ = some (.int .i64 lv) := by
            rw [World.cell?_setCell_other wr ⟨nb, 0, none⟩ ⟨w.heap.size + 1, 0, none⟩ _ (fun e => by injection e with e1 _ _; first | exact hne e1 | exact hne e1.symm)]
            exact kl
          have HN4 := Lib.hid (show (wr.setCell ⟨nb, 0, none⟩ (.int .i64 ((i : Int) + 1))).heap[nb]? = some (.cells #[.int .i64 ((i + 1 : Nat) : Int)] 3 (0, 0)) by simp [World.setCell, Array.getElem?_modify, HNr])
          have O4 : Only (fun k => k = nb) wr (wr.setCell ⟨nb, 0, none⟩ (.int .i64 ((i : Int) + 1))) := (Only.refl (fun k => k = nb) wr).setCell (p := ⟨nb, 0, none⟩) (.inl rfl) _
          have HO4 := Lib.hid (show Only (fun k => k = nb) W9 (wr.setCell ⟨nb, 0, none⟩ (.int .i64 ((i : Int) + 1))) from (HOq.out.trans HO2.out fun k hk e => by omega).trans O4 fun _ _ h => h)
          have HK4 := Lib.hid (show ∀ R : Nat → Prop, (∀ j, R j → j ≠ nb) → Kept R b9 W' (wr.setCell ⟨nb, 0, none⟩ (.int .i64 ((i : Int) + 1))) from fun R hR =>
            ⟨Nat.le_trans HWs.out (Nat.le_trans HO2.out.size O4.size), fun k hk hkb hlt => (O4.block k (Nat.lt_of_lt_of_le hlt (Nat.le_trans HWs.out HO2.out.size)) (hR k hk)).trans ((HO2.out.block k (Nat.lt_of_lt_of_le hlt HWs.out) hkb).trans (HBq.out.same k trivial hkb hlt))⟩)
          have Hsz := Lib.hid (show nb < W8.heap.size ∧ nb < W9.heap.size by have := S9.out; omega)
          have HKR := Lib.hid (show ∀ j, (W8.heap.size ≤ j ∨ j = W9.heap.size ∨ j = W9.heap.size + 1) → j ≠ nb from fun j h => ne_of3 Hsz.out.1 Hsz.out.2 h)
          have HKD := Lib.hid (show ∀ j, W9.heap.size ≤ j → j ≠ nb from fun j h => ne_of1 Hsz.out.2 h)
          clear HNr HLr O4 hbn
          by_cases hq : (i : Int) + 1 = lv
          · have q9 : ((i : Int) + 1 == lv) = true := by rw [beq_iff_eq]; exact hq
            have HQ := Lib.hid hq
            clear hq
            gi_wp2
            exact ⟨HK4.out _ HKD.out, ⟨HN4.out, HO4.out⟩, rfl, HQ.out⟩
          · have q9 : ((i : Int) + 1 == lv) = false := by rw [beq_eq_false_iff_ne]; exact hq
            have HQ := Lib.hid (show 0 < lv → ((i + 1 : Nat) : Int) < lv from lv_next HLv.out hq)
            clear hq
            gi_wp2
            exact ⟨HK4.out _ HKR.out, ⟨HN4.out, HO4.out⟩, HQ.out⟩
theorem dues7_walk (b : Nat) (A : Option Addr) (ls : List (List UInt8)) (c : Nat) (lv : Int) (W : World) (hb : b < 18446744073709551616) (hc : ls.length ≤ c) (hi : Rws W W.heap.size A ls) (hz : ∀ k, k < ls.length → (bodK ls k).length ≤ maxLen) :
    Calls Try.prog 4 #[.agg #[.int .u64 (b : Int), .slice A ls.length c], .int .i64 lv] W fun e w' => e = .returned (.bool true) ∧ Hid (Below W.heap.size W w') :=
  dues7_int b A ls.length c lv ls W rfl hi hc hz hb
end Go.Proofs.Ytmkkhknbokfciaa
