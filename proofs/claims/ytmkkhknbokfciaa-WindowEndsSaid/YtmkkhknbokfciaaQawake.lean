/-
  The law's awake: it answers true. No condition.
-/
import Derived.Test.YtmkkhknbokfciaaQack
import Derived.Test.YtmkkhknbokfciaaQtake
import Derived.Test.YtmkkhknbokfciaaQwdue
import Derived.Test.YtmkkhknbokfciaaQrange2
namespace Go.Proofs.Ytmkkhknbokfciaa
set_option maxRecDepth 20000
open Go.RowKit Go.Shelf
attribute [local go_sem] Oper.semAt_some wideDepth wideFn

theorem constBody (w : World) (x : UInt8) (fr : Nat × Nat) : Bytes (w.alloc (.cells #[.int .u8 ((x.toNat : Nat) : Int)] 5 fr)) (w.heap.size + 1) (some ⟨w.heap.size, 0, none⟩) [x] := fun _ => by
  refine ⟨w.heap.size, 0, rfl, by omega, fun k hk => ?_⟩
  have hk0 : k = 0 := by simpa using hk
  subst hk0
  have hh : (w.alloc (.cells #[.int .u8 ((x.toNat : Nat) : Int)] 5 fr)).heap[w.heap.size]? = some (.cells #[.int .u8 ((x.toNat : Nat) : Int)] 5 fr) := by
    show (w.heap.push _)[w.heap.size]? = _
    simp
  rw [cell_of_row _ _ _ _ _ fr hh]
  rfl
theorem pushed0 {w : World} {l : List UInt8} {ls ms : List (List UInt8)} {b n : Nat} {e : Ending} {w' : World} (h : PushE w b ls l e w') (h0 : pushErr b ls l = 0) (hm : ls ++ [l] = ms) (hn : ms.length = n) : ∃ A' c', e = .returned (.tuple #[.agg #[.int .u64 ((b : Nat) : Int), .slice A' n c'], .int .i64 0]) ∧ Hid (ORws w' w.heap.size A' n c' ms) ∧ Hid (Below w.heap.size w w') := by
  subst hm hn
  obtain ⟨A', c', rfl, ho, hb⟩ := h
  have h1 : pushB b ls l = b := if_pos h0
  have h2 : pushL b ls l = ls ++ [l] := if_pos h0
  rw [h1, h2, h0]
  rw [h2] at ho
  exact ⟨A', c', rfl, ho, hb⟩
theorem acked1 {w : World} {ls ms : List (List UInt8)} {b u b2 n : Nat} {e : Ending} {w' : World} (h : AckE w b ls u e w') (h0 : ackOk b ls u) (hb : ackB b ls u = b2) (hm : ackL b ls u = ms) (hn : ms.length = n) : ∃ A' c', e = .returned (.tuple #[.agg #[.int .u64 ((b2 : Nat) : Int), .slice A' n c'], .bool true]) ∧ Hid (ORws w' w.heap.size A' n c' ms) ∧ Hid (Below w.heap.size w w') := by
  subst hb hm hn
  obtain ⟨A', c', rfl, ho, hb⟩ := h
  exact ⟨A', c', by rw [decide_eq_true h0], ho, hb⟩
theorem run_equalIn_func_nil {P : Program} (w : World) (d : Nat) (t : TypeId) {f : Fn} {bs cs : Array Value} {ps rs : Array TypeId} {v : Bool} (hu : P.underlying t = some (.func ps rs v)) : (Op.equalIn (d + 1) t (.func f bs cs) .nilFunc).run P w = .ok false w := by
  unfold Op.equalIn
  simp only [Sem.run_bind, run_underlying hu, Result.andThen_ok]
  rfl
theorem run_eql_func_nil {P : Program} (w : World) (t : TypeId) {f : Fn} {bs cs : Array Value} {ps rs : Array TypeId} {v : Bool} (hu : P.underlying t = some (.func ps rs v)) : (binOp .eql t (.func f bs cs) .nilFunc).run P w = .ok (.bool false) w := by
  simp only [binOp]
  simp [Op.equal, Op.maxDepth, run_equalIn_func_nil w 9999 t hu]
theorem qres_one {P : Program} {fn : Func} {p : Tmp} {ty : TypeId} (h : fn.results = #[.cell p ty]) (tmps : Array Value) (w : World) (g : Nat) (v : Value)
    (hp : tmps.getD p undef = .pointer (some ⟨g, 0, none⟩)) (hl : (loadVar ty ⟨g, 0, none⟩).run P w = .ok v w) : (results fn tmps).run P w = .ok v w := by
  have h1 : tmps[p]?.getD undef = .pointer (some ⟨g, 0, none⟩) := by simpa using hp
  simp [results, h, h1, asAddr, hl]
theorem own_only {β : Type} {B : Nat} {S : Nat → Prop} {w0 : World} (hB : w0.heap.size ≤ B) : OwnFrom B (fun (_ : β) W => Only S w0 W) := fun _ X Y row hs hg hr =>
  ⟨hg.os.trans hs.os, hg.tape.trans hs.tape, hg.output.trans hs.output, Nat.le_trans hs.size hg.size, fun k hk hn => (hg.block k (Nat.lt_of_lt_of_le hk hs.size) (fun e => by have := (hr k e.symm).1; omega)).trans (hs.block k hk hn)⟩
set_option maxHeartbeats 8000000 in
theorem awake7_any (w : World) : Calls Try.prog 11 #[] w fun e w' => e = .returned (.bool true) ∧ Hid (Below w.heap.size w w') := by
  have R0 := Lib.hid (show (w.alloc (.cells #[.bool false] 4)).heap[w.heap.size]? = some (.cells #[.bool false] 4 (0, 0)) from qnew w _ _)
  have B0 := Lib.hid (qbox w (.cells #[.bool false] 4))
  refine calls_of_marks Try.func11 rfl ?_
  simp only [Try.ntmps11, List.size_toArray, List.length_nil, Nat.reduceSub, Array.replicate_succ, Array.replicate_zero, List.push_toArray, List.append_toArray, List.nil_append, List.cons_append]
  have C1 := Lib.run_convert_bytes_const (P := Try.prog) (w.alloc (.cells #[.bool false] 4)) 26 5 #[.int .u8 97] 1 1 Try.underlying26 Try.underlying5
  have es : (w.alloc (.cells #[.bool false] 4)).heap.size = w.heap.size + 1 := by simp
  have Y1 := Lib.hid (constBody (w.alloc (.cells #[.bool false] 4)) 97 (1, 2))
  have bx := qbox (w.alloc (.cells #[.bool false] 4)) (.cells #[.int .u8 97] 5 (1, 2))
  have R1 := Lib.hid ((bx.block _ (by rw [es]; omega)).trans R0.out)
  have B1 := Lib.hid (qtr B0.out bx)
  rw [es] at C1
  go_wp2_with fail
  refine (push_any 0 none 0 0 [] (some ⟨w.heap.size + 1, 0, none⟩) 1 1 [97] _ rfl Rws.nil_ rfl (by have := Y1.out; rw [es] at this; exact this.more (by simp)) (fun h => by cases h) (by omega)).mono ?_
  rintro e W2 hp
  obtain ⟨A2, c2, rfl, o2, b2⟩ := pushed0 (ms := [[97]]) (n := 1) hp (by decide) rfl rfl
  have R2 := Lib.hid ((b2.out.block _ (lt_of_heap R1.out)).trans R1.out)
  have B2 := Lib.hid (qtr B1.out b2.out)
  have I2 := Lib.hid o2.out.rws
  clear hp o2 b2 R0 B0 R1 B1 Y1 bx es C1
  have S3 := Lib.hid (show SRow W2.heap.size 0 A2 1 c2 (W2.alloc (.cells #[.int .u64 0, .slice A2 1 c2] 25)) from qnew W2 _ _)
  have b3 := qbox W2 (.cells #[.int .u64 0, .slice A2 1 c2] 25)
  have C2 := Lib.run_convert_bytes_const (P := Try.prog) (W2.alloc (.cells #[.int .u64 0, .slice A2 1 c2] 25)) 26 5 #[.int .u8 98] 1 1 Try.underlying26 Try.underlying5
  have es : (W2.alloc (.cells #[.int .u64 0, .slice A2 1 c2] 25)).heap.size = W2.heap.size + 1 := by simp
  have b4 := qbox (W2.alloc (.cells #[.int .u64 0, .slice A2 1 c2] 25)) (.cells #[.int .u8 98] 5 (1, 2))
  have Y4 := Lib.hid (constBody (W2.alloc (.cells #[.int .u64 0, .slice A2 1 c2] 25)) 98 (1, 2))
  have R4 := Lib.hid (((qtr b3 b4).block _ (lt_of_heap R2.out)).trans R2.out)
  have B4 := Lib.hid (qtr B2.out (qtr b3 b4))
  have S4 := Lib.hid (S3.out.below b4)
  have I4 := Lib.hid ((I2.out.below (qtr b3 b4)).more (qtr b3 b4).size)
  have k1 := S3.out.box.1
  have k2 := S3.out.box.2
  rw [es] at C2
  go_wp2_with fail
  refine (push_any 0 A2 1 c2 [[97]] (some ⟨W2.heap.size + 1, 0, none⟩) 1 1 [98] _ rfl I4.out rfl (by have := Y4.out; rw [es] at this; exact this.more (by simp)) (fun h => by cases h) (by omega)).mono ?_
  rintro e W5 hp
  obtain ⟨A5, c5, rfl, o5, b5⟩ := pushed0 (ms := [[97], [98]]) (n := 2) hp (by decide) rfl rfl
  have R5 := Lib.hid ((b5.out.block _ (lt_of_heap R4.out)).trans R4.out)
  have B5 := Lib.hid (qtr B4.out b5.out)
  have S5 := Lib.hid (S4.out.below b5.out)
  have HS := Lib.hid (show w.heap.size < W2.heap.size from lt_of_heap R2.out)
  clear hp b5 R2 B2 I2 R4 B4 S3 S4 I4 k1 k2 b3 b4 es C2 Y4
  obtain ⟨k1, k2⟩ := S5.out.box
  have f1 := frozen_plain S5.out 0
  have f2 := frozen_plain S5.out 1
  have o6 := only_two W5 W2.heap.size (.int .u64 0) (.slice A5 2 c5)
  have S6 := Lib.hid (show SRow W2.heap.size 0 A5 2 c5 _ from S5.out.set2 0 A5 2 c5)
  have I6 := Lib.hid ((o5.out.keepRow S5.out o6).rws)
  have C6 := Lib.hid o5.out.cap_le
  have R6 := Lib.hid ((o6.block _ (lt_of_heap R5.out) (by have := HS.out; omega)).trans R5.out)
  have B6 := Lib.hid (o6.below B5.out (fun j e => by have := HS.out; omega) B5.out.size)
  clear R5 B5 S5 o5 o6
  go_wp2_with fail
  clear k1 k2 f1 f2
  generalize (W5.setCell ⟨W2.heap.size, 0, none⟩ (.int .u64 0)).setCell ⟨W2.heap.size, 1, none⟩ (.slice A5 2 c5) = W6 at *
  refine (ack_any 0 A5 2 c5 1 [[97], [98]] W6 rfl I6.out C6.out (by omega) (fun k hk => by rcases k with _ | _ | k <;> first | (simp [bodK]; done) | omega) (by omega) (by omega)).mono ?_
  rintro e W7 hp
  obtain ⟨A7, c7, rfl, o7, b7⟩ := acked1 (b2 := 1) (ms := [[98]]) (n := 1) hp (by decide) (by decide) (by decide) rfl
  have R7 := Lib.hid ((b7.out.block _ (lt_of_heap R6.out)).trans R6.out)
  have B7 := Lib.hid (qtr B6.out b7.out)
  have S7 := Lib.hid (S6.out.below b7.out)
  clear hp b7 R6 B6 S6 I6
  obtain ⟨k1, k2⟩ := S7.out.box
  have f1 := frozen_plain S7.out 0
  have f2 := frozen_plain S7.out 1
  have o8 := only_two W7 W2.heap.size (.int .u64 1) (.slice A7 1 c7)
  have S8 := Lib.hid (show SRow W2.heap.size 1 A7 1 c7 _ from S7.out.set2 1 A7 1 c7)
  have O8 := Lib.hid (o7.out.keepRow S7.out o8)
  have R8 := Lib.hid ((o8.block _ (lt_of_heap R7.out) (by have := HS.out; omega)).trans R7.out)
  have B8 := Lib.hid (o8.below B7.out (fun j e => by have := HS.out; omega) B7.out.size)
  clear R7 B7 S7 o7 o8
  go_wp2_with fail
  clear k1 k2 f1 f2
  generalize (W7.setCell ⟨W2.heap.size, 0, none⟩ (.int .u64 1)).setCell ⟨W2.heap.size, 1, none⟩ (.slice A7 1 c7) = W8 at *
  refine (wtake_any 0 1 W8 (by omega) (by omega)).mono ?_
  rintro e W9 ⟨rfl, b9⟩
  have e1 : ((takeS 0 1 : Nat) : Int) = 1 := by decide
  have e2 : decide (nextS 0 1) = true := by decide
  rw [e1, e2]
  have R9 := Lib.hid ((b9.out.block _ (lt_of_heap R8.out)).trans R8.out)
  have B9 := Lib.hid (qtr B8.out b9.out)
  have S9 := Lib.hid (S8.out.below b9.out)
  have O9 := Lib.hid (O8.out.on b9.out)
  clear b9 R8 B8 S8 O8 e1 e2
  have T10 := Lib.hid (show RRow W9.heap.size 1 (W9.alloc (.cells #[.int .u64 1] 45)) from qnew W9 _ _)
  have b10 := qbox W9 (.cells #[.int .u64 1] 45)
  have es : (W9.alloc (.cells #[.int .u64 1] 45)).heap.size = W9.heap.size + 1 := by simp
  have b11 := qbox (W9.alloc (.cells #[.int .u64 1] 45)) (.cells #[.int .i64 0] 3)
  have N11 := qnew (W9.alloc (.cells #[.int .u64 1] 45)) #[.int .i64 0] 3
  rw [es] at N11
  have N11 := Lib.hid N11
  have T11 := Lib.hid (T10.out.below b11)
  have b12 := qtr b10 b11
  have R11 := Lib.hid ((b12.block _ (lt_of_heap R9.out)).trans R9.out)
  have B11 := Lib.hid (qtr B9.out b12)
  have S11 := Lib.hid (S9.out.below b12)
  have O11 := Lib.hid (O9.out.on b12)
  have HS9 := Lib.hid (show w.heap.size < W9.heap.size from lt_of_heap R9.out)
  have HZ : Hid (((W9.alloc (.cells #[.int .u64 1] 45)).alloc (.cells #[.int .i64 0] 3)).heap.size = W9.heap.size + 2) := Lib.hid (by simp)
  clear R9 B9 S9 O9 T10 b10 b11 b12 es
  obtain ⟨k1, k2⟩ := S11.out.box
  go_wp2_with fail
  clear k1 k2
  generalize (W9.alloc (.cells #[.int .u64 1] 45)).alloc (.cells #[.int .i64 0] 3) = W11 at *
  generalize W9.heap.size = tb at *
  refine (wdue_any 1 1 c7 A7 [[98]] W11 rfl O11.out.rws O11.out.cap_le).mono ?_
  rintro e W12 ⟨p1, b1', rfl, _, _, _, hb12⟩
  have R12 := Lib.hid ((hb12.out.block _ (lt_of_heap R11.out)).trans R11.out)
  have B12 := Lib.hid (qtr B11.out hb12.out)
  have S12 := Lib.hid (S11.out.below hb12.out)
  have O12 := Lib.hid (O11.out.on hb12.out)
  have T12 := Lib.hid (T11.out.below hb12.out)
  have N12 := Lib.hid ((hb12.out.block _ (lt_of_heap N11.out)).trans N11.out)
  have HZ12 := Lib.hid (show tb + 2 ≤ W12.heap.size by have := HZ.out; have := hb12.out.size; omega)
  clear hb12 R11 B11 S11 O11 T11 N11 HZ
  obtain ⟨k1, k2⟩ := S12.out.box
  have HF := run_eql_func_nil (P := Try.prog) W12 37 (f := .func 37) (bs := #[]) (cs := #[.pointer (some ⟨p1, 0, none⟩)]) Try.underlying37
  go_wp2_with fail
  clear k1 k2
  refine (wdue_any 1 1 c7 A7 [[98]] W12 rfl O12.out.rws O12.out.cap_le).mono ?_
  rintro e W13 ⟨p2, b2', rfl, hseq, hp, hbb, hb13⟩
  have R13 := Lib.hid ((hb13.out.block _ (lt_of_heap R12.out)).trans R12.out)
  have B13 := Lib.hid (qtr B12.out hb13.out)
  have T13 := Lib.hid (T12.out.below hb13.out)
  have N13 := Lib.hid ((hb13.out.block _ (lt_of_heap N12.out)).trans N12.out)
  have HZ13 := Lib.hid (show tb + 2 ≤ W12.heap.size ∧ W12.heap.size ≤ W13.heap.size from ⟨HZ12.out, hb13.out.size⟩)
  obtain rfl : b2' = 1 := hbb.out (by decide)
  have hseq2 := hseq.out
  have e1 : dueL 1 [[98]] = [[98]] := by decide
  rw [e1] at hseq2
  clear hb13 R12 B12 S12 O12 T12 N12 HZ12 hseq hbb e1
  go_wp2_with fail
  apply wp_rangeG2 (lb := #[.pointer (some ⟨p2, 0, none⟩)]) rfl (enters_of Try.func37 (by kernel_rfl) rfl) hseq2 (fun i vs b' W' e => by obtain ⟨_, rfl, _⟩ := e; rfl) (fun i vs b' => dueArg_own _ _ _ _ _ _)
    (fun i W' => W'.heap[tb + 1]? = some (.cells #[.int .i64 (i : Nat)] 3 (0, 0)) ∧ Only (fun k => k = tb + 1) W13 W')
    (fun _ _ _ => False)
    (OwnFrom.and (fun i X Y row hs hg hr => cells_grown hg (fun r e => (hr r e).2) _ _ hs rfl) (own_only (Nat.le_refl _)))
    (fun _ _ _ _ _ h _ _ => h)
    ⟨N13.out, Only.refl _ _⟩
  case hassign =>
    intro l2 x y W' K hK
    gi_wp2
    exact hK
  case hdone =>
    rintro W' ⟨hn, ho⟩ hK
    have R14 := Lib.hid ((ho.block _ (lt_of_heap R13.out) (by have := HS9.out; omega)).trans R13.out)
    have T14 := Lib.hid (show RRow tb 1 W' from (ho.block _ (lt_of_heap T13.out) (by omega)).trans T13.out)
    have B14 := Lib.hid (ho.below B13.out (fun j e => by have := HS9.out; omega) B13.out.size)
    have HD := Lib.hid (show w.heap.size < W13.heap.size by have := HS9.out; have := HZ13.out; omega)
    have kr : W'.cell? ⟨w.heap.size, 0, none⟩ = some (.bool false) := by simpa using cell_plain R14.out 0
    have fr := frozen_plain R14.out 0
    have kt := T14.out.cell
    have kn : W'.cell? ⟨tb + 1, 0, none⟩ = some (.int .i64 1) := by simpa using cell_plain hn 0
    have O15 : Only (fun k => k = w.heap.size) W' (W'.setCell ⟨w.heap.size, 0, none⟩ (.bool true)) := (Only.refl (fun k => k = w.heap.size) W').setCell (p := ⟨w.heap.size, 0, none⟩) (.inl rfl) _
    have hK2 := (O15.block _ (lt_of_heap hK) (by have := HD.out; omega)).trans hK
    have hk := cells_putObj (o := .deferred none) hK2
    have HR := Lib.hid (hk w.heap.size (.cells #[.bool true] 4 (0, 0)) (by have := R14.out; simp [World.setCell, Array.getElem?_modify, this]) rfl)
    have B16 := Lib.hid ((O15.below B14.out (fun j e => by omega) B14.out.size).trans (belowK_b (w := w) (Nat.le_refl _) _ W13.heap.size _ (.deferred none) (by have := HD.out; omega) hK2 rfl rfl))
    have HK2 := Lib.hid hK2
    clear hn ho hK hK2 hk O15 R14 T14 B14 R13 B13 T13 N13 hseq2
    simp only [Exit.inBlock, Exit.then]
    go_wp2
    refine leave_mark HK2.out (qres_one rfl _ _ w.heap.size (.bool true) rfl (run_loadBool HR.out)) ?_
    exact ⟨rfl, B16⟩
  case hstop =>
    intro c i W' _ h _
    exact h.elim
  case hbody =>
    rintro l2 i x y b9 W' hi hW' hb9 ⟨hn, ho⟩ ⟨c9, he, h8⟩
    obtain rfl : i = 0 := by simpa using hi
    obtain ⟨rfl, rfl⟩ : x = .int .u64 2 ∧ y = .slice (some ⟨b9, 0, none⟩) 1 c9 := by
      simp only [Array.mk.injEq, List.cons.injEq, and_true] at he
      exact ⟨he.1, he.2⟩
    have cs := conv_str c9 h8.bytes (n := 1) rfl
    have e0 : (⟨(bodK [[98]] 0).toArray⟩ : ByteArray) = ⟨#[98]⟩ := rfl
    rw [e0] at cs
    have eb : ((⟨#[98]⟩ : ByteArray).toList == (⟨#[98]⟩ : ByteArray).toList) = true := by simp
    have kn : W'.cell? ⟨tb + 1, 0, none⟩ = some (.int .i64 0) := by simpa using cell_plain hn 0
    have fn := frozen_plain hn 0
    have O15 : Only (fun k => k = tb + 1) W' (W'.setCell ⟨tb + 1, 0, none⟩ (.int .i64 1)) := (Only.refl (fun k => k = tb + 1) W').setCell (p := ⟨tb + 1, 0, none⟩) (.inl rfl) _
    have N15 := Lib.hid (show (W'.setCell ⟨tb + 1, 0, none⟩ (.int .i64 1)).heap[tb + 1]? = some (.cells #[.int .i64 1] 3 (0, 0)) by simp [World.setCell, Array.getElem?_modify, hn])
    have O16 := Lib.hid (ho.trans O15 fun _ _ h => h)
    have HO := Lib.hid O15
    clear hn ho O15 h8 he hseq2
    gi_wp2
    refine ⟨⟨HO.out.size, fun j hj _ hlt => HO.out.block j hlt ?_⟩, N15.out, O16.out⟩
    have := HZ13.out
    rcases hj with h | h | h
    · have h' : W12.heap.size ≤ j := h
      omega
    · omega
    · omega
end Go.Proofs.Ytmkkhknbokfciaa
