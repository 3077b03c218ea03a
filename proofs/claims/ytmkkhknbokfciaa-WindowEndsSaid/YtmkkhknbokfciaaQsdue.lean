/-
  A side's due: the copies of what is due, in a row of their own. No condition.
-/
import Derived.Test.YtmkkhknbokfciaaQside
import Derived.Test.YtmkkhknbokfciaaQwdue
import Derived.Test.YtmkkhknbokfciaaQrange2
import Derived.Test.YtmkkhknbokfciaaQround
import Derived.Test.YtmkkhknbokfciaaQawake
namespace Go.Proofs.Ytmkkhknbokfciaa
set_option maxRecDepth 20000
open Go.RowKit Go.Shelf
attribute [local go_sem] Oper.semAt_some wideDepth wideFn

/-- 'append(row, xs...)' in a round. -/
theorem wpListIn_appendG {P : Program} {r : Nat} {ops : Array Oper} {rest : List Oper} {o : Oper} {a : Act} {w : World} {Q : Exit → Act → World → Prop} (t T : TypeId) (z : Value) (sz by_ : Nat) (ht : P.underlying t = some (.slice T)) (hinf : (P.info? T).map (fun i => (i.zero, i.size, i.bytes)) = some (some z, sz, by_)) (hzs : z.cells.size = sz) (hsz : 0 < sz) (hby : by_ ≤ 100)
    (hgd : o.guard = none) (s x : Operand) (ho : o.op = .call { callee := .builtin .append, args := #[s, x], argTypes := #[t, t] })
    (base : Nat) (A : Option Addr) (n cap : Nat) (vs : List Value) (hs : a.eval s = .slice A n cap) (hbase : base ≤ w.heap.size) (hown : GR T sz w base A n cap vs)
    (a1 : Addr) (m c1 : Nat) (news : List Value) (hx : a.eval x = .slice (some a1) m c1) (hl : news.length = m * sz) (hnews : ∀ j u, news[j]? = some u → w.cell? (a1.add j) = some u) (h1 : ∀ u ∈ news, u.oneCell' = true) (hnm : n + m ≤ 1000000)
    (h : ∀ A' cap' w', Hid (GR T sz w' base A' (n + m) cap' (vs ++ news)) → Hid (Only (fun k => blockOf A = some k) w w') → Hid (NewOr w (blockOf A) (blockOf A')) → wpListIn (Fence.wide.inRound r) 0 P ops Q rest (a.put o.dst (.slice A' (n + m) cap')) w') :
    wpListIn (Fence.wide.inRound r) 0 P ops Q (o :: rest) a w := by
  have hw : Region.wanted o (yielded ops a.tmps) = true := by simp [Region.wanted, hgd]
  have hd : noDefer o = true := by unfold noDefer; rw [ho]
  have hstep := step_appendG (ops := ops) (Q := Q) (E := True) (K := fun a w => wpListIn (Fence.wide.inRound r) 0 P ops Q rest a w) t T z sz by_ ht hinf hzs hsz hby hgd s x ho base A n cap vs hs hbase hown a1 m c1 news hx hl hnews h1 hnm h
  rw [if_pos hw] at hstep
  unfold wpListIn
  rw [if_pos hw]
  exact oper_round hd hstep
set_option maxHeartbeats 8000000 in
theorem due7_any (G B : Nat) (bs : List (List UInt8)) (s : Sd) (w : World) (hs : Side G B s w) (hv : Inv7 bs s) :
    Calls Try.prog 26 #[.pointer (some ⟨G, 0, none⟩)] w fun e w' => ∃ D cd, e = .returned (.slice D (dueS s.b s.ls) cd) ∧ Hid (GR tCop 2 w' w.heap.size D (dueS s.b s.ls) cd (copVs (dueC s.b s.ls (dueS s.b s.ls)))) ∧ Hid (Below w.heap.size w w') := by
  obtain ⟨A, c, P, cp, T, ct, Y, cy, hm⟩ := hs
  have HM := Lib.hid hm
  have HV := Lib.hid hv
  clear hm hv
  generalize hn : s.ls.length = n at *
  generalize s.ps.length = np at *
  generalize s.ts.length = nt at *
  generalize s.ys.length = ny at *
  refine calls_of_marks Try.func26 rfl ?_
  simp only [Try.ntmps26, List.size_toArray, List.length_cons, List.length_nil, Nat.reduceAdd, Nat.reduceSub, Array.replicate_succ, Array.replicate_zero, List.push_toArray, List.append_toArray, List.nil_append, List.cons_append]
  have N1 := Lib.hid (qnew w #[.slice none 0 0] 53)
  have bx := qbox w (.cells #[.slice none 0 0] 53)
  have M1 := Lib.hid (HM.out.on bx)
  have B1 := Lib.hid bx
  have hz1 : (w.alloc (.cells #[.slice none 0 0] 53)).heap.size = w.heap.size + 1 := by simp
  have Z1 := Lib.hid hz1
  clear bx hz1
  obtain ⟨k0, k1, k2, k3, k4, k5⟩ := M1.out.cell
  go_wp2_with fail
  clear k0 k1 k2 k3 k4 k5
  generalize w.alloc (.cells #[.slice none 0 0] 53) = W1 at *
  generalize hlb : w.heap.size = lb at *
  refine (wduex_any s.b n c A s.ls W1 hn M1.out.own.rws M1.out.own.cap_le).mono ?_
  rintro e W2 ⟨p1, b1', rfl, _, _, _, b2⟩
  have N2 := Lib.hid ((b2.out.block _ (lt_of_heap N1.out)).trans N1.out)
  have M2 := Lib.hid (M1.out.on b2.out)
  have B2 := Lib.hid (B1.out.trans (b2.out.mono (show lb ≤ W1.heap.size by have := Z1.out; omega)))
  have Z2 := Lib.hid (show lb + 1 ≤ W2.heap.size by have := Z1.out; have := b2.out.size; omega)
  clear N1 M1 B1 Z1 b2
  have HF := run_eql_func_nil (P := Try.prog) W2 37 (f := .func 37) (bs := #[]) (cs := #[.pointer (some ⟨p1, 0, none⟩)]) Try.underlying37
  obtain ⟨k0, k1, k2, k3, k4, k5⟩ := M2.out.cell
  go_wp2_with fail
  clear k0 k1 k2 k3 k4 k5 HF
  refine (wduex_any s.b n c A s.ls W2 hn M2.out.own.rws M2.out.own.cap_le).mono ?_
  rintro e W3 ⟨p2, b', rfl, hseq, hp, hbb, b3⟩
  have N3 := Lib.hid ((b3.out.block _ (lt_of_heap N2.out)).trans N2.out)
  have M3 := Lib.hid (M2.out.on b3.out)
  have B3 := Lib.hid (B2.out.trans (b3.out.mono (show lb ≤ W2.heap.size by have := Z2.out; omega)))
  have Z3 := Lib.hid (show lb + 1 ≤ W2.heap.size ∧ W2.heap.size ≤ W3.heap.size from ⟨Z2.out, b3.out.size⟩)
  obtain rfl : b' = s.b := hbb.out HV.out.may
  have hseq2 := hseq.out
  unfold DueSeqX at hseq2
  rw [dueL_length] at hseq2
  have HD := Lib.hid (dueS_le s.b s.ls)
  have HBk := Lib.hid (show ∀ i, i < dueS s.b s.ls → bodK (dueL s.b s.ls) i = bodK s.ls i from fun i hi => bodK_take hi)
  have HSm := Lib.hid HV.out.small
  clear b3 hseq hbb N2 M2 B2 Z2
  generalize hd : dueS s.b s.ls = d at *
  have HDd := Lib.hid hd
  clear hd
  go_wp2_with fail
  apply wp_rangeX2 (lb := #[.pointer (some ⟨p2, 0, none⟩)]) rfl (enters_of Try.func37 (by kernel_rfl) rfl) hseq2 (fun i vs b' W' e => by obtain ⟨_, rfl, _⟩ := e; rfl) (fun i vs b' => dueArg_own _ _ _ _ _ _)
    (fun i W' => ∃ D cd, W'.heap[lb]? = some (.cells #[.slice D i cd] 53 (0, 0)) ∧ (GR tCop 2 W' lb D i cd (copVs (dueC s.b s.ls i)) ∧ (∀ k, blockOf D = some k → W3.heap.size + 6 ≤ k)) ∧ Only (fun k => k = lb) W3 W')
    (fun _ _ _ => False)
    (fun i X Y row hs hg hr => by
      obtain ⟨D, cd, h1, ⟨h2, h3⟩, h4⟩ := hs
      exact ⟨D, cd, cells_grown hg (fun r e => (hr r e).2) _ _ h1 rfl, ⟨h2.cellsKept (cells_grown hg (fun r e => (hr r e).2)), h3⟩, own_only (Nat.le_refl _) i X Y row h4 hg hr⟩)
    (fun _ _ _ _ _ h _ _ => h)
    ⟨none, 0, N3.out, ⟨GR.nil_, fun k e => by cases e⟩, Only.refl _ _⟩
  case hassign =>
    intro l2 x y W' K hK
    gi_wp2
    exact hK
  case hdone =>
    rintro W' ⟨D, cd, hr, ⟨hg, _⟩, ho⟩ hK
    have k0 : W'.cell? ⟨lb, 0, none⟩ = some (.slice D d cd) := by simpa using cell_plain hr 0
    have HK := Lib.hid hK
    have HG := Lib.hid (hg.cellsKept (cells_putObj (o := .deferred none) hK))
    have HB := Lib.hid (show Below w.heap.size w (W'.putObj W3.heap.size (.deferred none)) from by
      have h1 := Z3.out
      have h2 := ho.below B3.out (fun j e => by omega) (by omega)
      rw [hlb]
      exact h2.trans (belowK_b (w := w) (Nat.le_of_eq hlb.symm) W' W3.heap.size _ (.deferred none) (by omega) hK rfl rfl))
    clear hr hg ho hK hseq2 N3 M3 B3
    go_wp2
    refine leave_mark HK.out (results_tmp rfl _ _ _) ⟨D, cd, ?_, ?_, HB⟩
    · rw [HDd.out]
      rfl
    · rw [HDd.out, hlb]
      exact HG
  case hstop =>
    intro c i W' _ h _
    exact h.elim
  case hbody =>
    rintro l2 i x y b9 W' hi hW' hb9 ⟨D, cd, hr, ⟨hg, hfr⟩, ho⟩ ⟨c9, he, h8⟩
    rw [HBk.out i hi] at he h8
    obtain ⟨xv, hxv⟩ : ∃ xv : Int, ((s.b + 1 + i : Nat) : Int) = xv := ⟨_, rfl⟩
    rw [hxv] at he
    obtain ⟨rfl, rfl⟩ : x = .int .u64 xv ∧ y = .slice (some ⟨b9, 0, none⟩) (bodK s.ls i).length c9 := by
      simp only [Array.mk.injEq, List.cons.injEq, and_true] at he
      exact ⟨he.1, he.2⟩
    have k0 : W'.cell? ⟨lb, 0, none⟩ = some (.slice D i cd) := by simpa using cell_plain hr 0
    have cs := conv_str (w := W') (n := (bodK s.ls i).length) c9 h8.bytes rfl
    have HX : Hid (strV (bodK s.ls i) = .string ⟨(bodK s.ls i).toArray⟩) := Lib.hid rfl
    generalize (⟨(bodK s.ls i).toArray⟩ : ByteArray) = tx at *
    have bq := qbox W' (.cells #[.int .u64 xv, .string tx] 62)
    have HG2 := Lib.hid (hg.on bq)
    have HFr := Lib.hid hfr
    have HR2 := Lib.hid ((bq.block _ (lt_of_heap hr)).trans hr)
    have HO2 := Lib.hid (ho.trans (Only.ofBelow (S := fun k => k = lb) bq) fun _ _ h => h)
    have HBq := Lib.hid bq
    have HNB := Lib.hid (show ∀ (j : Nat) (u : Value), [Value.int .u64 xv, Value.string tx][j]? = some u → (W'.alloc (.cells #[.int .u64 xv, .string tx] 62)).cell? ((⟨W'.heap.size, 0, none⟩ : Addr).add j) = some u from fun j u hu => by
      rw [add_mk, Nat.zero_add]
      rw [cell_plain (qnew W' #[.int .u64 xv, .string tx] 62) j]
      simpa using hu)
    have HOC := Lib.hid (show ∀ u ∈ [Value.int .u64 xv, Value.string tx], u.oneCell' = true from fun u hu => by
      simp only [List.mem_cons, List.not_mem_nil, or_false] at hu
      rcases hu with rfl | rfl <;> rfl)
    have HW2 := Lib.hid (show W3.heap.size + 6 ≤ W'.heap.size by omega)
    have HSz := Lib.hid (show (W'.alloc (.cells #[.int .u64 xv, .string tx] 62)).heap.size = W'.heap.size + 1 by simp)
    have HDn := Lib.hid (show i ≤ 8 by have := HD.out; omega)
    have HXv := Lib.hid hxv
    clear hg hfr ho bq hxv he hi hW' hb9 hseq2 h8 hr
    gi_wp2_with (gi_at_builtin; refine wpListIn_appendG 53 62 _ 2 24 Try.underlying53 Try.infoCop7 rfl (by omega) (by omega) rfl (.tmp 19) (.tmp 24) rfl lb D i cd (copVs (dueC s.b s.ls i)) rfl (by have := HSz.out; have := HW2.out; have := Z3.out; omega) HG2.out ⟨W'.heap.size, 0, none⟩ 1 1 [.int .u64 xv, .string tx] rfl rfl HNB.out HOC.out (by have := HDn.out; omega) ?_)
    intro D' cd' V6 e61 e62 e63
    have hne : ∀ k, blockOf D = some k → k ≠ lb := fun k e => by have := HFr.out k e; have := Z3.out; omega
    have hr6 := (e62.out.block lb (lt_of_heap HR2.out) (fun e => hne lb e rfl)).trans HR2.out
    have z6 : V6.cell? ⟨lb, 0, none⟩ = some (.slice D i cd) := by simpa using cell_plain hr6 0
    have f6 := frozen_plain hr6 0
    have O5 : Only (fun k => k = lb) V6 (V6.setCell ⟨lb, 0, none⟩ (.slice D' (i + 1) cd')) := (Only.refl (fun k => k = lb) V6).setCell (p := ⟨lb, 0, none⟩) (.inl rfl) _
    have HR5 := Lib.hid (show (V6.setCell ⟨lb, 0, none⟩ (.slice D' (i + 1) cd')).heap[lb]? = some (.cells #[.slice D' (i + 1) cd'] 53 (0, 0)) by simp [World.setCell, Array.getElem?_modify, hr6])
    have HG5 := Lib.hid (show GR tCop 2 (V6.setCell ⟨lb, 0, none⟩ (.slice D' (i + 1) cd')) lb D' (i + 1) cd' (copVs (dueC s.b s.ls (i + 1))) by
      rw [dueC_succ, copVs_append]
      have e9 : copVs [(s.b + 1 + i, bodK s.ls i)] = [.int .u64 xv, .string tx] := by
        show [Value.int .u64 ((s.b + 1 + i : Nat) : Int), strV (bodK s.ls i)] = _
        rw [HXv.out, HX.out]
      rw [e9]
      exact e61.out.off O5 (fun k cur hk e => by
        subst e
        rw [hr6] at hk
        simp only [Option.some.injEq, Obj.cells.injEq] at hk
        exact absurd hk.2.1 (by decide)))
    have HF5 := Lib.hid (show ∀ k, blockOf D' = some k → W3.heap.size + 6 ≤ k from fun k e => by
      rcases e63.out with h | ⟨j, h, hj⟩
      · rw [h] at e; exact HFr.out k e
      · rw [h] at e; cases e; have := HSz.out; have := HW2.out; omega)
    have HO5 := Lib.hid (show Only (fun k => k = lb) W3 (V6.setCell ⟨lb, 0, none⟩ (.slice D' (i + 1) cd')) from (HO2.out.trans e62.out fun k hk e => by have := HFr.out k e; omega).trans O5 fun _ _ h => h)
    have HK5 := Lib.hid (show Kept (fun j => dueR W2.heap.size W3.heap.size (W3.heap.size + 2) j ∨ j = W3.heap.size ∨ j = W3.heap.size + 1) b9 W' (V6.setCell ⟨lb, 0, none⟩ (.slice D' (i + 1) cd')) from
      ⟨Nat.le_trans HBq.out.size (Nat.le_trans e62.out.size O5.size), fun j hj _ hlt => by
        have hz := Z3.out
        have hj1 : j ≠ lb := by unfold dueR at hj; omega
        have hj2 : ¬ blockOf D = some j := fun e => by have := HFr.out j e; unfold dueR at hj; omega
        exact (O5.block j (Nat.lt_of_lt_of_le hlt (Nat.le_trans HBq.out.size e62.out.size)) hj1).trans ((e62.out.block j (Nat.lt_of_lt_of_le hlt HBq.out.size) hj2).trans (HBq.out.block j hlt))⟩)
    clear hr6 O5 e61 e62 e63
    gi_wp2
    exact ⟨HK5.out, D', cd', HR5.out, ⟨HG5.out, HF5.out⟩, HO5.out⟩
end Go.Proofs.Ytmkkhknbokfciaa
