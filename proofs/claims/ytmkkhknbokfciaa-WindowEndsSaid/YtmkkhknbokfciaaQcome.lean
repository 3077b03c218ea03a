/-
  A copy comes: what the law's come does. No condition.
-/
import Derived.Test.YtmkkhknbokfciaaQside
namespace Go.Proofs.Ytmkkhknbokfciaa
set_option maxRecDepth 20000
open Go.RowKit

/-- How a part that only goes on may end. -/
def onQ (N : Act → World → Prop) : Exit → Act → World → Prop
  | .normal, a, w => N a w
  | _, _, _ => False
/-- A cut around a part that only goes on. -/
theorem cut_on {c : Code} {Q : Exit → Act → World → Prop} {a : Act} {w : World} (N : Act → Act → World → Prop)
    (h : c.wp Try.prog (onQ (N a)) a w) (k : ∀ a' W', N a a' W' → Q .normal a' W') : c.wp Try.prog Q a w :=
  Code.wp_mono (fun e a' W' hq => by
    cases e with
    | normal => exact k a' W' hq
    | _ => exact hq.elim) h
/-- Blocks of copies are as they were. -/
def CopKept (w w' : World) : Prop := ∀ (k : Nat) (cur : Array Value), w.heap[k]? = some (.cells cur tCop (0, 0)) → w'.heap[k]? = some (.cells cur tCop (0, 0))
theorem come_old {W1 V1 : World} (t : Int) (hz : Below W1.heap.size W1 (W1.alloc (.cells #[.int .u64 0] 45))) (h5 : Below (W1.alloc (.cells #[.int .u64 0] 45)).heap.size (W1.alloc (.cells #[.int .u64 0] 45)) V1) (hr : RRow W1.heap.size 0 V1) :
    RRow W1.heap.size t (V1.setCell ⟨W1.heap.size, 0, none⟩ (.int .u64 t)) ∧ Below W1.heap.size W1 (V1.setCell ⟨W1.heap.size, 0, none⟩ (.int .u64 t)) := by
  have hb := qtr hz h5
  have hO := (Only.refl (fun k => k = W1.heap.size) V1).setCell (p := ⟨W1.heap.size, 0, none⟩) (.inl rfl) (.int .u64 t)
  exact ⟨hr.set t, hO.below hb (fun k e => by omega) hb.size⟩
theorem CopKept.trans {a b c : World} (h : CopKept a b) (k : CopKept b c) : CopKept a c := fun j cur hj => k j cur (h j cur hj)
theorem copKept_only {S : Nat → Prop} {w w' : World} (h : Only S w w') (hS : ∀ (k : Nat) (cur : Array Value), w.heap[k]? = some (.cells cur tCop (0, 0)) → ¬ S k) : CopKept w w' := fun k cur hk => (h.block k (lt_of_heap hk) (hS k cur hk)).trans hk
theorem copKept_below {w w' : World} (h : Below w.heap.size w w') : CopKept w w' := fun k _ hk => (h.block k (lt_of_heap hk)).trans hk
theorem SideM.notCop {G B : Nat} {s : Sd} {A P T Y : Option Addr} {n c np cp nt ct ny cy : Nat} {W : World} (h : SideM G B s A n c P np cp T nt ct Y ny cy W) (k : Nat) (cur : Array Value) (hk : W.heap[k]? = some (.cells cur tCop (0, 0))) : ¬ (k = G ∨ blockOf P = some k ∨ blockOf T = some k) := by
  have key : ∀ (cur' : Array Value) (E : TypeId), W.heap[k]? = some (.cells cur' E (0, 0)) → E = tCop := fun cur' E he => by
    rw [hk] at he
    simp only [Option.some.injEq, Obj.cells.injEq] at he
    exact he.2.1.symm
  rintro (rfl | e | e)
  · exact absurd (key _ _ h.row) (by decide)
  · obtain ⟨cur', he⟩ := h.pushed.ty k e
    exact absurd (key _ _ he) (by decide)
  · obtain ⟨cur', he⟩ := h.taken.ty k e
    exact absurd (key _ _ he) (by decide)
set_option maxHeartbeats 8000000 in
theorem come7_any (G B : Nat) (s : Sd) (q : Nat) (x : List UInt8) (w : World) (hs : Side G B s w) (hB : B ≤ w.heap.size) (hq : q < 18446744073709551616) (hg : s.g < 18446744073709551616) (ht : s.ts.length ≤ 100000) :
    Calls Try.prog 27 #[.pointer (some ⟨G, 0, none⟩), .agg #[.int .u64 (q : Int), strV x]] w fun e w' => e = .returned (.tuple #[]) ∧ Hid (Side G B (comeS s (q, x)) w') ∧ Hid (Below B w w') ∧ Hid (CopKept w w') := by
  obtain ⟨A, c, P, cp, T, ct, Y, cy, hm⟩ := hs
  have HE : Hid (comeS s (q, x) = if nextS s.g q then { s with g := q, ts := s.ts ++ [x] } else s) := Lib.hid rfl
  have bq := qbox w (.cells #[.int .u64 (q : Int), strV x] 62)
  have HM1 := Lib.hid (hm.on bq)
  have HC1 := qnew w #[.int .u64 (q : Int), strV x] 62
  have c0 : (w.alloc (.cells #[.int .u64 (q : Int), strV x] 62)).cell? ⟨w.heap.size, 0, none⟩ = some (.int .u64 (q : Int)) := (cell_plain HC1 0).trans rfl
  have HC1 := Lib.hid HC1
  have HB1 := Lib.hid bq
  have HT := Lib.hid (fun W => wtake_any s.g q W hg hq)
  unfold WTakeE at HT
  have Hlt := Lib.hid ht
  have HG0 := Lib.hid (lt_of_heap hm.row)
  clear hm bq hg hq ht
  obtain ⟨tx, htx⟩ : ∃ tx, tx = (⟨x.toArray⟩ : ByteArray) := ⟨_, rfl⟩
  have hxv : strV x = .string tx := by rw [htx]; rfl
  rw [hxv] at HM1 HC1 HB1 c0 ⊢
  have HX := Lib.hid hxv
  clear htx hxv
  generalize hn : s.ls.length = n at *
  generalize hnp : s.ps.length = np at *
  generalize hnt : s.ts.length = nt at *
  generalize s.ys.length = ny at *
  go_enter Try.func27, Try.ntmps27
  obtain ⟨k0, k1, k2, k3, k4, k5⟩ := HM1.out.cell
  go_wp2_with fail
  generalize w.alloc (.cells #[.int .u64 (q : Int), .string tx] 62) = W1 at *
  have k2' := Lib.hid (show ∀ V, Below W1.heap.size W1 V → V.cell? ⟨G, 2, none⟩ = some (.int .u64 (s.g : Int)) from fun V hb => qold k2 hb)
  have c0' := Lib.hid (show ∀ V, Below W1.heap.size W1 V → V.cell? ⟨w.heap.size, 0, none⟩ = some (.int .u64 (q : Int)) from fun V hb => qold c0 hb)
  generalize ht : ((takeS s.g q : Nat) : Int) = t at *
  generalize hok : decide (nextS s.g q) = ok at *
  have bz := qbox W1 (.cells #[.int .u64 0] 45)
  have c0z := c0'.out _ bz
  have k2z := k2'.out _ bz
  have hz := qnew W1 #[.int .u64 0] 45
  have HBz := Lib.hid bz
  have HRz := Lib.hid (show RRow W1.heap.size 0 (W1.alloc (.cells #[.int .u64 0] 45)) from hz)
  clear k0 k1 k3 k4 k5 bz hz
  refine cut_on (fun a0 a' W' => ∃ pb, a' = ((((((((((((a0.put (some 7) (.pointer (some ⟨G, 0, none⟩))).put (some 8) (.pointer (some ⟨G, 0, none⟩))).put (some 9) (.pointer (some ⟨G, 2, none⟩))).put (some 10) (.agg #[.int .u64 (s.g : Int)])).put (some 11) (.pointer (some ⟨w.heap.size, 0, none⟩))).put (some 12) (.int .u64 (q : Int))).put (some 13) (.tuple #[.agg #[.int .u64 t], .bool ok])).put (some 6) (.tuple #[.agg #[.int .u64 t], .bool ok])).put (some 14) (.agg #[.int .u64 t])).put (some 15) (.bool ok)).put (some 4) (.pointer (some ⟨pb, 0, none⟩))).put (some 5) (.bool ok)) ∧ RRow pb t W' ∧ Below W1.heap.size W1 W') ?_ ?_
  · go_region_law (first
      | (refine step_free rfl ?_; unfold Oper.wp; simp only [execOp]; go_simp; go_at_call 21; refine (HT.out W1.drew).mono ?_; rintro e V1 ⟨rfl, b4⟩; have h4 := Lib.hid (undrew (w := W1) b4.out); have HF := Lib.hid (show RRow V1.heap.size t (V1.alloc (.cells #[.int .u64 t] 45)) ∧ Below W1.heap.size W1 (V1.alloc (.cells #[.int .u64 t] 45)) from ⟨qnew V1 _ _, qtr h4.out (qbox V1 _)⟩))
      | (refine step_free rfl ?_; unfold Oper.wp; simp only [execOp]; go_simp; go_at_call 21; refine (HT.out (W1.alloc (.cells #[.int .u64 0] 45)).drew).mono ?_; rintro e V1 ⟨rfl, b4⟩; have h5 := Lib.hid (undrew (w := W1.alloc (.cells #[.int .u64 0] 45)) b4.out); have hr5 := HRz.out.below h5.out; have z0 := hr5.cell; have f0 := frozen_plain hr5 0; have HF := Lib.hid (come_old t HBz.out h5.out hr5)))
    all_goals (refine ⟨_, ?_, HF.out⟩; simp [Act.put])
  · rintro a' W' ⟨pb, rfl, hp, hb⟩
    simp only [Act.put, List.setIfInBounds_toArray, List.set_cons_succ, List.set_cons_zero]
    have HM2 := Lib.hid (HM1.out.on hb)
    have B2 := Lib.hid (qtr HB1.out hb)
    have HG := Lib.hid (show G < w.heap.size ∧ w.heap.size < W'.heap.size by have h1 := HG0.out; have h2 := lt_of_heap HC1.out; have h3 := hb.size; omega)
    have M3 := Lib.hid (HM2.out.setGot (takeS s.g q))
    have c1' := Lib.hid (qold (show W1.cell? ⟨w.heap.size, 1, none⟩ = some (.string tx) by simpa using cell_plain HC1.out 1) hb)
    rw [ht] at M3
    have O3 := Lib.hid ((Only.refl (fun k => k = G) W').setCell (p := ⟨G, 2, none⟩) (.inl rfl) (.int .u64 t))
    have z0 := hp.cell
    clear hp hb k2' c0' c0z k2z c0 k2 HRz HBz
    obtain ⟨k0, k1, k2, k3, k4, k5⟩ := HM2.out.cell
    have f2 := HM2.out.frozen 2
    cases ok with
    | false =>
      have hn' : ¬ nextS s.g q := of_decide_eq_false hok
      have hE2 := HE.out.trans (if_neg hn')
      have htk : takeS s.g q = s.g := if_neg hn'
      go_wp2
      refine bodyPost_end (results_none rfl _ _ _) rfl ⟨rfl, Lib.hid ?_, Lib.hid ?_, Lib.hid ?_⟩
      · rw [hE2]
        have hs := M3.out.side
        rw [htk] at hs
        exact hs
      · exact O3.out.below (B2.out.mono hB) (fun k e => by rw [e]; exact HM1.out.hG) (Nat.le_trans hB B2.out.size)
      · exact (copKept_below B2.out).trans (copKept_only O3.out fun k cur hk e => HM2.out.notCop k cur hk (.inl e))
    | true =>
      have hn' : nextS s.g q := of_decide_eq_true hok
      have hE2 := Lib.hid (HE.out.trans (if_pos hn'))
      have htk : takeS s.g q = q := if_pos hn'
      rw [htk] at M3 ht
      subst ht
      go_wp2_with fail
      clear k0 k1 k2 k3 k4 k5 f2 z0
      have M4 := M3
      have c14 := Lib.hid ((O3.out.cell (p := ⟨w.heap.size, 1, none⟩) HG.out.2 (fun e => by have := HG.out.1; have e' : w.heap.size = G := e; omega)).trans c1'.out)
      have B4 := Lib.hid (O3.out.below (B2.out.mono hB) (fun k e => by rw [e]; exact HM1.out.hG) (Nat.le_trans hB B2.out.size))
      have HSz := Lib.hid O3.out.size
      generalize W'.setCell ⟨G, 2, none⟩ (.int .u64 (q : Int)) = W4 at *
      obtain ⟨k0, k1, k2, k3, k4, k5⟩ := M4.out.cell
      have f4 := M4.out.frozen 4
      have c1 := c14.out
      clear hok hn' htk M3
      have HB4 := Lib.hid (Nat.le_trans hB B4.out.size)
      have M5 := Lib.hid (M4.out.on (qbox W4 (.cells #[.string tx] 9)))
      have hnb := fun (j : Nat) (u : Value) (hu : [Value.string tx][j]? = some u) => (show (W4.alloc (.cells #[.string tx] 9)).cell? ((⟨W4.heap.size, 0, none⟩ : Addr).add j) = some u by
        have hj : j = 0 := by have := (List.getElem?_eq_some_iff.1 hu).1; simpa using this
        subst hj
        exact ((cell_of_row _ _ 0 _ _ (0, 0) (qnew W4 #[.string tx] 9)).trans rfl).trans hu)
      have HNB := Lib.hid hnb
      clear hnb
      have HOC := Lib.hid (show ∀ u ∈ [Value.string tx], u.oneCell' = true from fun u hu => by
        obtain rfl : u = .string tx := by simpa using hu
        rfl)
      have k4a := M5.out.cell.2.2.2.2.1
      go_region_law (refine step_appendG 52 9 _ 1 16 Try.underlying52 Try.infoStr7 rfl (by omega) (by omega) rfl (.tmp 25) (.tmp 28) rfl B T nt ct (s.ts.map strV) rfl (Nat.le_trans HB4.out (qbox W4 _).size) M5.out.taken ⟨W4.heap.size, 0, none⟩ 1 1 [.string tx] rfl rfl HNB.out HOC.out (by have := Hlt.out; omega) ?_; intro T' ct' V6 e61 e62 e63; have X6 := (M5.out.grown M5.out.taken.ty (by decide) (by decide) (by decide) e62.out.undrew).1; have z6 := (show V6.cell? ⟨G, 4, none⟩ = some (.slice T nt ct) by simpa using cell_plain X6 4); have f6 := frozen_plain X6 4; have M7 := Lib.hid (M5.out.setTaken (l := x) (show GR tStr 1 V6 B T' (nt + 1) ct' (s.ts.map strV ++ [strV x]) by rw [HX.out]; exact e61.out) e62.out.undrew e63.out))
      all_goals
        refine bodyPost_end (results_none rfl _ _ _) rfl ⟨rfl, Lib.hid ?_, Lib.hid ?_, Lib.hid ?_⟩
        · rw [hE2.out]
          exact M7.out.1.side
        · exact M7.out.2.below (B4.out.trans ((qbox W4 _).mono HB4.out)) (fun k e => M5.out.bases k (e.elim .inl fun h => .inr (.inr (.inl h)))) (Nat.le_trans HB4.out (qbox W4 _).size)
        · exact ((copKept_below B2.out).trans (copKept_only O3.out fun k cur hk e => HM2.out.notCop k cur hk (.inl e))).trans ((copKept_below (qbox W4 _)).trans (copKept_only M7.out.2 fun k cur hk e => M5.out.notCop k cur hk (e.elim .inl fun h => .inr (.inr h))))
end Go.Proofs.Ytmkkhknbokfciaa
