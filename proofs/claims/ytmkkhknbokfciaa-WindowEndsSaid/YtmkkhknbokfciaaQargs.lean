/-
  Arguments opened: a sender, a receiver, rows of bodies, a statement's own acts; '==' at receivers. No condition.
-/
import Derived.Test.YtmkkhknbokfciaaQset
import Derived.Test.YtmkkhknbokfciaaGb
import Derived.Deep.Matrix
import Derived.Deep.SlicePairs
import Derived.Shelf.SlicesE.Kit
namespace Go.Proofs.Ytmkkhknbokfciaa
set_option maxRecDepth 20000
open Go.ChangeShapes Go.WideShapes Go.ChangeAt Go.WideMaps Go.WideElems Go.RowKit

theorem eqR : EqlAt Try.prog 45 (fun x : Int => .agg #[.int .u64 x]) (fun x y => decide (x = y)) := by
  refine ⟨fun x y w => ?_, GuardAt.agg _ (by kernel_rfl)⟩
  have u29 := Try.underlying22
  have a29 := Try.isAgg22
  have z29 := Try.sizeOf22
  have hS : Try.prog.underlying 45 = some (.struct (Try.prog.fieldsOf 45)) := by kernel_rfl
  have hp : Try.prog.stoodInHeld 45 = false := by kernel_rfl
  rw [run_eql_struct, show (10000 : Nat) = 9999 + 1 from rfl, run_equalIn_agg w 9999 45 _ _ hS hp]
  simp only [Program.fieldsOf, Try.underlying45]
  go_simp
  by_cases h0 : x = y <;> simp [h0]
theorem eqr_run (x y : Int) (w : World) : Sem.run Try.prog (binOp .eql 45 (.agg #[.int .u64 x]) (.agg #[.int .u64 y])) w = .ok (.bool (decide (x = y))) w := eqR.1 x y w
theorem guardr_run (op : BinOp) (a b : Operand) (x y : Int) (w : World) : Sem.run Try.prog (eqGuard op 45 a b (.agg #[.int .u64 x]) (.agg #[.int .u64 y])) w = .ok () w := eqR.2 op a b x y w

theorem cells23 : Try.prog.cellsOf 23 = 1 := by kernel_rfl
theorem cells26 : Try.prog.cellsOf 26 = 1 := by kernel_rfl
theorem cells25s : Try.prog.cellsOf 25 = 2 := by kernel_rfl
theorem cells45 : Try.prog.cellsOf 45 = 1 := by kernel_rfl
theorem cellsAct : Try.prog.cellsOf 58 = 2 := by kernel_rfl
def I64q (n : Int) : Prop := -9223372036854775808 ≤ n ∧ n ≤ 9223372036854775807
/-- A slice's address under which these acts lie. -/
def ActsIn (w : World) (A : Option Addr) (aks : List (Int × Int)) : Prop :=
  0 < aks.length → ∃ b off, A = some ⟨b, off, none⟩ ∧ b < w.heap.size ∧ ∀ k, k < aks.length → w.cell? ⟨b, off + k * 2, none⟩ = some (.int .i64 (aks.getD k (0, 0)).1) ∧ w.cell? ⟨b, off + k * 2 + 1, none⟩ = some (.int .i64 (aks.getD k (0, 0)).2)
section
variable {H : Type} {enc : TypeId × Value → H} {W : World} {base : Nat} {v : Value} {d : DataW H} {p : List MemPlace}
theorem arg_intq (hv : Value.okWide Try.prog W .any base 3 v) (h : DataW.Trod enc Try.prog W 0 (fun _ => true) true 3 v d p) : ∃ n : Int, v = .int .i64 n ∧ I64q n := by
  obtain ⟨n, rfl, _, _, hw⟩ := open_int Try.underlying3 hv h
  exact ⟨n, rfl, wf_i64 hw⟩
theorem arg_u64q (hv : Value.okWide Try.prog W .any base 22 v) (h : DataW.Trod enc Try.prog W 0 (fun _ => true) true 22 v d p) : ∃ n : Nat, v = .int .u64 (n : Int) ∧ n < 18446744073709551616 := by
  obtain ⟨n, rfl, _, _, hw⟩ := open_int Try.underlying22 hv h
  obtain ⟨k, rfl, hk⟩ := wf_u64 hw
  exact ⟨k, rfl, hk⟩
/-- The rows of a value that is a slice of slices of bytes. -/
theorem row_rows {fuel : Nat} {x : DataW H × List MemPlace} (hf : DataW.trod enc Try.prog W 0 (fun _ => true) true fuel 23 [v] = some x) :
    ∃ (A : Option Addr) (ls : List (List UInt8)) (cap : Nat), v = .slice A ls.length cap ∧ ls.length ≤ maxLen ∧ ls.length ≤ cap ∧ Rws W W.heap.size A ls ∧ ∀ k, k < ls.length → (bodK ls k).length ≤ maxLen := by
  rcases Deep.open_int_rows Try.underlying23 Try.underlying26 Try.underlying5 cells26 cells8 hf with ⟨hcs, _⟩ | ⟨a, len', cap', A, L, C, Z, hcs, _, hl, hm, hx, hrow⟩
  · obtain rfl : v = .slice none 0 0 := by simpa using hcs
    exact ⟨none, [], 0, rfl, by simp, by simp, Rws.nil_, fun k hk => absurd hk (by simp)⟩
  · obtain rfl : v = .slice (some a) len' cap' := by simpa using hcs
    have hg : ∀ k, k < len' → (bodK ((List.range len').map fun r => ((Z r).take (L r)).map fun n => UInt8.ofNat n.toNat) k) = ((Z k).take (L k)).map fun n => UInt8.ofNat n.toNat := fun k hk => by simp [bodK, List.getD, hk]
    refine ⟨some a, (List.range len').map fun r => ((Z r).take (L r)).map fun n => UInt8.ofNat n.toNat, cap', by congr 1; simp, by simp; omega, by simp; omega, fun hn => ?_, fun k hk => ?_⟩
    · have hn' : 0 < cap' := by simp at hn; omega
      obtain ⟨b, off, rfl⟩ : ∃ b off, a = ⟨b, off, none⟩ := by
        have h0 := (hrow 0 hn').1
        obtain ⟨b, off, spot⟩ := a
        have hspot : spot = none := by simpa [Addr.add] using World.cell?_spot h0
        subst hspot
        exact ⟨b, off, rfl⟩
      refine ⟨b, off, rfl, ?_, fun k hk => ?_⟩
      · have h0 := (hrow 0 hn').1
        rw [add_mk] at h0
        exact World.block_lt_of_cell? _ _ h0
      · have hk1 : k < len' := by simpa using hk
        obtain ⟨hc1, hLC, hCm, hZ, hwz, hnone, hsome⟩ := hrow k (by omega)
        rw [add_mk] at hc1
        have hlen : (((Z k).take (L k)).map fun n => UInt8.ofNat n.toNat).length = L k := by simp; omega
        rw [hg k hk1, hlen]
        refine ⟨A k, C k, hc1, hnone, fun hpos => ?_⟩
        rw [hlen] at hpos
        cases hA : A k with
        | none => have := hnone hA; omega
        | some a' =>
          have hcell := (hsome a' hA).2
          have hzc : ∀ i, i < (Z k).length → W.cell? (a'.add i) = some (.int .u8 ((Z k).getD i 0)) := fun i hi => hcell i (by omega)
          obtain ⟨b', off', rfl, hc⟩ := ints_at hzc (by omega)
          refine ⟨b', off', rfl, World.block_lt_of_cell? _ _ (hc 0 (by omega)), fun j hj => ?_⟩
          rw [hlen] at hj
          have hj2 : j < (Z k).length := by omega
          rw [hc j hj2]
          have hw := wf_u8_lt (hwz (Z k)[j] (List.getElem_mem hj2))
          simp only [at8, List.getD, List.getElem?_map, List.getElem?_take, if_pos hj, List.getElem?_eq_getElem hj2, Option.map_some, Option.getD_some]
          rw [← hw]
    · have hk1 : k < len' := by simpa using hk
      obtain ⟨hc1, hLC, hCm, hZ, _⟩ := hrow k (by omega)
      rw [hg k hk1]
      simp
      omega
theorem arg_rows7 (hv : Value.okWide Try.prog W .any base 23 v) (h : DataW.Trod enc Try.prog W 0 (fun _ => true) true 23 v d p) :
    ∃ (A : Option Addr) (ls : List (List UInt8)) (cap : Nat), v = .slice A ls.length cap ∧ ls.length ≤ maxLen ∧ ls.length ≤ cap ∧ Rws W W.heap.size A ls ∧ ∀ k, k < ls.length → (bodK ls k).length ≤ maxLen := by
  obtain ⟨a0, len, cap, rfl⟩ := okWide_slice Try.underlying23 hv
  obtain ⟨fuel, hf⟩ := h
  exact row_rows (by simpa [Value.cells] using hf)
theorem arg_sender (hv : Value.okWide Try.prog W .any base 25 v) (h : DataW.Trod enc Try.prog W 0 (fun _ => true) true 25 v d p) :
    ∃ (b : Nat) (A : Option Addr) (ls : List (List UInt8)) (cap : Nat), v = .agg #[.int .u64 (b : Int), .slice A ls.length cap] ∧ b < 18446744073709551616 ∧ ls.length ≤ maxLen ∧ ls.length ≤ cap ∧ Rws W W.heap.size A ls ∧ ∀ k, k < ls.length → (bodK ls k).length ≤ maxLen := by
  obtain ⟨cs, rfl, hsz⟩ := okWide_struct Try.underlying25 hv
  obtain ⟨c0, c1, rfl⟩ : ∃ c0 c1, cs = #[c0, c1] := by
    have h2 : cs.size = 2 := hsz.trans cells25s
    obtain ⟨l⟩ := cs
    match l, h2 with
    | [c0, c1], _ => exact ⟨c0, c1, rfl⟩
  obtain ⟨fuel, hf⟩ := h
  obtain ⟨xs, n, -, -, -, hlen, hF⟩ := DataW.trod_struct Try.underlying25 hf
  match xs, hlen with
  | [y0, y1], _ =>
    have h0 := hF 0 _ rfl
    have h1 := hF 1 _ rfl
    obtain ⟨a0, e0, _, w0⟩ := DataW.trod_int Try.underlying22 (show DataW.trod enc Try.prog W 0 (fun _ => true) true n 22 [c0] = some y0 by simpa [Value.cells, cells64] using h0)
    obtain ⟨A, ls, cap, rfl, q1, q2, q3, q4⟩ := row_rows (v := c1) (show DataW.trod enc Try.prog W 0 (fun _ => true) true n 23 [c1] = some y1 by simpa [Value.cells, cells23] using h1)
    obtain ⟨b0, rfl, g0⟩ := wf_u64 w0
    simp only [List.cons.injEq, and_true] at e0
    exact ⟨b0, A, ls, cap, by rw [e0], g0, q1, q2, q3, q4⟩
theorem arg_recv (hv : Value.okWide Try.prog W .any base 45 v) (h : DataW.Trod enc Try.prog W 0 (fun _ => true) true 45 v d p) :
    ∃ g : Nat, v = .agg #[.int .u64 (g : Int)] ∧ g < 18446744073709551616 := by
  obtain ⟨cs, rfl, hsz⟩ := okWide_struct Try.underlying45 hv
  obtain ⟨c0, rfl⟩ : ∃ c0, cs = #[c0] := by
    have h2 : cs.size = 1 := hsz.trans cells45
    obtain ⟨l⟩ := cs
    match l, h2 with
    | [c0], _ => exact ⟨c0, rfl⟩
  obtain ⟨fuel, hf⟩ := h
  obtain ⟨xs, n, -, -, -, hlen, hF⟩ := DataW.trod_struct Try.underlying45 hf
  match xs, hlen with
  | [y0], _ =>
    have h0 := hF 0 _ rfl
    obtain ⟨a0, e0, _, w0⟩ := DataW.trod_int Try.underlying22 (show DataW.trod enc Try.prog W 0 (fun _ => true) true n 22 [c0] = some y0 by simpa [Value.cells, cells64] using h0)
    obtain ⟨b0, rfl, g0⟩ := wf_u64 w0
    simp only [List.cons.injEq, and_true] at e0
    exact ⟨b0, by rw [e0], g0⟩
theorem arg_acts (hv : Value.okWide Try.prog W .any base 49 v) (h : DataW.Trod enc Try.prog W 0 (fun _ => true) true 49 v d p) :
    ∃ (A : Option Addr) (aks : List (Int × Int)) (cap : Nat), v = .slice A aks.length cap ∧ aks.length ≤ maxLen ∧ ActsIn W A aks ∧ ∀ a ∈ aks, I64q a.1 ∧ I64q a.2 := by
  obtain ⟨a0, len, cap, rfl⟩ := okWide_slice Try.underlying49 hv
  obtain ⟨fuel, hf⟩ := h
  rcases Deep.open_slice_pairs Try.underlying49 Try.underlying58 cellsAct rfl rfl cellsInt cellsInt hf with ⟨hcs, _⟩ | ⟨a, len', cap', m, n, V0, V1, D0, D1, P0, P1, hcs, _, hl, hm, hmm, _, hcell⟩
  · obtain ⟨rfl, rfl, rfl⟩ : a0 = none ∧ len = 0 ∧ cap = 0 := by simpa [Value.cells] using hcs
    exact ⟨none, [], 0, rfl, by simp, fun h => absurd h (by simp), fun s hs => by cases hs⟩
  · obtain ⟨rfl, rfl, rfl⟩ : a0 = some a ∧ len = len' ∧ cap = cap' := by simpa [Value.cells] using hcs
    simp only [if_true] at hmm
    have hi : ∀ i, i < m → ∃ x y : Int, V0 i = .int .i64 x ∧ V1 i = .int .i64 y ∧ I64q x ∧ I64q y := fun i hi => by
      obtain ⟨_, _, t0, t1⟩ := hcell i hi
      obtain ⟨x, hx, _, wx⟩ := DataW.trod_int Try.underlying3 t0
      obtain ⟨y, hy, _, wy⟩ := DataW.trod_int Try.underlying3 t1
      exact ⟨x, y, by simpa using hx, by simpa using hy, wf_i64 wx, wf_i64 wy⟩
    have hv0 : ∀ i, i < m → V0 i = .int .i64 (intOf (V0 i)) ∧ V1 i = .int .i64 (intOf (V1 i)) ∧ I64q (intOf (V0 i)) ∧ I64q (intOf (V1 i)) := fun i hi' => by
      obtain ⟨x, y, e1, e2, h1, h2⟩ := hi i hi'
      rw [e1, e2]
      exact ⟨rfl, rfl, h1, h2⟩
    refine ⟨some a, (List.range len).map fun i => (intOf (V0 i), intOf (V1 i)), cap, by simp, by simp; omega, fun hn => ?_, fun s hs => ?_⟩
    · have hn' : 0 < m := by simp at hn; omega
      obtain ⟨b, off, rfl⟩ : ∃ b off, a = ⟨b, off, none⟩ := by
        have h0 := (hcell 0 hn').1
        obtain ⟨b, off, spot⟩ := a
        have hspot : spot = none := by simpa [Addr.add] using World.cell?_spot h0
        subst hspot
        exact ⟨b, off, rfl⟩
      refine ⟨b, off, rfl, ?_, fun k hk => ?_⟩
      · have h0 := (hcell 0 hn').1
        rw [add_mk] at h0
        exact World.block_lt_of_cell? _ _ h0
      · have hk1 : k < len := by simpa using hk
        obtain ⟨h1, h2, _⟩ := hcell k (by omega)
        obtain ⟨e1, e2, _⟩ := hv0 k (by omega)
        rw [add_mk] at h1 h2
        have hg : (((List.range len).map fun i => (intOf (V0 i), intOf (V1 i))).getD k (0, 0)) = (intOf (V0 k), intOf (V1 k)) := by simp [List.getD, hk1]
        rw [hg, h1, Nat.add_assoc, h2]
        exact ⟨by rw [← e1], by rw [← e2]⟩
    · obtain ⟨i, hi', rfl⟩ := List.mem_map.1 hs
      exact (hv0 i (by have := List.mem_range.1 hi'; omega)).2.2
end
end Go.Proofs.Ytmkkhknbokfciaa
