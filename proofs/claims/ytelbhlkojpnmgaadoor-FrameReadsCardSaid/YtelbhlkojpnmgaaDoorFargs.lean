/-
  An argument that is a frame, opened. No condition.
-/
import Derived.Test.YtelbhlkojpnmgaaDoorFmem
import Derived.Test.YtelbhlkojpnmgaaDoorGb
namespace Go.Proofs.YtelbhlkojpnmgaaDoor
set_option maxRecDepth 20000
open Go.ChangeShapes Go.WideShapes Go.ChangeAt Go.WideMaps Go.WideElems Go.RowKit

theorem cellsFr : Tryd.prog.cellsOf 25 = 10 := by kernel_rfl
theorem cellsBy : Tryd.prog.cellsOf 23 = 1 := by kernel_rfl
theorem array10 {a : Array Value} (h : a.size = 10) : ∃ c0 c1 c2 c3 c4 c5 c6 c7 c8 c9, a = #[c0, c1, c2, c3, c4, c5, c6, c7, c8, c9] := by
  obtain ⟨l⟩ := a
  match l, h with
  | [c0, c1, c2, c3, c4, c5, c6, c7, c8, c9], _ => exact ⟨c0, c1, c2, c3, c4, c5, c6, c7, c8, c9, rfl⟩
section
variable {H : Type} {enc : TypeId × Value → H} {W : World} {base : Nat} {v : Value} {d : DataW H} {p : List MemPlace}
theorem row_bytes {fuel : Nat} {x : DataW H × List MemPlace} (hf : DataW.trod enc Tryd.prog W 0 (fun _ => true) true fuel 23 [v] = some x) :
    ∃ (A : Option Addr) (l : List UInt8) (cap : Nat), v = .slice A l.length cap ∧ l.length ≤ cap ∧ l.length ≤ maxLen ∧ (A = none → cap = 0) ∧ Bytes W W.heap.size A l := by
  rcases open_ints Tryd.underlying23 Tryd.underlying5 cells8 hf with ⟨hcs, _⟩ | ⟨a, len, cap, zs, hcs, _, hl, hm, hz, hx, hcell, hwz⟩
  · obtain rfl : v = .slice none 0 0 := by simpa using hcs
    exact ⟨none, [], 0, rfl, by simp, by simp, fun _ => rfl, Bytes.nil_⟩
  · obtain rfl : v = .slice (some a) len cap := by simpa using hcs
    simp only [if_true] at hz
    refine ⟨some a, (zs.take len).map fun n => UInt8.ofNat n.toNat, cap, ?_, by simp; omega, by simp; omega, fun h => by (cases h), fun hn => ?_⟩
    · congr 1
      simp
      omega
    · have hn' : 0 < zs.length := by simp at hn; omega
      obtain ⟨b, off, rfl, hc⟩ := ints_at hcell hn'
      refine ⟨b, off, rfl, World.block_lt_of_cell? _ _ (hc 0 hn'), fun k hk => ?_⟩
      have hk1 : k < len := by simp at hk; omega
      have hk2 : k < zs.length := by simp at hk; omega
      rw [hc k hk2]
      have hw := wf_u8_lt (hwz zs[k] (List.getElem_mem hk2))
      simp only [at8, List.getD, List.getElem?_map, List.getElem?_take, if_pos hk1, List.getElem?_eq_getElem hk2, Option.map_some, Option.getD_some]
      rw [← hw]
/-- A frame's whole numbers are int's and uint64's. -/
def FrOk (f : Fr) : Prop := (-9223372036854775808 ≤ f.kind ∧ f.kind ≤ 9223372036854775807) ∧ (-9223372036854775808 ≤ f.src ∧ f.src ≤ 9223372036854775807) ∧ (-9223372036854775808 ≤ f.dst ∧ f.dst ≤ 9223372036854775807) ∧
  f.inc < 18446744073709551616 ∧ f.conn < 18446744073709551616 ∧ f.pinc < 18446744073709551616 ∧ f.pconn < 18446744073709551616 ∧ f.ack < 18446744073709551616 ∧ f.seq < 18446744073709551616
theorem arg_frame (hv : Value.okWide Tryd.prog W .any base 25 v) (h : DataW.Trod enc Tryd.prog W 0 (fun _ => true) true 25 v d p) :
    ∃ (f : Fr) (A : Option Addr) (cap : Nat), v = frV f A f.body.length cap ∧ f.body.length ≤ cap ∧ f.body.length ≤ maxLen ∧ (A = none → cap = 0) ∧ Bytes W W.heap.size A f.body ∧ FrOk f := by
  obtain ⟨cs, rfl, hsz⟩ := okWide_struct Tryd.underlying25 hv
  obtain ⟨c0, c1, c2, c3, c4, c5, c6, c7, c8, c9, rfl⟩ := array10 (hsz.trans cellsFr)
  obtain ⟨fuel, hf⟩ := h
  obtain ⟨xs, n, -, -, -, hlen, hF⟩ := DataW.trod_struct Tryd.underlying25 hf
  match xs, hlen with
  | [y0, y1, y2, y3, y4, y5, y6, y7, y8, y9], _ =>
    have h0 := hF 0 _ rfl
    have h1 := hF 1 _ rfl
    have h2 := hF 2 _ rfl
    have h3 := hF 3 _ rfl
    have h4 := hF 4 _ rfl
    have h5 := hF 5 _ rfl
    have h6 := hF 6 _ rfl
    have h7 := hF 7 _ rfl
    have h8 := hF 8 _ rfl
    have h9 := hF 9 _ rfl
    obtain ⟨a0, e0, _, w0⟩ := DataW.trod_int Tryd.underlying3 (show DataW.trod enc Tryd.prog W 0 (fun _ => true) true n 3 [c0] = some y0 by simpa [Value.cells, cellsInt] using h0)
    obtain ⟨a1, e1, _, w1⟩ := DataW.trod_int Tryd.underlying3 (show DataW.trod enc Tryd.prog W 0 (fun _ => true) true n 3 [c1] = some y1 by simpa [Value.cells, cellsInt] using h1)
    obtain ⟨a2, e2, _, w2⟩ := DataW.trod_int Tryd.underlying3 (show DataW.trod enc Tryd.prog W 0 (fun _ => true) true n 3 [c2] = some y2 by simpa [Value.cells, cellsInt] using h2)
    obtain ⟨a3, e3, _, w3⟩ := DataW.trod_int Tryd.underlying22 (show DataW.trod enc Tryd.prog W 0 (fun _ => true) true n 22 [c3] = some y3 by simpa [Value.cells, cells64] using h3)
    obtain ⟨a4, e4, _, w4⟩ := DataW.trod_int Tryd.underlying22 (show DataW.trod enc Tryd.prog W 0 (fun _ => true) true n 22 [c4] = some y4 by simpa [Value.cells, cells64] using h4)
    obtain ⟨a5, e5, _, w5⟩ := DataW.trod_int Tryd.underlying22 (show DataW.trod enc Tryd.prog W 0 (fun _ => true) true n 22 [c5] = some y5 by simpa [Value.cells, cells64] using h5)
    obtain ⟨a6, e6, _, w6⟩ := DataW.trod_int Tryd.underlying22 (show DataW.trod enc Tryd.prog W 0 (fun _ => true) true n 22 [c6] = some y6 by simpa [Value.cells, cells64] using h6)
    obtain ⟨a7, e7, _, w7⟩ := DataW.trod_int Tryd.underlying22 (show DataW.trod enc Tryd.prog W 0 (fun _ => true) true n 22 [c7] = some y7 by simpa [Value.cells, cells64] using h7)
    obtain ⟨a8, e8, _, w8⟩ := DataW.trod_int Tryd.underlying22 (show DataW.trod enc Tryd.prog W 0 (fun _ => true) true n 22 [c8] = some y8 by simpa [Value.cells, cells64] using h8)
    obtain ⟨A, l, cap, rfl, q1, q2, q3, q4⟩ := row_bytes (v := c9) (show DataW.trod enc Tryd.prog W 0 (fun _ => true) true n 23 [c9] = some y9 by simpa [Value.cells, cellsBy] using h9)
    obtain ⟨b3, rfl, g3⟩ := wf_u64 w3
    obtain ⟨b4, rfl, g4⟩ := wf_u64 w4
    obtain ⟨b5, rfl, g5⟩ := wf_u64 w5
    obtain ⟨b6, rfl, g6⟩ := wf_u64 w6
    obtain ⟨b7, rfl, g7⟩ := wf_u64 w7
    obtain ⟨b8, rfl, g8⟩ := wf_u64 w8
    refine ⟨⟨a0, a1, a2, b3, b4, b5, b6, b7, b8, l⟩, A, cap, ?_, q1, q2, q3, q4, wf_i64 w0, wf_i64 w1, wf_i64 w2, g3, g4, g5, g6, g7, g8⟩
    simp only [List.cons.injEq, and_true] at e0 e1 e2 e3 e4 e5 e6 e7 e8
    rw [e0, e1, e2, e3, e4, e5, e6, e7, e8]
    rfl
end
end Go.Proofs.YtelbhlkojpnmgaaDoor
