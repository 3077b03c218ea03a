/-
  An argument that is a packet, opened. No condition.
-/
import Derived.Test.YtlcddfkhklmieaaKown
import Derived.Test.YtlcddfkhklmieaaGb
import Derived.Test.YtlcddfkhklmieaaGc
import Derived.Deep.Slices
import Derived.Deep.Matrix
namespace Go.Proofs.Ytlcddfkhklmieaa
set_option maxRecDepth 20000
open Go.ChangeShapes Go.WideShapes Go.ChangeAt Go.WideMaps Go.WideElems Go.RowKit

theorem cellsPk : Try.prog.cellsOf 31 = 10 := by kernel_rfl
theorem cellsHd : Try.prog.cellsOf 51 = 4 := by kernel_rfl
theorem cellsAd : Try.prog.cellsOf 29 = 4 := by kernel_rfl
theorem cellsKb : Try.prog.cellsOf 26 = 1 := by kernel_rfl
theorem cellsKh : Try.prog.cellsOf 25 = 1 := by kernel_rfl
theorem cellsKp : Try.prog.cellsOf 27 = 1 := by kernel_rfl
theorem arrayT {a : Array Value} (h : a.size = 10) : ∃ c0 c1 c2 c3 c4 c5 c6 c7 c8 c9, a = #[c0, c1, c2, c3, c4, c5, c6, c7, c8, c9] := by
  obtain ⟨l⟩ := a
  match l, h with
  | [c0, c1, c2, c3, c4, c5, c6, c7, c8, c9], _ => exact ⟨c0, c1, c2, c3, c4, c5, c6, c7, c8, c9, rfl⟩
instance : Inhabited Hd := ⟨noH⟩
/-- A packet's whole numbers are int's and uint64's. -/
def HdOk (h : Hd) : Prop := I64 h.dst ∧ h.conn < 18446744073709551616 ∧ h.seq < 18446744073709551616 ∧ h.inc < 18446744073709551616
def LfOk (q : Life) : Prop := I64 q.1 ∧ 0 ≤ q.2 ∧ q.2 < 18446744073709551616
def PkOk (p : Pk) : Prop := I64 p.kind ∧ LfOk p.src ∧ I64 p.hops ∧ (∀ h ∈ p.heads, HdOk h) ∧ LfOk p.srv ∧ p.aseq < 18446744073709551616 ∧ ∀ q ∈ p.peers, LfOk q
section
variable {H : Type} {enc : TypeId × Value → H} {W : World} {base : Nat} {v : Value} {d : DataW H} {p : List MemPlace}
theorem row_heads {fuel : Nat} {x : DataW H × List MemPlace} (hf : DataW.trod enc Try.prog W 0 (fun _ => true) true fuel 25 [v] = some x) :
    ∃ (A : Option Addr) (hs : List Hd) (cap : Nat), v = .slice A hs.length cap ∧ hs.length ≤ maxLen ∧ Hds W W.heap.size A hs ∧ (A = none → cap = 0) ∧ ∀ h ∈ hs, HdOk h := by
  rcases Deep.open_slice Try.underlying25 hf with ⟨hcs, _⟩ | ⟨a, len, cap, m, n, D, Pl, hcs, hb, hl, hm, hmm, hxx, hx⟩
  · obtain rfl : v = .slice none 0 0 := by simpa using hcs
    exact ⟨none, [], 0, rfl, by simp, Hds.nil_, fun _ => rfl, fun s hs => by cases hs⟩
  · obtain rfl : v = .slice (some a) len cap := by simpa using hcs
    simp only [if_true] at hmm
    have each : ∀ i, i < len → ∃ q : Hd, (W.cell? (a.add (i * 4)) = some (.int .i64 q.dst) ∧ W.cell? (a.add (i * 4 + 1)) = some (.int .u64 (q.conn : Int)) ∧ W.cell? (a.add (i * 4 + 2)) = some (.int .u64 (q.seq : Int)) ∧ W.cell? (a.add (i * 4 + 3)) = some (.int .u64 (q.inc : Int))) ∧ HdOk q := fun i hi => by
      obtain ⟨cs', h1, h2⟩ := hx i (by omega)
      rw [cellsHd] at h1
      obtain ⟨_, hlen, hcell⟩ := World.cells?_some h1
      obtain ⟨xs, k, -, -, -, hxl, hF⟩ := DataW.trod_struct Try.underlying51 h2
      match xs, hxl, cs', hlen with
      | [y0, y1, y2, y3], _, [v0, v1, v2, v3], _ =>
        have g0 := hF 0 _ rfl
        have g1 := hF 1 _ rfl
        have g2 := hF 2 _ rfl
        have g3 := hF 3 _ rfl
        obtain ⟨b0, e0, _, w0⟩ := DataW.trod_int Try.underlying3 (show DataW.trod enc Try.prog W 0 (fun _ => true) true k 3 [v0] = some y0 by simpa [cellsInt] using g0)
        obtain ⟨b1, e1, _, w1⟩ := DataW.trod_int Try.underlying22 (show DataW.trod enc Try.prog W 0 (fun _ => true) true k 22 [v1] = some y1 by simpa [cells64] using g1)
        obtain ⟨b2, e2, _, w2⟩ := DataW.trod_int Try.underlying22 (show DataW.trod enc Try.prog W 0 (fun _ => true) true k 22 [v2] = some y2 by simpa [cells64] using g2)
        obtain ⟨b3, e3, _, w3⟩ := DataW.trod_int Try.underlying22 (show DataW.trod enc Try.prog W 0 (fun _ => true) true k 22 [v3] = some y3 by simpa [cells64] using g3)
        obtain ⟨c1, rfl, q1⟩ := wf_u64 w1
        obtain ⟨c2, rfl, q2⟩ := wf_u64 w2
        obtain ⟨c3, rfl, q3⟩ := wf_u64 w3
        simp only [List.cons.injEq, and_true] at e0 e1 e2 e3
        have z0 := hcell 0 (by omega)
        have z1 := hcell 1 (by omega)
        have z2 := hcell 2 (by omega)
        have z3 := hcell 3 (by omega)
        rw [Deep.add_add] at z0 z1 z2 z3
        refine ⟨⟨b0, c1, c2, c3⟩, ⟨?_, ?_, ?_, ?_⟩, wf_i64 w0, q1, q2, q3⟩
        · rw [← e0]; simpa using z0
        · rw [← e1]; simpa using z1
        · rw [← e2]; simpa using z2
        · rw [← e3]; simpa using z3
    obtain ⟨y, hy⟩ := Deep.choose_lt each
    refine ⟨some a, (List.range len).map y, cap, by simp, by simp; omega, fun hn => ?_, fun e => (by cases e), fun h hh => ?_⟩
    · have hn' : 0 < len := by simpa using hn
      obtain ⟨b, off, rfl⟩ : ∃ b off, a = ⟨b, off, none⟩ := by
        have h0 := (hy 0 hn').1.1
        obtain ⟨b, off, spot⟩ := a
        have hspot : spot = none := by simpa [Addr.add] using World.cell?_spot h0
        subst hspot
        exact ⟨b, off, rfl⟩
      refine ⟨b, off, rfl, ?_, fun k hk => ?_⟩
      · have h0 := (hy 0 hn').1.1
        rw [add_mk] at h0
        exact World.block_lt_of_cell? _ _ h0
      · have hk1 : k < len := by simpa using hk
        obtain ⟨⟨h1, h2, h3, h4⟩, _⟩ := hy k hk1
        rw [add_mk] at h1 h2 h3 h4
        have hg : atH ((List.range len).map y) k = y k := by simp [atH, List.getD, hk1]
        rw [hg]
        exact ⟨h1, by rw [Nat.add_assoc]; exact h2, by rw [Nat.add_assoc]; exact h3, by rw [Nat.add_assoc]; exact h4⟩
    · obtain ⟨i, hi', rfl⟩ := List.mem_map.1 hh
      exact (hy i (List.mem_range.1 hi')).2
theorem row_bytesK {fuel : Nat} {x : DataW H × List MemPlace} (hf : DataW.trod enc Try.prog W 0 (fun _ => true) true fuel 26 [v] = some x) :
    ∃ (A : Option Addr) (l : List UInt8) (cap : Nat), v = .slice A l.length cap ∧ l.length ≤ maxLen ∧ (A = none → cap = 0) ∧ Bytes W W.heap.size A l := by
  rcases open_ints Try.underlying26 Try.underlying5 cells8 hf with ⟨hcs, _⟩ | ⟨a, len, cap, zs, hcs, _, hl, hm, hz, hx, hcell, hwz⟩
  · obtain rfl : v = .slice none 0 0 := by simpa using hcs
    exact ⟨none, [], 0, rfl, by simp, fun _ => rfl, Bytes.nil_⟩
  · obtain rfl : v = .slice (some a) len cap := by simpa using hcs
    simp only [if_true] at hz
    refine ⟨some a, (zs.take len).map fun n => UInt8.ofNat n.toNat, cap, ?_, by simp; omega, fun h => by (cases h), fun hn => ?_⟩
    · congr 1
      simp
      omega
    · have hn' : 0 < zs.length := by simp at hn; omega
      obtain ⟨b, off, rfl, hc⟩ := ints_at hcell hn'
      refine ⟨b, off, rfl, World.block_lt_of_cell? _ _ (hc 0 hn'), fun k hk => ?_⟩
      have hk1 : k < len := by simp at hk; omega
      have hk2 : k < zs.length := by simp at hk; omega
      rw [hc k hk2]
      have hw := wf_u8_lt (hwz zs[k] (List.getElem_mem hk2))
      simp only [at8, List.getD, List.getElem?_map, List.getElem?_take, if_pos hk1, List.getElem?_eq_getElem hk2, Option.map_some, Option.getD_some]
      rw [← hw]
theorem row_livesK {fuel : Nat} {x : DataW H × List MemPlace} (hf : DataW.trod enc Try.prog W 0 (fun _ => true) true fuel 27 [v] = some x) :
    ∃ (A : Option Addr) (aks : List Life) (cap : Nat), v = .slice A aks.length cap ∧ aks.length ≤ maxLen ∧ Lives W W.heap.size A aks ∧ (A = none → cap = 0) ∧ ∀ a ∈ aks, LfOk a := by
  rcases Deep.open_slice_pairs Try.underlying27 Try.underlying24 cellsLife rfl rfl cellsInt cells64 hf with ⟨hcs, _⟩ | ⟨a, len, cap, m, n, V0, V1, D0, D1, P0, P1, hcs, _, hl, hm, hmm, _, hcell⟩
  · obtain rfl : v = .slice none 0 0 := by simpa using hcs
    exact ⟨none, [], 0, rfl, by simp, Lives.nil_, fun _ => rfl, fun s hs => by cases hs⟩
  · obtain rfl : v = .slice (some a) len cap := by simpa using hcs
    simp only [if_true] at hmm
    have each : ∀ i, i < len → ∃ q : Life, (W.cell? (a.add (i * 2)) = some (.int .i64 q.1) ∧ W.cell? (a.add (i * 2 + 1)) = some (.int .u64 q.2)) ∧ LfOk q := fun i hi => by
      obtain ⟨z0, z1, t0, t1⟩ := hcell i (by omega)
      obtain ⟨x, hx, _, wx⟩ := DataW.trod_int Try.underlying3 t0
      obtain ⟨y, hy, _, wy⟩ := DataW.trod_int Try.underlying22 t1
      obtain ⟨y', rfl, hy'⟩ := wf_u64 wy
      simp only [List.cons.injEq, and_true] at hx hy
      exact ⟨(x, (y' : Int)), ⟨by rw [← hx]; exact z0, by rw [← hy]; exact z1⟩, wf_i64 wx, by simp only; omega, by simp only; omega⟩
    obtain ⟨y, hy⟩ := Deep.choose_lt each
    refine ⟨some a, (List.range len).map y, cap, by simp, by simp; omega, fun hn => ?_, fun e => (by cases e), fun h hh => ?_⟩
    · have hn' : 0 < len := by simpa using hn
      obtain ⟨b, off, rfl⟩ : ∃ b off, a = ⟨b, off, none⟩ := by
        have h0 := (hy 0 hn').1.1
        obtain ⟨b, off, spot⟩ := a
        have hspot : spot = none := by simpa [Addr.add] using World.cell?_spot h0
        subst hspot
        exact ⟨b, off, rfl⟩
      refine ⟨b, off, rfl, ?_, fun k hk => ?_⟩
      · have h0 := (hy 0 hn').1.1
        rw [add_mk] at h0
        exact World.block_lt_of_cell? _ _ h0
      · have hk1 : k < len := by simpa using hk
        obtain ⟨⟨h1, h2⟩, _⟩ := hy k hk1
        rw [add_mk] at h1 h2
        have hg : atL ((List.range len).map y) k = y k := by simp [atL, List.getD, hk1]
        rw [hg]
        exact ⟨h1, by rw [Nat.add_assoc]; exact h2⟩
    · obtain ⟨i, hi', rfl⟩ := List.mem_map.1 hh
      exact (hy i (List.mem_range.1 hi')).2
theorem row_lifeK {fuel : Nat} {x : DataW H × List MemPlace} {c0 c1 : Value} (hf : DataW.trod enc Try.prog W 0 (fun _ => true) true fuel 24 [c0, c1] = some x) :
    ∃ q : Life, c0 = .int .i64 q.1 ∧ c1 = .int .u64 q.2 ∧ LfOk q := by
  obtain ⟨z0, z1, n', -, -, g0, g1⟩ := trod_struct2 Try.underlying24 hf
  simp only [cells64, cellsInt] at g0 g1
  have g0 : DataW.trod enc Try.prog W 0 (fun _ => true) true n' 3 [c0] = some z0 := by simpa using g0
  have g1 : DataW.trod enc Try.prog W 0 (fun _ => true) true n' 22 [c1] = some z1 := by simpa using g1
  obtain ⟨b, hb, _, wb⟩ := DataW.trod_int Try.underlying3 g0
  obtain ⟨c, hc, _, wc⟩ := DataW.trod_int Try.underlying22 g1
  obtain ⟨c', rfl, hc'⟩ := wf_u64 wc
  obtain rfl : c0 = .int .i64 b := by simpa using hb
  obtain rfl : c1 = .int .u64 (c' : Int) := by simpa using hc
  exact ⟨(b, (c' : Int)), rfl, rfl, wf_i64 wb, by simp only; omega, by simp only; omega⟩
/-- A packet's ten cells, its lists at A0, A1, A2. -/
def pkV (p : Pk) (A0 : Option Addr) (c0 : Nat) (A1 : Option Addr) (c1 : Nat) (A2 : Option Addr) (c2 : Nat) : Value := .agg #[.int .i64 p.kind, .int .i64 p.src.1, .int .u64 p.src.2, .int .i64 p.hops, .slice A0 p.heads.length c0, .slice A1 p.body.length c1, .int .i64 p.srv.1, .int .u64 p.srv.2, .int .u64 (p.aseq : Int), .slice A2 p.peers.length c2]
/-- A packet's lists, below B. -/
structure PkIn (W : World) (B : Nat) (p : Pk) (A0 : Option Addr) (c0 : Nat) (A1 : Option Addr) (c1 : Nat) (A2 : Option Addr) (c2 : Nat) : Prop where
  heads : Hds W B A0 p.heads
  body : Bytes W B A1 p.body
  peers : Lives W B A2 p.peers
  cap0 : A0 = none → c0 = 0
  cap1 : A1 = none → c1 = 0
  cap2 : A2 = none → c2 = 0
theorem arg_packet (hv : Value.okWide Try.prog W .any base 31 v) (h : DataW.Trod enc Try.prog W 0 (fun _ => true) true 31 v d p) :
    ∃ (k : Pk) (A0 : Option Addr) (c0 : Nat) (A1 : Option Addr) (c1 : Nat) (A2 : Option Addr) (c2 : Nat), v = pkV k A0 c0 A1 c1 A2 c2 ∧ PkIn W W.heap.size k A0 c0 A1 c1 A2 c2 ∧ PkOk k := by
  obtain ⟨cs, rfl, hsz⟩ := okWide_struct Try.underlying31 hv
  obtain ⟨c0, c1, c2, c3, c4, c5, c6, c7, c8, c9, rfl⟩ := arrayT (hsz.trans cellsPk)
  obtain ⟨fuel, hf⟩ := h
  obtain ⟨xs, n, -, -, -, hlen, hF⟩ := DataW.trod_struct Try.underlying31 hf
  match xs, hlen with
  | [y0, y1, y2, y3, y4, y5], _ =>
    have h0 := hF 0 _ rfl
    have h1 := hF 1 _ rfl
    have h2 := hF 2 _ rfl
    have h3 := hF 3 _ rfl
    have h4 := hF 4 _ rfl
    have h5 := hF 5 _ rfl
    obtain ⟨k, e0, _, w0⟩ := DataW.trod_int Try.underlying3 (show DataW.trod enc Try.prog W 0 (fun _ => true) true n 3 [c0] = some y0 by simpa [Value.cells, cellsInt] using h0)
    obtain ⟨s, rfl, rfl, q1⟩ := row_lifeK (c0 := c1) (c1 := c2) (show DataW.trod enc Try.prog W 0 (fun _ => true) true n 24 [c1, c2] = some y1 by simpa [Value.cells, cellsLife] using h1)
    obtain ⟨hp, e2, _, w2⟩ := DataW.trod_int Try.underlying3 (show DataW.trod enc Try.prog W 0 (fun _ => true) true n 3 [c3] = some y2 by simpa [Value.cells, cellsInt] using h2)
    obtain ⟨A0, hs, ca, rfl, _, i0, j0, o0⟩ := row_heads (v := c4) (show DataW.trod enc Try.prog W 0 (fun _ => true) true n 25 [c4] = some y3 by simpa [Value.cells, cellsKh] using h3)
    obtain ⟨A1, bd, cb, rfl, _, j1, i1⟩ := row_bytesK (v := c5) (show DataW.trod enc Try.prog W 0 (fun _ => true) true n 26 [c5] = some y4 by simpa [Value.cells, cellsKb] using h4)
    have h5' : DataW.trod enc Try.prog W 0 (fun _ => true) true n 29 [c6, c7, c8, c9] = some y5 := by simpa [Value.cells, cellsAd] using h5
    obtain ⟨z0, z1, z2, n', -, -, g0, g1, g2⟩ := Deep.trod_struct3 Try.underlying29 h5'
    simp only [cellsLife, cells64, cellsKp] at g0 g1 g2
    obtain ⟨sv, rfl, rfl, q6⟩ := row_lifeK (c0 := c6) (c1 := c7) (by simpa using g0)
    obtain ⟨a8, e8, _, w8⟩ := DataW.trod_int Try.underlying22 (show DataW.trod enc Try.prog W 0 (fun _ => true) true n' 22 [c8] = some z1 by simpa using g1)
    obtain ⟨A2, ps, cp, rfl, _, i2, j2, o2⟩ := row_livesK (v := c9) (by simpa using g2)
    obtain ⟨b8, rfl, g8⟩ := wf_u64 w8
    simp only [List.cons.injEq, and_true] at e0 e2 e8
    subst e0 e2 e8
    exact ⟨⟨k, s, hp, hs, bd, sv, b8, ps⟩, A0, ca, A1, cb, A2, cp, rfl, ⟨i0, i1, i2, j0, j1, j2⟩, wf_i64 w0, q1, wf_i64 w2, o0, q6, g8, o2⟩
end
end Go.Proofs.Ytlcddfkhklmieaa
