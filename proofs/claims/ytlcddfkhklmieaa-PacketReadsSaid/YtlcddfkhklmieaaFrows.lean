/-
  A frame's cells, one by one; bytes that may be written over. No condition.
-/
import Derived.Test.YtlcddfkhklmieaaFown
import Derived.Test.YtlcddfkhklmieaaFset
import Derived.Test.YtlcddfkhklmieaaGa
import Derived.Laws.ResultCell
namespace Go.Proofs.Ytlcddfkhklmieaa
set_option maxRecDepth 20000
open Go.RowKit

theorem uint_le (s : RS) : (rUint s).2.l.length ≤ s.l.length := by
  unfold rUint
  split
  · exact Nat.le_refl _
  · simp
theorem uints_le (s : RS) : ∀ k, (uints k s).2.l.length ≤ s.l.length
  | 0 => Nat.le_refl _
  | k + 1 => Nat.le_trans (uint_le _) (uints_le s k)
theorem rd_below {T : TypeId} {w w' : World} {q : Nat} {d : Option Nat} {l : List UInt8} {bad : Bool} (h : Rd T w q d l bad) (hb : Below w.heap.size w w') : Rd T w' q d l bad :=
  h.keep (S := fun _ => False) ⟨hb.os, hb.tape, hb.output, hb.size, fun j hj _ => hb.block j hj⟩ (fun h => h) (fun _ _ h => h)
section
variable {b : Nat} {k s t i c p q a e : Int} {A : Option Addr} {n cap : Nat} {ty : TypeId} {w : World}
theorem FRow.set3 (h : FRow b k s t i c p q a e A n cap ty w) (x : Int) : FRow b k s t x c p q a e A n cap ty (w.setCell ⟨b, 3, none⟩ (.int .u64 x)) := by
  unfold FRow at *
  simp [World.setCell, Array.getElem?_modify, h]
theorem FRow.set4 (h : FRow b k s t i c p q a e A n cap ty w) (x : Int) : FRow b k s t i x p q a e A n cap ty (w.setCell ⟨b, 4, none⟩ (.int .u64 x)) := by
  unfold FRow at *
  simp [World.setCell, Array.getElem?_modify, h]
theorem FRow.set5 (h : FRow b k s t i c p q a e A n cap ty w) (x : Int) : FRow b k s t i c x q a e A n cap ty (w.setCell ⟨b, 5, none⟩ (.int .u64 x)) := by
  unfold FRow at *
  simp [World.setCell, Array.getElem?_modify, h]
theorem FRow.set6 (h : FRow b k s t i c p q a e A n cap ty w) (x : Int) : FRow b k s t i c p x a e A n cap ty (w.setCell ⟨b, 6, none⟩ (.int .u64 x)) := by
  unfold FRow at *
  simp [World.setCell, Array.getElem?_modify, h]
theorem FRow.set7 (h : FRow b k s t i c p q a e A n cap ty w) (x : Int) : FRow b k s t i c p q x e A n cap ty (w.setCell ⟨b, 7, none⟩ (.int .u64 x)) := by
  unfold FRow at *
  simp [World.setCell, Array.getElem?_modify, h]
theorem FRow.set8 (h : FRow b k s t i c p q a e A n cap ty w) (x : Int) : FRow b k s t i c p q a x A n cap ty (w.setCell ⟨b, 8, none⟩ (.int .u64 x)) := by
  unfold FRow at *
  simp [World.setCell, Array.getElem?_modify, h]
end
theorem results_row_tmp {P : Program} {fn : Func} {p u : Tmp} {ty : TypeId} (h : fn.results = #[.cell p ty, .tmp u]) (tmps : Array Value) (w : World) (g : Nat) (t : TypeId) (cs : Array Value) (fr : Nat × Nat) (d : TypeDesc)
    (hp : tmps.getD p undef = .pointer (some ⟨g, 0, none⟩)) (hg : w.heap[g]? = some (.cells cs t fr))
    (hu : P.underlying ty = some d) (hd : (match d with | .struct _ | .array _ _ => true | _ => false) = true) (hi : (P.info? ty).map (·.size) = some cs.size) :
    (results fn tmps).run P w = .ok (.tuple #[.agg cs, tmps.getD u undef]) w := by
  rw [results_cell_tmp h, hp]
  simp [asAddr, run_loadVar_row w g t ty cs fr d hg hu hd hi, Result.andThen]
/-- Bytes that may be written over, in a block at B or behind. -/
def Wbl (w : World) (B : Nat) (A : Option Addr) (cap : Nat) (l : List UInt8) : Prop :=
  (A = none ∧ cap = 0 ∧ l = []) ∨ ∃ g, A = some ⟨g, 0, none⟩ ∧ B ≤ g ∧ g < w.heap.size ∧ ∀ k, k < l.length → w.cell? ⟨g, k, none⟩ = some (.int .u8 ((at8 l k : Nat) : Int)) ∧ w.frozen? ⟨g, k, none⟩ = false
section
variable {w w' : World} {B cap : Nat} {A : Option Addr} {l : List UInt8}
theorem Wbl.bytes (h : Wbl w B A cap l) : Bytes w w.heap.size A l := fun hn => by
  rcases h with ⟨_, _, rfl⟩ | ⟨g, rfl, _, hg, hc⟩
  · simp at hn
  · exact ⟨g, 0, rfl, hg, fun k hk => by rw [Nat.zero_add]; exact (hc k hk).1⟩
theorem Wbl.none_cap (h : Wbl w B A cap l) (hA : A = none) : cap = 0 := by
  rcases h with ⟨_, h, _⟩ | ⟨g, rfl, _⟩
  · exact h
  · cases hA
theorem Wbl.lt (h : Wbl w B A cap l) {g : Nat} (hg : blockOf A = some g) : B ≤ g ∧ g < w.heap.size := by
  rcases h with ⟨rfl, _⟩ | ⟨g', rfl, h1, h2, _⟩
  · cases hg
  · cases hg
    exact ⟨h1, h2⟩
theorem Wbl.keep {S : Nat → Prop} (h : Wbl w B A cap l) (ho : Only S w w') (hn : ∀ k, blockOf A = some k → ¬ S k) : Wbl w' B A cap l := by
  rcases h with h | ⟨g, rfl, h1, h2, hc⟩
  · exact .inl h
  · have hh := ho.block g h2 (hn g rfl)
    refine .inr ⟨g, rfl, h1, Nat.lt_of_lt_of_le h2 ho.size, fun k hk => ?_⟩
    have := hc k hk
    unfold World.cell? World.frozen? at *
    simp only at *
    rw [hh]
    exact this
theorem Wbl.lower {B' : Nat} (h : Wbl w B A cap l) (hb : B' ≤ B) : Wbl w B' A cap l := by
  rcases h with h | ⟨g, rfl, h1, h2⟩
  · exact .inl h
  · exact .inr ⟨g, rfl, Nat.le_trans hb h1, h2⟩
theorem Wbl.nil_ : Wbl w B none 0 [] := .inl ⟨rfl, rfl, rfl⟩
end
/-- '[]byte(s)': new memory, that may be written over. -/
theorem conv_wbl (s : ByteArray) (w : World) : ∃ W cap, Sem.run Try.prog (convert 9 26 (.string s)) w = .ok (.slice (some ⟨w.heap.size, 0, none⟩) s.size cap) W ∧
    Hid (Wbl W w.heap.size (some ⟨w.heap.size, 0, none⟩) cap (strL s)) ∧ Hid (Only (fun _ => False) w W) := by
  have C := run_bytes_of_string (P := Try.prog) w 9 26 5 s Try.underlying9 Try.underlying26 Try.underlying5
  refine ⟨_, _, C, Lib.hid (.inr ⟨_, rfl, Nat.le_refl _, by simp, fun k hk => ⟨?_, ?_⟩⟩), Lib.hid (((Only.refl _ _).drew).alloc _)⟩
  · have h := World.cell?_alloc_mark w.drew (bytesRow s (grownCap w s.size 0 5)) 5 ((bytesRow s (grownCap w s.size 0 5)).size, (bytesRow s (grownCap w s.size 0 5)).size + 1) k
    refine Eq.trans h ?_
    have hk' : k < s.data.size := hk
    unfold bytesRow
    rw [Array.getElem?_append_left (by simpa using hk')]
    simp [at8, strL, List.getD, Array.getElem?_eq_getElem hk']
  · refine (World.frozen?_alloc_mark w.drew _ 5 _ _ k).trans ?_
    have hk' : k < s.data.size := hk
    have : k < (bytesRow s (grownCap w s.size 0 5)).size := by
      unfold bytesRow
      rw [Array.size_append, Array.size_map]
      omega
    rw [Bool.and_eq_false_iff]
    exact .inl (decide_eq_false (by omega))
end Go.Proofs.Ytlcddfkhklmieaa
