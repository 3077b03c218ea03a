/-
  What the document's own answer for a text does, and what a text turned into bytes and cleared leaves. For texts of at most 2^20 bytes.
-/
import Derived.Test.YtlcddfkhklmieaaGb
import Derived.Test.YtlcddfkhklmieaaClear
namespace Go.Proofs.Ytlcddfkhklmieaa
set_option maxRecDepth 20000
open Go.ChangeShapes Go.WideShapes Go.ChangeAt Go.WideMaps Go.WideElems Go.RowKit

/-- '[]byte(s)': new memory, all of it to be written. -/
theorem conv_bytes2 (s : ByteArray) (w : World) : ∃ W cap, Sem.run Try.prog (convert 9 26 (.string s)) w = .ok (.slice (some ⟨w.heap.size, 0, none⟩) s.size cap) W ∧
    Hid (Bytes W W.heap.size (some ⟨w.heap.size, 0, none⟩) (strL s)) ∧ Hid (Only (fun _ => False) w W) ∧ Hid (w.heap.size < W.heap.size ∧ ∀ j, j < s.size → (W.cell? ⟨w.heap.size, j, none⟩).isSome = true ∧ W.frozen? ⟨w.heap.size, j, none⟩ = false) := by
  have C := run_bytes_of_string (P := Try.prog) w 9 26 5 s Try.underlying9 Try.underlying26 Try.underlying5
  refine ⟨_, _, C, Lib.hid fun hn => ⟨_, 0, rfl, by simp, fun k hk => ?_⟩, Lib.hid (((Only.refl _ _).drew).alloc _), Lib.hid ⟨by simp, fun j hj => ?_⟩⟩
  · have h := World.cell?_alloc_mark w.drew (bytesRow s (grownCap w s.size 0 5)) 5 ((bytesRow s (grownCap w s.size 0 5)).size, (bytesRow s (grownCap w s.size 0 5)).size + 1) k
    rw [Nat.zero_add]
    refine Eq.trans h ?_
    have hk' : k < s.data.size := hk
    unfold bytesRow
    rw [Array.getElem?_append_left (by simpa using hk')]
    simp [at8, strL, List.getD, Array.getElem?_eq_getElem hk']
  · have h := World.cell?_alloc_mark w.drew (bytesRow s (grownCap w s.size 0 5)) 5 ((bytesRow s (grownCap w s.size 0 5)).size, (bytesRow s (grownCap w s.size 0 5)).size + 1) j
    have hk' : j < s.data.size := hj
    have hlt : j < (bytesRow s (grownCap w s.size 0 5)).size := by
      unfold bytesRow
      rw [Array.size_append]
      have : s.data.size ≤ (s.data.map fun b => Value.int .u8 (b.toNat : Nat)).size := by simp
      first | (simp; omega) | omega
    generalize bytesRow s (grownCap w s.size 0 5) = row at *
    refine ⟨(congrArg Option.isSome h).trans (by simp [hlt]), ?_⟩
    have hh : (w.drew.alloc (.cells row 5 (row.size, row.size + 1))).heap[w.heap.size]? = some (.cells row 5 (row.size, row.size + 1)) := by
      show (w.heap.push (.cells row 5 (row.size, row.size + 1)))[w.heap.size]? = _
      simp
    unfold World.frozen?
    rw [hh]
    simp
    omega
theorem cell_same {w w' : World} {b j : Nat} (h : w'.heap[b]? = w.heap[b]?) : w'.cell? ⟨b, j, none⟩ = w.cell? ⟨b, j, none⟩ := by
  unfold World.cell?
  rw [h]
theorem frozen_same {w w' : World} {b j : Nat} (h : w'.heap[b]? = w.heap[b]?) : w'.frozen? ⟨b, j, none⟩ = w.frozen? ⟨b, j, none⟩ := by
  unfold World.frozen?
  rw [h]
/-- clear of all of a block's first places, where they are there. -/
theorem clear_all (b n c : Nat) (w : World) (hc : ∀ j, j < n → (w.cell? ⟨b, j, none⟩).isSome = true ∧ w.frozen? ⟨b, j, none⟩ = false) :
    ∃ w', (∀ ty, (Builtin.clear_ #[26] ty #[.slice (some ⟨b, 0, none⟩) n c]).run Try.prog w = .ok (.tuple #[]) w') ∧ Hid (Only (fun k => k = b) w w') := by
  rcases Nat.eq_zero_or_pos n with rfl | h0
  · exact ⟨w, clear_none _ c w, Lib.hid (Only.refl _ _)⟩
  · obtain ⟨w', h1, h2⟩ := clear_at b 0 n c w h0 (fun j hj => by rw [Nat.zero_add]; exact (hc j hj).1) (fun j hj => by rw [Nat.zero_add]; exact (hc j hj).2)
    exact ⟨w', h1, Lib.hid (h2.out.only.weak fun k _ e => by simpa [blockOf] using e.symm)⟩
theorem WS.otherW {B : Nat} {w0 W W' : World} {p : Nat} {g : Option Nat} {l : List UInt8} {S : Nat → Prop} (h : WS B w0 W p g l) (ho : Only S W W') (hS : ∀ k, S k → B ≤ k) (h1 : ¬ S p) (h2 : ∀ k, g = some k → ¬ S k) : WS B w0 W' p g l :=
  ⟨h.wr.keep ho h1 h2, ho.below h.below hS h.size, h.hp, h.hg⟩
theorem str_append (a b : List UInt8) : (⟨a.toArray⟩ : ByteArray) ++ ⟨b.toArray⟩ = ⟨(a ++ b).toArray⟩ := by
  apply ByteArray.ext
  simp
theorem strL_back (s : ByteArray) : (⟨(strL s).toArray⟩ : ByteArray) = s := rfl

set_option maxHeartbeats 400000 in
theorem refText_any (s : ByteArray) (w : World) (hs : s.size ≤ 1048576) :
    Calls Try.prog 34 #[.string s] w (BytesE w (shortL s.size ++ strL s)) := by
  obtain ⟨i0, hi0, hz0, hz1, hz2⟩ := info_parts Try.infoU8
  have H10 := shortL_ten (x := s.size) (by omega)
  go_enter Try.func34, Try.ntmps34
  go_wp2_with fail
  refine (refShort_any s.size w (by omega)).mono ?_
  rintro e W1 ⟨A, cap, rfl, ho, hb⟩
  generalize hsl : shortL s.size = sl at *
  go_wp2_with (at_builtin; go_loud (refine Lib.wpList_append_own_string (P := Try.prog) W1 rfl (.tmp 6) (.tmp 7) 26 9 rfl w.heap.size 5 i0 Try.underlying26 Try.underlying9 hi0 hz0 hz1 hz2 (.slice A sl.length cap) sl.length (bv sl) rfl ho.out s rfl (by unfold maxLen; omega) (by omega) hb.out.size ?_))
  intro v' w' h1 h2 h3
  obtain ⟨A', cap', rfl⟩ := own_value h1
  rw [ownBlock_slice] at h2
  have hO := Only.ofGrown h2
  have hlo : ∀ k, blockOf A = some k → w.heap.size ≤ k := fun k e => (ho.out.lt e).1
  have hb3 : Hid (Below w.heap.size w w') := Lib.hid (hO.below hb.out hlo hb.out.size)
  have hS : Lib.strCells s = bv (strL s) := by unfold Lib.strCells bv strL; rfl
  rw [hS, ← bv_append] at h1
  have hO1 : Hid (Own8 w' w.heap.size A' (sl.length + s.size) cap' (sl ++ strL s)) := Lib.hid h1
  have hll : (sl ++ strL s).length = sl.length + s.size := by rw [List.length_append]; rfl
  clear h1 h2 h3 hO hlo ho hb hS
  go_wp2
  go_ret
  exact ⟨A', cap', by rw [hll]; rfl, by rw [hll]; exact hO1, hb3⟩
end Go.Proofs.Ytlcddfkhklmieaa
