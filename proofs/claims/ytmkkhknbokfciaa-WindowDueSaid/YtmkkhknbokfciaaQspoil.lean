/-
  A sender's bytes written over: nothing but them turns. For rows that a call itself made.
-/
import Derived.Test.YtmkkhknbokfciaaQset
namespace Go.Proofs.Ytmkkhknbokfciaa
set_option maxRecDepth 20000
open Go.RowKit

/-- m bytes lie in block g. -/
def U8 (w : World) (g m : Nat) : Prop := ∃ cur, w.heap[g]? = some (.cells cur 5 (0, 0)) ∧ ∀ j, j < m → ∃ x, cur[j]? = some (.int .u8 x)
/-- The rows of block G, n of them, their bytes in blocks from base on. -/
def SpR (w : World) (base G n : Nat) (lens : Nat → Nat) : Prop := ∀ k, k < n → ∃ A' c', w.cell? ⟨G, k, none⟩ = some (.slice A' (lens k) c') ∧ (0 < lens k → ∃ g, A' = some ⟨g, 0, none⟩ ∧ base ≤ g ∧ g ≠ G ∧ U8 w g (lens k))
theorem U8.set {w : World} {g m g' j : Nat} {y : Int} (h : U8 w g m) : U8 (w.setCell ⟨g', j, none⟩ (.int .u8 y)) g m := by
  obtain ⟨cur, hh, hc⟩ := h
  by_cases e : g = g'
  · subst e
    refine ⟨cur.setIfInBounds j (.int .u8 y), by simp [World.setCell, Array.getElem?_modify, hh], fun i hi => ?_⟩
    obtain ⟨x, hx⟩ := hc i hi
    by_cases e2 : j = i
    · subst e2
      exact ⟨y, by rw [Array.getElem?_setIfInBounds_self_of_lt (Array.getElem?_eq_some_iff.1 hx).1]⟩
    · exact ⟨x, by rw [Array.getElem?_setIfInBounds_ne e2]; exact hx⟩
  · exact ⟨cur, by rw [Below.heap_setCell w ⟨g', j, none⟩ _ g e]; exact hh, hc⟩
theorem SpR.set {w : World} {base G n g j : Nat} {lens : Nat → Nat} {y : Int} (h : SpR w base G n lens) (hg : g ≠ G) : SpR (w.setCell ⟨g, j, none⟩ (.int .u8 y)) base G n lens := fun k hk => by
  obtain ⟨A', c', h1, h2⟩ := h k hk
  refine ⟨A', c', ?_, fun hp => ?_⟩
  · rw [World.cell?_setCell_other w ⟨g, j, none⟩ ⟨G, k, none⟩ _ (fun e => hg (by injection e))]; exact h1
  · obtain ⟨g2, e, hb, hn, hu⟩ := h2 hp
    exact ⟨g2, e, hb, hn, hu.set⟩
theorem ORws.spr {w : World} {base n c G : Nat} {ls : List (List UInt8)} (h : ORws w base (some ⟨G, 0, none⟩) n c ls) : SpR w base G n (fun k => (bodK ls k).length) := fun k hk => by
  obtain ⟨vs, h1, h2, h3⟩ := h
  obtain ⟨A', c', e1, e2, e3⟩ := h3 k (by omega)
  refine ⟨A', c', ((h1.cells rfl).2 k _ e1).1, fun hp => ?_⟩
  rcases e2.form8 with rfl | ⟨g, rfl⟩
  · have := e2.bytes.none_
    simp only [this] at hp
    simp at hp
  · obtain ⟨_, cur, hh, hs, hn, ht⟩ := e2.block (g := g) rfl
    refine ⟨g, rfl, (e2.lt rfl).1, fun e => e3 g rfl (by rw [e]; rfl), cur, hh, fun j hj => ?_⟩
    have hj2 : (cur.toList.take (bodK ls k).length)[j]? = (bv (bodK ls k))[j]? := by rw [ht]
    rw [List.getElem?_take, if_pos hj, bv_get hj] at hj2
    exact ⟨_, by simpa using hj2⟩
set_option maxHeartbeats 4000000 in
theorem spoil7_any (b : Nat) (A : Option Addr) (n c base : Nat) (ls : List (List UInt8)) (w : World) (h : ORws w base A n c ls) (hb : base ≤ w.heap.size) (hr : n ≤ 1000000) (hbig : ∀ k, k < n → (bodK ls k).length ≤ 1000000) :
    Calls Try.prog 16 #[.agg #[.int .u64 (b : Int), .slice A n c]] w fun e w' => (∃ v, e = .returned v) ∧ Hid (Below base w w') := by
  have R1 : Hid (SRow w.heap.size (b : Int) A n c (w.alloc (.cells #[.int .u64 (b : Int), .slice A n c] 25))) := Lib.hid (qnew w _ _)
  have X1 := Lib.hid (sbox_new w (b : Int) A n c 25)
  have bb1 := qbox w (.cells #[.int .u64 (b : Int), .slice A n c] 25)
  have B1 := Lib.hid (show Below base w (w.alloc (.cells #[.int .u64 (b : Int), .slice A n c] 25)) from bb1.mono hb)
  have O1 := Lib.hid (h.on bb1)
  have HX := Lib.hid (show ∀ g, blockOf A = some g → g < w.heap.size from fun g e => (h.bs g e).2)
  have HW := Lib.hid hb
  have HB := Lib.hid hbig
  clear bb1 h hb hbig
  go_enter Try.func16, Try.ntmps16
  obtain ⟨k0, k1⟩ := X1.out
  clear k0
  rcases O1.out.form with ⟨rfl, rfl, rfl⟩ | ⟨G, rfl, hG, hG2⟩
  · go_wp2_with fail
    generalize w.alloc (.cells #[.int .u64 (b : Int), .slice none 0 0] 25) = W1 at *
    go_loopw [2] (fun i wr => i = .int .i64 0 ∧ Hid (wr = W1)) (fun i _ => 0)
    case atStart => exact ⟨rfl, Lib.hid rfl⟩
    case round =>
      obtain ⟨rfl, HE⟩ := hrel
      obtain rfl := HE.out
      go_wp2
      go_end0
      exact ⟨⟨_, rfl⟩, B1⟩
  · have S1 := Lib.hid O1.out.spr
    have hGx : w.heap.size ≠ G := by have := HX.out G rfl; omega
    have HG := Lib.hid hG
    have HGx := Lib.hid hGx
    clear O1 X1 hG hG2 hGx
    go_wp2_with fail
    generalize w.alloc (.cells #[.int .u64 (b : Int), .slice (some ⟨G, 0, none⟩) n c] 25) = W1 at *
    go_loopw [2] (fun i wr => ∃ k, k ≤ n ∧ i = .int .i64 (k : Nat) ∧ Hid (SpR wr base G n (fun k => (bodK ls k).length)) ∧ Hid (Below base w wr) ∧ Hid (SRow w.heap.size b (some ⟨G, 0, none⟩) n c wr)) (fun i _ => n - (intOf i).toNat)
    case atStart => exact ⟨0, Nat.zero_le _, rfl, S1, B1, R1⟩
    case round =>
      clear k1
      obtain ⟨k, hk, rfl, HS, HBl, HR⟩ := hrel
      have k1 := HR.out.box.2
      by_cases hlt : k < n
      · have g5 : (k : Int) < (n : Int) := by omega
        go_wp2_with fail
        go_loopw [3] (fun i wr => ∃ j, j ≤ (bodK ls k).length ∧ i = .int .i64 (j : Nat) ∧ Hid (SpR wr base G n (fun k => (bodK ls k).length)) ∧ Hid (Below base w wr) ∧ Hid (SRow w.heap.size b (some ⟨G, 0, none⟩) n c wr)) (fun i _ => (bodK ls k).length - (intOf i).toNat)
        case atStart => exact ⟨0, Nat.zero_le _, rfl, HS, HBl, HR⟩
        case round =>
          clear k1 HS HBl HR
          obtain ⟨j, hj, rfl, HS, HBl, HR⟩ := hrel
          have k1 := HR.out.box.2
          obtain ⟨A', c', hcell, hrest⟩ := HS.out k hlt
          have HB3 := Lib.hid (HB.out k hlt)
          simp only at hcell hrest
          generalize hm : (bodK ls k).length = m at *
          by_cases hj2 : j < m
          · have g6 : (j : Int) < (m : Int) := by omega
            obtain ⟨g, rfl, hgb, hgn, cur, hh, hcur⟩ := hrest (by omega)
            obtain ⟨x, hx⟩ := hcur j hj2
            have hc2 : wr.cell? ⟨g, j, none⟩ = some (.int .u8 x) := by rw [cell_plain hh]; exact hx
            have hf2 := frozen_plain hh j
            have HS2 := Lib.hid (fun y => HS.out.set (j := j) (y := y) hgn)
            have HB2 := Lib.hid (fun y => HBl.out.setCell (p := ⟨g, j, none⟩) hgb (.int .u8 y))
            have hgw : g ≠ w.heap.size := fun e => by
              have := HR.out
              unfold SRow at this
              rw [← e, hh] at this
              simp at this
            have R2 := Lib.hid (fun y => HR.out.keep ((Only.refl (fun k => k = g) wr).setCell (p := ⟨g, j, none⟩) (.inl rfl) (.int .u8 y)) (fun e => hgw e.symm))
            clear hgw
            clear hrest hgb hgn hh hcur hx
            have := HB3.out
            go_wp2
            go_roundw
            case rel => exact ⟨j + 1, by omega, by go_num, Lib.hid (HS2.out _), Lib.hid (HB2.out _), Lib.hid (R2.out _)⟩
            case measure => simp [intOf]; omega
          · obtain rfl : j = m := by omega
            have g6 : ¬ (j : Int) < (j : Int) := by omega
            clear hrest
            go_wp2
            go_roundw
            case rel => exact ⟨k + 1, by omega, by go_num, HS, HBl, HR⟩
            case measure => simp [intOf]; omega
      · obtain rfl : k = n := by omega
        have g5 : ¬ (k : Int) < (k : Int) := by omega
        go_wp2
        go_end0
        exact ⟨⟨_, rfl⟩, HBl⟩
end Go.Proofs.Ytmkkhknbokfciaa
