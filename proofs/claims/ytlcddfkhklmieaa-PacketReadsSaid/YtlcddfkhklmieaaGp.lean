/-
  The program's Put, Get and GetSet: lives written, and read. For lists of at most 1000 lives whose numbers are unsigned, Readers of at most 2^46 bytes.
-/
import Derived.Test.YtlcddfkhklmieaaGb
import Derived.Test.YtlcddfkhklmieaaGc
namespace Go.Proofs.Ytlcddfkhklmieaa
set_option maxRecDepth 20000
open Go.RowKit

set_option maxHeartbeats 2000000 in
theorem pput_at {B : Nat} {w0 W : World} {p : Nat} {g : Option Nat} {L : List UInt8} (h : WS B w0 W p g L) (A : Option Addr) (s : List Life) (n c : Nat) (hl : Lives w0 B A s) (hn : s.length = n) (hu : Unsigned s) (hb : n ≤ 1000) (hr : L.length ≤ 1048576) :
    Calls Try.prog 73 #[.pointer (some ⟨p, 0, none⟩), .slice A n c] W fun e W' => e = .returned (.tuple #[]) ∧ ∃ g', Hid (WS B w0 W' p g' (L ++ putsL s)) := by
  have HL := Lib.hid hl
  have HN := Lib.hid hn
  have HU := Lib.hid hu
  have HW := Lib.hid h
  clear hl hn hu h
  go_enter Try.func73, Try.ntmps73
  go_wp2
  go_loopw [8] (fun i wr => ∃ k : Nat, ∃ g', k ≤ n ∧ i = .int .i64 k ∧ Hid (WS B w0 wr p g' (L ++ putsL (s.take k)))) (fun i _ => n - (intOf i).toNat)
  case atStart => exact ⟨0, g, Nat.zero_le _, rfl, Lib.hid (by simpa [putsL] using HW.out)⟩
  case round =>
    obtain ⟨k, g1, hk, rfl, hw1⟩ := hrel
    by_cases hlt : k < n
    · obtain ⟨b, off, rfl, hbb, h1, h2⟩ := (HL.out.below hw1.out.below).at_ (k := k) (by rw [HN.out]; exact hlt)
      have g0 : (0 : Int) ≤ (k : Int) := by omega
      have g2 : (k : Int) < (n : Int) := by omega
      have HT := Lib.hid (putsL_take_succ s k (by rw [HN.out]; exact hlt))
      have hux := HU.out _ (atL_mem (l := s) (k := k) (by rw [HN.out]; exact hlt))
      have hlen : (L ++ putsL (s.take k)).length ≤ 2097152 := by
        have h3 := putsL_le (s.take k) (fun q hq => HU.out q (List.mem_of_mem_take hq))
        rw [List.length_take, HN.out] at h3
        rw [List.length_append]
        omega
      generalize hx : atL s k = x at *
      have hlb := lowB_lt x
      have hlw : IntKind.u8.wrap x.1 = ((lowB x : Nat) : Int) := by
        unfold lowB
        simp [IntKind.wrap, IntKind.bits, IntKind.signed]
        omega
      obtain ⟨x1, x2⟩ := x
      simp only at h1 h2 hux hlw
      obtain ⟨y, rfl⟩ : ∃ y : Nat, x2 = (y : Int) := ⟨x2.toNat, by omega⟩
      have hy : y < 18446744073709551616 := by omega
      simp only [Int.toNat_natCast] at HT
      generalize lowB (x1, (y : Int)) = lb at *
      obtain ⟨k1, k2⟩ := one_new wr x1 (y : Int)
      have B3 := Lib.hid ((Below.refl wr.heap.size wr).alloc (Nat.le_refl _) (.cells #[.int .i64 x1, .int .u64 (y : Int)] 24))
      have hw2 := Lib.hid (hw1.out.later B3.out)
      have HLn := Lib.hid hlen
      have hbx : wr.heap.size ≠ p := by have := hw1.out.wr.lt; omega
      have hbg : ∀ j, g1 = some j → j ≠ wr.heap.size := fun j e => by have := hw1.out.wr.glt j e; omega
      have HBX := Lib.hid hbx
      have HBG := Lib.hid hbg
      clear hw1 hlen hux hx hbx hbg
      go_wp2_with fail
      generalize wr.alloc (.cells #[.int .i64 x1, .int .u64 (y : Int)] 24) = W2 at *
      generalize hB : wr.heap.size = B2 at k1 k2 HBX HBG ⊢
      have HB := Lib.hid hB
      have K2 := Lib.hid k2
      have hB2 : B2 < W2.heap.size := World.block_lt_of_cell? W2 _ k1
      have HB2 := Lib.hid hB2
      clear hB h1 h2 k1 k2 hB2
      refine (wu8_any p g1 _ lb W2 hlb hw2.out.wr (by have := HLn.out; omega)).mono ?_
      rintro e W3 hE
      obtain ⟨rfl, g3, hw3, hn3, ho3⟩ := WsE.of hw2.out hE
      have k3 := (ho3.out.cell (p := ⟨B2, 1, none⟩) HB2.out (by rintro (e | e); exact HBX.out e; exact HBG.out _ e rfl)).trans K2.out
      clear hE hn3 ho3 hw2
      go_wp2_with fail
      refine (uint_at hw3.out y hy (by have := HLn.out; rw [List.length_append, wideL_length]; omega)).mono ?_
      rintro e W4 ⟨rfl, g4, hw4, _, _⟩
      go_wp2
      go_roundw
      case rel => exact ⟨k + 1, g4, by omega, by go_num, Lib.hid (by rw [HT.out, ← List.append_assoc, ← List.append_assoc]; exact hw4.out)⟩
      case measure => simp [intOf]; omega
    · obtain rfl : k = n := by omega
      have g2 : ¬ (k : Int) < (k : Int) := by omega
      have HTk := Lib.hid (show s.take k = s by rw [← HN.out, List.take_length])
      go_wp2
      go_end0
      exact ⟨rfl, g1, Lib.hid (by rw [← HTk.out]; exact hw1.out)⟩
theorem set_two {W : World} {B : Nat} {a1 a2 : Value} {t : TypeId} (h : W.heap[B]? = some (.cells #[a1, a2] t (0, 0))) (v1 v2 : Value) : ((W.setCell ⟨B, 0, none⟩ v1).setCell ⟨B, 1, none⟩ v2).heap[B]? = some (.cells #[v1, v2] t (0, 0)) := by
  simp [World.setCell, Array.getElem?_modify, h]
set_option maxHeartbeats 2000000 in
theorem get_any (q : Nat) (d : Option Nat) (s : RS) (w : World) (h : Rd RdT w q d s.l s.bad) (hr : s.l.length ≤ 70368744177664) :
    Calls Try.prog 82 #[.pointer (some ⟨q, 0, none⟩)] w fun e w' => e = .returned (lifeV (gotL s).1) ∧ Hid (Rd RdT w' q d (gotL s).2.l (gotL s).2.bad) ∧ Hid (Only (fun k => k = q) w w') := by
  have B0 := Lib.hid ((Below.refl w.heap.size w).alloc (Nat.le_refl _) (.cells #[.int .i64 0, .int .u64 0] 24))
  have hq := h.lt
  have h1 := Lib.hid (h.keep (S := fun _ => False) (Only.ofBelow B0.out) (fun h => h) (fun _ _ h => h))
  have hB0 : (w.alloc (.cells #[.int .i64 0, .int .u64 0] 24)).heap[w.heap.size]? = some (.cells #[.int .i64 0, .int .u64 0] 24 (0, 0)) := heap_alloc_new w _
  have HB0 := Lib.hid hB0
  have HDl := Lib.hid h.dlt
  have HSz := Lib.hid (show (w.alloc (.cells #[.int .i64 0, .int .u64 0] 24)).heap.size = w.heap.size + 1 by simp)
  clear hB0
  have HQ := Lib.hid hq
  have HRl := Lib.hid (Nat.le_trans (rWide_le s 1) hr)
  have HG := Lib.hid (show gotL s = if mayL (((rWide s 1).1 : Int), ((rUint (rWide s 1).2).1 : Int)) then ((((rWide s 1).1 : Int), ((rUint (rWide s 1).2).1 : Int)), (rUint (rWide s 1).2).2) else ((0, 0), ⟨(rUint (rWide s 1).2).2.l, true⟩) from rfl)
  generalize gotL s = gs at *
  clear h hq hr
  go_enter Try.func82, Try.ntmps82
  go_wp2_with fail
  refine (ru8_any q d s _ h1.out).mono ?_
  rintro e W1 ⟨rfl, r1, o1⟩
  have hlt1 := rWide_lt s 1
  generalize (rWide s 1).1 = x at *
  generalize (rWide s 1).2 = s1 at *
  have hx : x < 256 := by simpa using hlt1
  have e1 : IntKind.i64.wrap (x : Int) = (x : Int) := by simp [IntKind.wrap, IntKind.bits, IntKind.signed]; omega
  clear h1 hlt1
  go_wp2_with fail
  refine (uint_any q d s1 W1 r1.out HRl.out).mono ?_
  rintro e W2 ⟨rfl, r2, o2⟩
  generalize (rUint s1).1 = y at *
  generalize (rUint s1).2 = s2 at *
  generalize hB : w.heap.size = B at *
  have HB := Lib.hid hB
  have hqB : ¬ B = q := by have := HQ.out; omega
  have b1 := (o1.out.block B (by rw [HSz.out]; omega) hqB).trans HB0.out
  have b2 := Lib.hid ((o2.out.block B (lt_of_heap b1) hqB).trans b1)
  have oo := Lib.hid (show Only (fun k => k = q) w W2 from ((Only.ofBelow (S := fun k => k = q) (by rw [← hB] at B0; exact B0.out)).trans o1.out fun _ _ h => h).trans o2.out fun _ _ h => h)
  have HqB := Lib.hid hqB
  clear hB b1 o1 o2 r1 HB0 B0 HSz hqB
  obtain ⟨x1, x2⟩ := one_new W2 (x : Int) (y : Int)
  have B3 := Lib.hid ((Below.refl W2.heap.size W2).alloc (Nat.le_refl _) (.cells #[.int .i64 (x : Int), .int .u64 (y : Int)] 24))
  have HMay := Lib.hid (fun W => may_any ((x : Int), (y : Int)) (by simp only; omega) W)
  go_wp2_with fail
  generalize W2.alloc (.cells #[.int .i64 (x : Int), .int .u64 (y : Int)] 24) = W3 at *
  refine (HMay.out W3).mono ?_
  rintro e W4 ⟨rfl, hb4⟩
  have B4 := Lib.hid (btr B3.out hb4.out)
  have y1 := cell_below x1 hb4.out
  have y2 := cell_below x2 hb4.out
  have b4 := Lib.hid ((B4.out.block B (lt_of_heap b2.out)).trans b2.out)
  have r4 := Lib.hid (r2.out.keep (S := fun _ => False) (Only.ofBelow B4.out) (fun h => h) (fun _ _ h => h))
  have o4 := Lib.hid (oo.out.trans (Only.ofBelow (S := fun k => k = q) B4.out) fun _ _ h => h)
  clear x1 x2 hb4 B3 B4 r2 oo b2 HMay
  by_cases hm : mayL ((x : Int), (y : Int))
  · have HG2 := HG.out
    rw [if_pos hm] at HG2
    subst HG2
    rw [decide_eq_true hm]
    have z1 : W4.cell? ⟨B, 0, none⟩ = some (.int .i64 0) := by simpa using cell_plain b4.out 0
    have z2 : W4.cell? ⟨B, 1, none⟩ = some (.int .u64 0) := by simpa using cell_plain b4.out 1
    have f1 : W4.frozen? ⟨B, 0, none⟩ = false := frozen_plain b4.out 0
    have f2 : W4.frozen? ⟨B, 1, none⟩ = false := frozen_plain b4.out 1
    have O5 := Lib.hid (((Only.refl (fun k => k = B) W4).setCell (p := ⟨B, 0, none⟩) (.inl rfl) (.int .i64 (x : Int))).setCell (p := ⟨B, 1, none⟩) (.inl rfl) (.int .u64 (y : Int)))
    clear hm HG
    go_wp2
    have HF := set_two b4.out (.int .i64 (x : Int)) (.int .u64 (y : Int))
    (try simp only [Exit.inBlock, Exit.then])
    refine bodyPost_ret (results_cell_row rfl _ _ B 24 #[.int .i64 (x : Int), .int .u64 (y : Int)] (0, 0) _ rfl HF Try.underlying24 rfl (by kernel_rfl)) rfl ?_
    exact ⟨rfl, Lib.hid (r4.out.keep (S := fun k => k = B) O5.out (fun e => HqB.out e.symm) (fun k e e2 => by have := HDl.out k e; omega)), Lib.hid ((o4.out.setCell (p := ⟨B, 0, none⟩) (.inr (Nat.le_of_eq HB.out)) _).setCell (p := ⟨B, 1, none⟩) (.inr (Nat.le_of_eq HB.out)) _)⟩
  · have HG2 := HG.out
    rw [if_neg hm] at HG2
    subst HG2
    rw [decide_eq_false hm]
    clear hm HG
    go_wp2_with fail
    refine (fail_any q d s2.l s2.bad W4 r4.out).mono ?_
    rintro e W5 ⟨rfl, r5, o5⟩
    have b5 := Lib.hid ((o5.out.block B (lt_of_heap b4.out) HqB.out).trans b4.out)
    have z1 : W5.cell? ⟨B, 0, none⟩ = some (.int .i64 0) := by simpa using cell_plain b5.out 0
    have z2 : W5.cell? ⟨B, 1, none⟩ = some (.int .u64 0) := by simpa using cell_plain b5.out 1
    have f1 : W5.frozen? ⟨B, 0, none⟩ = false := frozen_plain b5.out 0
    have f2 : W5.frozen? ⟨B, 1, none⟩ = false := frozen_plain b5.out 1
    have O5 := Lib.hid (((Only.refl (fun k => k = B) W5).setCell (p := ⟨B, 0, none⟩) (.inl rfl) (.int .i64 0)).setCell (p := ⟨B, 1, none⟩) (.inl rfl) (.int .u64 0))
    have o6 := Lib.hid (o4.out.trans o5.out fun _ _ h => h)
    clear y1 y2 r4
    go_wp2
    have HF := set_two b5.out (.int .i64 0) (.int .u64 0)
    (try simp only [Exit.inBlock, Exit.then])
    refine bodyPost_ret (results_cell_row rfl _ _ B 24 #[.int .i64 0, .int .u64 0] (0, 0) _ rfl HF Try.underlying24 rfl (by kernel_rfl)) rfl ?_
    exact ⟨rfl, Lib.hid (r5.out.keep (S := fun k => k = B) O5.out (fun e => HqB.out e.symm) (fun k e e2 => by have := HDl.out k e; omega)), Lib.hid ((o6.out.setCell (p := ⟨B, 0, none⟩) (.inr (Nat.le_of_eq HB.out)) _).setCell (p := ⟨B, 1, none⟩) (.inr (Nat.le_of_eq HB.out)) _)⟩
end Go.Proofs.Ytlcddfkhklmieaa
/-
  Blocks that are no Writer's; the program's Put of lives, wherever they lie. For Writers of at most 2^21 bytes, lists of at most 1000 lives.
-/
namespace Go.Proofs.Ytlcddfkhklmieaa
set_option maxRecDepth 20000
open Go.RowKit

theorem wbelow_box (w : World) (o : Obj) : Below w.heap.size w (w.alloc o) := (Below.refl w.heap.size w).alloc (Nat.le_refl _) o
/-- A block that is no Writer's. -/
def Off (b p : Nat) (g : Option Nat) : Prop := b ≠ p ∧ g ≠ some b
theorem Off.new {b p : Nat} {g g' : Option Nat} {w : World} (h : Off b p g) (hb : b < w.heap.size) (hn : NewOr w g g') : Off b p g' := ⟨h.1, fun e => h.2 (hn.same hb e)⟩
theorem Off.cell {b p : Nat} {g : Option Nat} {w w' : World} (h : Off b p g) (hb : b < w.heap.size) (ho : Only (fun k => k = p ∨ g = some k) w w') (k : Nat) : w'.cell? ⟨b, k, none⟩ = w.cell? ⟨b, k, none⟩ :=
  ho.cell (p := ⟨b, k, none⟩) hb (fun e => by rcases e with e | e; exact h.1 e; exact h.2 e)
theorem Wr.off {w : World} {p b : Nat} {g : Option Nat} {l : List UInt8} (h : Wr w p g l) (hb : w.heap.size ≤ b) : Off b p g := ⟨by have := h.lt; omega, fun e => by have := h.glt b e; omega⟩
theorem Lives.wrote {w w' : World} {p : Nat} {g : Option Nat} {A : Option Addr} {l : List Life} (h : Lives w w.heap.size A l) (hf : 0 < l.length → ∀ b, blockOf A = some b → Off b p g) (ho : Only (fun k => k = p ∨ g = some k) w w') : Lives w' w'.heap.size A l := fun hl => by
  obtain ⟨b, off, e, hlt, hc⟩ := h hl
  have hb := hf hl b (by rw [e]; rfl)
  exact ⟨b, off, e, Nat.lt_of_lt_of_le hlt ho.size, fun k hk => ⟨(hb.cell hlt ho _).trans (hc k hk).1, (hb.cell hlt ho _).trans (hc k hk).2⟩⟩
theorem Nums.wrote {w w' : World} {p : Nat} {g : Option Nat} {A : Option Addr} {l : List Nat} (h : Nums w w.heap.size A l) (hf : 0 < l.length → ∀ b, blockOf A = some b → Off b p g) (ho : Only (fun k => k = p ∨ g = some k) w w') : Nums w' w'.heap.size A l := fun hl => by
  obtain ⟨b, off, e, hlt, hc⟩ := h hl
  have hb := hf hl b (by rw [e]; rfl)
  exact ⟨b, off, e, Nat.lt_of_lt_of_le hlt ho.size, fun k hk => (hb.cell hlt ho _).trans (hc k hk)⟩
theorem Lives.offs {w : World} {p : Nat} {g g' : Option Nat} {A : Option Addr} {l : List Life} (h : Lives w w.heap.size A l) (hf : 0 < l.length → ∀ b, blockOf A = some b → Off b p g) (hn : NewOr w g g') : 0 < l.length → ∀ b, blockOf A = some b → Off b p g' := fun hl b e => by
  obtain ⟨b', off, e', hlt, _⟩ := h hl
  rw [e'] at e
  cases e
  exact (hf hl b' (by rw [e']; rfl)).new hlt hn
theorem Nums.offs {w : World} {p : Nat} {g g' : Option Nat} {A : Option Addr} {l : List Nat} (h : Nums w w.heap.size A l) (hf : 0 < l.length → ∀ b, blockOf A = some b → Off b p g) (hn : NewOr w g g') : 0 < l.length → ∀ b, blockOf A = some b → Off b p g' := fun hl b e => by
  obtain ⟨b', off, e', hlt, _⟩ := h hl
  rw [e'] at e
  cases e
  exact (hf hl b' (by rw [e']; rfl)).new hlt hn
theorem Wr.on {w w' : World} {p : Nat} {g : Option Nat} {l : List UInt8} (h : Wr w p g l) (hb : Below w.heap.size w w') : Wr w' p g l := h.keep (S := fun _ => False) (Only.ofBelow hb) (fun h => h) (fun _ _ h => h)
/-- What is written behind blocks that were made meanwhile. -/
theorem Wrote.after {w w1 w2 : World} {p : Nat} {g : Option Nat} {l xs : List UInt8} (hb : Below w.heap.size w w1) (h : Wrote w1 p g l xs w2) : Wrote w p g l xs w2 := by
  obtain ⟨g2, h1, h2, h3⟩ := h
  exact ⟨g2, h1, h2.older hb.size, (Only.ofBelow (S := fun k => k = p ∨ g = some k) hb).trans h3 fun k _ e => e⟩
theorem Wrote.join {w w1 w2 : World} {p : Nat} {g g1 : Option Nat} {l xs ys : List UInt8} (h1 : Wr w1 p g1 (l ++ xs) ∧ NewOr w g g1 ∧ Only (fun k => k = p ∨ g = some k) w w1) (h : Wrote w1 p g1 (l ++ xs) ys w2) : Wrote w p g l (xs ++ ys) w2 := Wrote.trans h1.2.1 h1.2.2 h
set_option maxHeartbeats 2000000 in
theorem pputw_any (p : Nat) (g : Option Nat) (L : List UInt8) (A : Option Addr) (s : List Life) (n c : Nat) (W : World) (h : Wr W p g L) (hl : Lives W W.heap.size A s) (hf : 0 < s.length → ∀ b, blockOf A = some b → Off b p g) (hn : s.length = n) (hu : Unsigned s) (hb : n ≤ 1000) (hr : L.length ≤ 2097152) :
    Calls Try.prog 73 #[.pointer (some ⟨p, 0, none⟩), .slice A n c] W (WroteE W p g L (putsL s)) := by
  have HL := Lib.hid hl
  have HN := Lib.hid hn
  have HU := Lib.hid hu
  have HW := Lib.hid h
  have HF := Lib.hid hf
  clear hl hn hu h hf
  go_enter Try.func73, Try.ntmps73
  go_wp2
  go_loopw [8] (fun i wr => ∃ k : Nat, k ≤ n ∧ i = .int .i64 k ∧ Hid (Wrote W p g L (putsL (s.take k)) wr)) (fun i _ => n - (intOf i).toNat)
  case atStart => exact ⟨0, Nat.zero_le _, rfl, Lib.hid (by simpa [putsL] using Wrote.same HW.out)⟩
  case round =>
    obtain ⟨k, hk, rfl, hwr⟩ := hrel
    by_cases hlt : k < n
    · obtain ⟨g1, h1, h2, h3⟩ := hwr.out
      have hpos : 0 < s.length := by rw [HN.out]; omega
      have HLr := HL.out.wrote HF.out h3
      obtain ⟨b, off, rfl, hbb, c1, c2⟩ := HLr.at_ (k := k) (by rw [HN.out]; exact hlt)
      have H1 := Lib.hid h1
      have H23 := Lib.hid (And.intro h2 h3)
      have g0 : (0 : Int) ≤ (k : Int) := by omega
      have g2 : (k : Int) < (n : Int) := by omega
      have HT := Lib.hid (putsL_take_succ s k (by rw [HN.out]; exact hlt))
      have hux := HU.out _ (atL_mem (l := s) (k := k) (by rw [HN.out]; exact hlt))
      have hlen : (L ++ putsL (s.take k)).length ≤ 4194304 := by
        have h3 := putsL_le (s.take k) (fun q hq => HU.out q (List.mem_of_mem_take hq))
        rw [List.length_take, HN.out] at h3
        rw [List.length_append]
        omega
      generalize hx : atL s k = x at *
      have hlb := lowB_lt x
      have hlw : IntKind.u8.wrap x.1 = ((lowB x : Nat) : Int) := by
        unfold lowB
        simp [IntKind.wrap, IntKind.bits, IntKind.signed]
        omega
      obtain ⟨x1, x2⟩ := x
      simp only at c1 c2 hux hlw
      obtain ⟨y, rfl⟩ : ∃ y : Nat, x2 = (y : Int) := ⟨x2.toNat, by omega⟩
      have hy : y < 18446744073709551616 := by omega
      simp only [Int.toNat_natCast] at HT
      generalize lowB (x1, (y : Int)) = lb at *
      obtain ⟨k1, k2⟩ := one_new wr x1 (y : Int)
      have B3 := Lib.hid (wbelow_box wr (.cells #[.int .i64 x1, .int .u64 (y : Int)] 24))
      have hw2 := Lib.hid (H1.out.on B3.out)
      have HLn := Lib.hid hlen
      have HOf := Lib.hid (H1.out.off (Nat.le_refl wr.heap.size))
      clear hwr h1 h2 h3 hlen hux hx HLr hpos
      go_wp2_with fail
      generalize wr.alloc (.cells #[.int .i64 x1, .int .u64 (y : Int)] 24) = W2 at *
      generalize hB : wr.heap.size = B2 at k1 k2 HOf ⊢
      have HB := Lib.hid hB
      have K2 := Lib.hid k2
      have hB2 : B2 < W2.heap.size := World.block_lt_of_cell? W2 _ k1
      have HB2 := Lib.hid hB2
      clear hB c1 c2 k1 k2 hB2
      refine (wu8_any p g1 _ lb W2 hlb hw2.out (by have := HLn.out; omega)).mono ?_
      rintro e W3 ⟨rfl, h4⟩
      have H4 := Lib.hid h4
      obtain ⟨g3, q1, q2, q3⟩ := h4
      have k3 := (HOf.out.cell HB2.out q3 1).trans K2.out
      have Q := Lib.hid (And.intro q1 (And.intro q2 q3))
      clear q1 q2 q3
      go_wp2_with fail
      refine (wuint_any p g3 _ y W3 Q.out.1 hy (by have := HLn.out; rw [List.length_append, wideL_length]; omega)).mono ?_
      rintro e W4 ⟨rfl, h5⟩
      have H6 := Lib.hid (show Wrote W p g L (putsL (s.take (k + 1))) W4 by
        rw [HT.out, List.append_assoc]
        exact Wrote.trans H23.out.1 H23.out.2 (Wrote.after B3.out (Wrote.join Q.out h5)))
      clear h5
      go_wp2
      go_roundw
      case rel => exact ⟨k + 1, by omega, by go_num, H6⟩
      case measure => simp [intOf]; omega
    · obtain rfl : k = n := by omega
      have g2 : ¬ (k : Int) < (k : Int) := by omega
      have HTk := Lib.hid (show s.take k = s by rw [← HN.out, List.take_length])
      go_wp2
      go_end0
      exact ⟨rfl, by rw [← HTk.out]; exact hwr.out⟩
/-- A name's bytes. -/
def idL (i : Nm) : List UInt8 := shortL i.1.toNat ++ putL i.2
def UNm (i : Nm) : Prop := (0 ≤ i.1 ∧ i.1 < 18446744073709551616) ∧ (0 ≤ i.2.2 ∧ i.2.2 < 18446744073709551616)
theorem shortL_le10 {x : Nat} (h : x < 18446744073709551616) : (shortL x).length ≤ 10 := by
  have h9 : (18446744073709551616 : Nat) ≤ 128 ^ (9 + 1) := by decide
  exact shortL_le 9 x (by omega)
theorem idL_le (i : Nm) (h : UNm i) : (idL i).length ≤ 21 := by
  have h1 := shortL_le10 (x := i.1.toNat) (by have := h.1; omega)
  have h2 := putL_le i.2 h.2.2
  unfold idL
  rw [List.length_append]
  omega
end Go.Proofs.Ytlcddfkhklmieaa
