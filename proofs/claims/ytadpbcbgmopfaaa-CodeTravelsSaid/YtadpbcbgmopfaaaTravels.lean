/-
  The statement CodeTravels' walk: whatever numbers and texts, it answers true, and leaves all that was there as it was. No condition but that they are numbers and texts.
-/
import Derived.Test.YtadpbcbgmopfaaaTrav
import Derived.Test.YtadpbcbgmopfaaaRegion2
import Derived.Test.YtadpbcbgmopfaaaAsked
import Derived.Test.YtadpbcbgmopfaaaReft
namespace Go.Proofs.Ytadpbcbgmopfaaa
set_option maxRecDepth 20000
open Go.RowKit

def TravRel (w : World) (p : Nat) (l : List Nat) (ts : List ByteArray) (n0 n1 : Nat) (i : Value) (wr : World) : Prop :=
  ∃ k g, k ≤ max n0 n1 ∧ i = .int .i64 (k : Nat) ∧ Hid (WS w.heap.size w wr p g (partsF l ts 0 k)) ∧ Hid ((partsF l ts 0 k).length ≤ k * 30000) ∧ Hid (∀ j, j < k → j < n1 → (ts.getD j ByteArray.empty).size ≤ 10000)
theorem RdS.drew' {B : Nat} {w0 W : World} {q : Nat} {d : Option Nat} {s : RS} (h : RdS RdT B w0 W q d s) : RdS RdT B w0 W.drew q d s := ⟨h.rd, ⟨h.below.os, h.below.tape, h.below.output, h.below.size, h.below.block⟩, h.hq, h.hd⟩
def TravRel2 (w : World) (q : Nat) (d : Option Nat) (l : List Nat) (ts : List ByteArray) (n0 n1 : Nat) (i : Value) (wr : World) : Prop :=
  ∃ k m, k + m = max n0 n1 ∧ i = .int .i64 (k : Nat) ∧ Hid (RdS RdT w.heap.size w wr q d ⟨partsF l ts k m, false⟩) ∧ Hid ((partsF l ts k m).length ≤ 30000000)
/-- A wide number that was put, asked for. -/
theorem asked_wide {B : Nat} {w0 W : World} {q : Nat} {d : Option Nat} {x s : Nat} {r : List UInt8} (h : RdS RdT B w0 W q d ⟨wideL x (2 ^ s) ++ r, false⟩) (hs : s < 4) (hr : (wideL x (2 ^ s) ++ r).length ≤ 70368744177664) :
    Calls Try.prog 28 #[.pointer (some ⟨q, 0, none⟩), .agg #[.int .i64 (s : Int), .int .i64 0]] W fun e W' => e = .returned (.tuple #[.int .u64 ((x % 2 ^ (8 * 2 ^ s) : Nat) : Int), .string ⟨#[]⟩]) ∧ Hid (RdS RdT B w0 W' q d ⟨r, false⟩) ∧ Hid (Only (fun k => k = q ∨ d = some k) W W') := by
  have hk : kind (s : Int) = s := by unfold kind; omega
  have ha : ask ⟨wideL x (2 ^ s) ++ r, false⟩ s 0 = (x % 2 ^ (8 * 2 ^ s), [], ⟨r, false⟩) := by
    have hp := rWide_put x (2 ^ s) r
    have hc : s = 0 ∨ s = 1 ∨ s = 2 ∨ s = 3 := by omega
    rcases hc with rfl | rfl | rfl | rfl <;> (unfold ask; simp at hp; simp [hp])
  refine (asked_any q d _ (s : Int) 0 W (by constructor <;> decide) h.rd hr).mono ?_
  rw [hk, ha]
  rintro e W' ⟨rfl, h1, h2⟩
  exact ⟨rfl, Lib.hid ⟨h1.out, h2.out.below h.below (by rintro k (e | e); exact Nat.le_trans h.hq (Nat.le_of_eq e.symm); exact h.hd k e) h.size, h.hq, h.hd⟩, h2⟩
theorem bytes_only {w w' : World} {A : Option Addr} {l : List UInt8} {q : Nat} (h : Bytes w w.heap.size A l) (hq : blockOf A ≠ some q) (ho : Only (fun k => k = q) w w') : Bytes w' w'.heap.size A l := fun hn => by
  obtain ⟨b, off, rfl, hb, hc⟩ := h hn
  exact ⟨b, off, rfl, Nat.lt_of_lt_of_le hb ho.size, fun k hk => (ho.cell (p := ⟨b, off + k, none⟩) hb (fun e => hq (by simpa [blockOf] using e))).trans (hc k hk)⟩
/-- A slice of bytes that no block q holds. -/
def BytesQ (q : Nat) (l : List UInt8) (w : World) (v : Value) : Prop := ∃ A cap, v = .slice A l.length cap ∧ Bytes w w.heap.size A l ∧ blockOf A ≠ some q
theorem BytesQ.mono {q : Nat} {l : List UInt8} {v : Value} {w w' : World} (ho : Only (fun k => k = q) w w') (h : BytesQ q l w v) : BytesQ q l w' v := by
  obtain ⟨A, cap, e, h1, h2⟩ := h
  exact ⟨A, cap, e, bytes_only h1 h2 ho, h2⟩
/-- How the Reader stands within the comparison of numbers: number 9 takes the short number. -/
def I25 (B : Nat) (w0 : World) (q : Nat) (d : Option Nat) (x : Nat) (R2 : List UInt8) (lst : Array Bool) (V : World) : Prop := RdS RdT B w0 V q d (if lst.getD 9 false = true then ⟨R2, false⟩ else ⟨shortL x ++ R2, false⟩)
theorem getD_set_same {lst : Array Bool} {i : Nat} (h : i < lst.size) : (lst.setIfInBounds i true).getD i false = true := by simp [h]
section
variable {B : Nat} {w0 V V' : World} {q x : Nat} {d : Option Nat} {R2 : List UInt8} {lst : Array Bool} {s : ByteArray}
theorem RdS.ltq {st : RS} (h : RdS RdT B w0 V q d st) : q < V.heap.size := h.rd.lt
theorem I25.same {i : Nat} (h : i ≠ 9) (hI : I25 B w0 q d x R2 lst V) : I25 B w0 q d x R2 (lst.setIfInBounds i true) V := by unfold I25 at *; rwa [getD_set_ne false h]
theorem I25.later (hI : I25 B w0 q d x R2 lst V) (hb : Below V.heap.size V V') : I25 B w0 q d x R2 lst V' := RdS.later hI hb
theorem I25.cell {b o : Nat} (hI : I25 B w0 q d x R2 lst V) (hb : b < B) : V.cell? ⟨b, o, none⟩ = w0.cell? ⟨b, o, none⟩ := hI.below.cell (p := ⟨b, o, none⟩) hb
/-- How the Reader stands within the comparison of texts: number 11 takes the text, number 24 the bytes. -/
def I27 (B : Nat) (w0 : World) (q : Nat) (d : Option Nat) (s : ByteArray) (R2 : List UInt8) (lst : Array Bool) (V : World) : Prop :=
  (lst.getD 16 false = true → lst.getD 11 false = true) ∧ (lst.getD 17 false = true → lst.getD 16 false = true) ∧ (lst.getD 24 false = true → lst.getD 17 false = true) ∧
  RdS RdT B w0 V q d (if lst.getD 24 false = true then ⟨R2, false⟩ else if lst.getD 11 false = true then ⟨strL s ++ R2, false⟩ else ⟨shortL s.size ++ strL s ++ (strL s ++ R2), false⟩)
theorem I27.same {i : Nat} (h : i ≠ 11 ∧ i ≠ 16 ∧ i ≠ 17 ∧ i ≠ 24) (hI : I27 B w0 q d s R2 lst V) : I27 B w0 q d s R2 (lst.setIfInBounds i true) V := by
  unfold I27 at *
  rwa [getD_set_ne false h.1, getD_set_ne false h.2.1, getD_set_ne false h.2.2.1, getD_set_ne false h.2.2.2]
theorem I27.at16 (hs : 16 < lst.size) (h : lst.getD 11 false = true) (hI : I27 B w0 q d s R2 lst V) : I27 B w0 q d s R2 (lst.setIfInBounds 16 true) V := by
  unfold I27 at *
  rw [getD_set_ne false (show 16 ≠ 11 by decide), getD_set_same hs, getD_set_ne false (show 16 ≠ 17 by decide), getD_set_ne false (show 16 ≠ 24 by decide)]
  exact ⟨fun _ => h, fun _ => rfl, hI.2.2.1, hI.2.2.2⟩
theorem I27.at17 (hs : 17 < lst.size) (h : lst.getD 16 false = true) (hI : I27 B w0 q d s R2 lst V) : I27 B w0 q d s R2 (lst.setIfInBounds 17 true) V := by
  unfold I27 at *
  rw [getD_set_ne false (show 17 ≠ 11 by decide), getD_set_same hs, getD_set_ne false (show 17 ≠ 16 by decide), getD_set_ne false (show 17 ≠ 24 by decide)]
  exact ⟨hI.1, fun _ => h, fun _ => rfl, hI.2.2.2⟩
theorem I27.first (h : lst.getD 11 false = false) (hI : I27 B w0 q d s R2 lst V) : lst.getD 24 false = false ∧ RdS RdT B w0 V q d ⟨shortL s.size ++ strL s ++ (strL s ++ R2), false⟩ := by
  unfold I27 at hI
  have h24 : lst.getD 24 false = false := by
    cases h2 : lst.getD 24 false with
    | false => rfl
    | true => have := hI.1 (hI.2.1 (hI.2.2.1 h2)); rw [h] at this; cases this
  rw [h24, h] at hI
  exact ⟨h24, by simpa using hI.2.2.2⟩
theorem I27.at11 (hs : 11 < lst.size) (h24 : lst.getD 24 false = false) (hI : I27 B w0 q d s R2 lst V) (h : RdS RdT B w0 V' q d ⟨strL s ++ R2, false⟩) : I27 B w0 q d s R2 (lst.setIfInBounds 11 true) V' := by
  unfold I27 at *
  rw [getD_set_ne false (show 11 ≠ 24 by decide), getD_set_same hs, getD_set_ne false (show 11 ≠ 17 by decide), getD_set_ne false (show 11 ≠ 16 by decide), h24]
  exact ⟨fun _ => rfl, hI.2.1, (fun h => by cases h), h⟩
theorem I27.second (h : lst.getD 17 false = true) (h24 : lst.getD 24 false = false) (hI : I27 B w0 q d s R2 lst V) : RdS RdT B w0 V q d ⟨strL s ++ R2, false⟩ := by
  unfold I27 at hI
  have h11 := hI.1 (hI.2.1 h)
  rw [h24, h11] at hI
  simpa using hI.2.2.2
theorem I27.at24 (hs : 24 < lst.size) (h : lst.getD 17 false = true) (hI : I27 B w0 q d s R2 lst V) (hn : RdS RdT B w0 V' q d ⟨R2, false⟩) : I27 B w0 q d s R2 (lst.setIfInBounds 24 true) V' := by
  unfold I27 at *
  rw [getD_set_ne false (show 24 ≠ 11 by decide), getD_set_same hs, getD_set_ne false (show 24 ≠ 17 by decide), getD_set_ne false (show 24 ≠ 16 by decide)]
  exact ⟨hI.1, hI.2.1, fun _ => h, hn⟩
theorem I27.cell {b o : Nat} (hI : I27 B w0 q d s R2 lst V) (hb : b < B) : V.cell? ⟨b, o, none⟩ = w0.cell? ⟨b, o, none⟩ := by unfold I27 at hI; exact hI.2.2.2.below.cell (p := ⟨b, o, none⟩) hb
end
def T25 (q p1 p2 n0 c0 b off j x : Nat) (BW : List UInt8) (i : Nat) (w : World) (v : Value) : Prop :=
  match i with
  | 0 => v = .pointer (some ⟨p2, 0, none⟩)
  | 1 => BytesQ q BW w v
  | 2 => v = Value.string ⟨BW.toArray⟩
  | 3 => v = .pointer (some ⟨p1, 0, none⟩)
  | 4 => BytesQ q BW w v
  | 5 => v = Value.string ⟨BW.toArray⟩
  | 6 => v = .bool false
  | 7 => v = .bool false
  | 8 => v = .pointer (some ⟨q, 0, none⟩)
  | 9 => v = .int .u64 (x : Int)
  | 10 => v = .slice (some ⟨b, off, none⟩) n0 c0
  | 11 => v = .int .i64 (j : Int)
  | 12 => v = .pointer (some ⟨b, off + j, none⟩)
  | 13 => v = .int .u64 (x : Int)
  | 14 => v = .bool false
  | _ => v = .bool false
theorem T25.mono {q p1 p2 n0 c0 b off j x : Nat} {BW : List UInt8} {i : Nat} {v : Value} {w w' : World} (hb : Only (fun k => k = q) w w') (h : T25 q p1 p2 n0 c0 b off j x BW i w v) : T25 q p1 p2 n0 c0 b off j x BW i w' v := by
  unfold T25 at *
  split at h <;> first | exact h | exact BytesQ.mono hb h
def T27 (q n1 c1 b off j : Nat) (s : ByteArray) (i : Nat) (w : World) (v : Value) : Prop :=
  match i with
  | 0 => v = .int .i64 (j : Int)
  | 1 => v = .slice (some ⟨b, off, none⟩) n1 c1
  | 2 => v = .int .i64 (n1 : Int)
  | 3 => v = .bool true
  | 4 => v = .bool true
  | 5 => v = .pointer (some ⟨q, 0, none⟩)
  | 6 => v = .slice (some ⟨b, off, none⟩) n1 c1
  | 7 => v = .int .i64 (j : Int)
  | 8 => v = .pointer (some ⟨b, off + j, none⟩)
  | 9 => v = Value.string s
  | 10 => v = .int .i64 (s.size : Int)
  | 11 => v = Value.string s
  | 12 => v = .slice (some ⟨b, off, none⟩) n1 c1
  | 13 => v = .int .i64 (j : Int)
  | 14 => v = .pointer (some ⟨b, off + j, none⟩)
  | 15 => v = Value.string s
  | 16 => v = .bool false
  | 17 => v = .bool false
  | 18 => v = .pointer (some ⟨q, 0, none⟩)
  | 19 => v = .slice (some ⟨b, off, none⟩) n1 c1
  | 20 => v = .int .i64 (j : Int)
  | 21 => v = .pointer (some ⟨b, off + j, none⟩)
  | 22 => v = Value.string s
  | 23 => v = .int .i64 (s.size : Int)
  | 24 => BytesQ q (strL s) w v
  | 25 => v = Value.string s
  | 26 => v = .slice (some ⟨b, off, none⟩) n1 c1
  | 27 => v = .int .i64 (j : Int)
  | 28 => v = .pointer (some ⟨b, off + j, none⟩)
  | 29 => v = Value.string s
  | 30 => v = .bool false
  | 31 => v = .bool false
  | _ => v = .bool false
theorem T27.mono {q n1 c1 b off j : Nat} {s : ByteArray} {i : Nat} {v : Value} {w w' : World} (hb : Only (fun k => k = q) w w') (h : T27 q n1 c1 b off j s i w v) : T27 q n1 c1 b off j s i w' v := by
  unfold T27 at *
  split at h <;> first | exact h | exact BytesQ.mono hb h
def T27N (n1 c1 j : Nat) (A1 : Option Addr) (i : Nat) (_ : World) (v : Value) : Prop :=
  match i with
  | 0 => v = .int .i64 (j : Int)
  | 1 => v = .slice A1 n1 c1
  | 2 => v = .int .i64 (n1 : Int)
  | 3 => v = .bool false
  | 4 => v = .bool false
  | 5 => v = undef
  | 6 => v = undef
  | 7 => v = undef
  | 8 => v = undef
  | 9 => v = undef
  | 10 => v = undef
  | 11 => v = undef
  | 12 => v = undef
  | 13 => v = undef
  | 14 => v = undef
  | 15 => v = undef
  | 16 => v = undef
  | 17 => v = undef
  | 18 => v = undef
  | 19 => v = undef
  | 20 => v = undef
  | 21 => v = undef
  | 22 => v = undef
  | 23 => v = undef
  | 24 => v = undef
  | 25 => v = undef
  | 26 => v = undef
  | 27 => v = undef
  | 28 => v = undef
  | 29 => v = undef
  | 30 => v = undef
  | 31 => v = undef
  | _ => v = .bool false
theorem and3_nat (k : Nat) : bits .and .i64 (k : Int) 3 = ((k % 4 : Nat) : Int) := by rw [i64_and3]; omega
set_option maxRecDepth 100000 in
set_option maxHeartbeats 4000000 in
theorem travels_walk (A0 A1 : Option Addr) (l : List Nat) (ts : List ByteArray) (c0 c1 : Nat) (w : World) (hl : Nums w w.heap.size A0 l) (ht : StrsIn w A1 ts) (hu : AllU64 l) :
    Calls Try.prog 8 #[.slice A0 l.length c0, .slice A1 ts.length c1] w fun e w' => e = .returned (.bool true) ∧ Hid (Below w.heap.size w w') := by
  have HL := Lib.hid hl
  have HS := Lib.hid ht
  have HU := Lib.hid hu
  clear hl ht hu
  generalize hn0 : l.length = n0 at *
  generalize hn1 : ts.length = n1 at *
  have HN0 := Lib.hid hn0
  have HN1 := Lib.hid hn1
  clear hn0 hn1
  go_enter Try.func8, Try.ntmps8
  by_cases hb0 : 1000 < n0
  · have hb0' : (1000 : Int) < (n0 : Int) := by omega
    go_wp2_with fail
    refine (awake_any w).mono ?_
    rintro e W1 ⟨rfl, hb⟩
    go_wp2
    go_ret
    exact ⟨rfl, hb⟩
  · have hb0' : ¬ (1000 : Int) < (n0 : Int) := by omega
    by_cases hb1 : 1000 < n1
    · have hb1' : (1000 : Int) < (n1 : Int) := by omega
      go_wp2_with fail
      refine (awake_any w).mono ?_
      rintro e W1 ⟨rfl, hb⟩
      go_wp2
      go_ret
      exact ⟨rfl, hb⟩
    · have hb1' : ¬ (1000 : Int) < (n1 : Int) := by omega
      go_wp2_with fail
      refine (new_at (Below.refl w.heap.size w) (Nat.le_refl _)).mono ?_
      rintro e W1 ⟨p, rfl, o1, _, _⟩
      clear hb0' hb1'
      go_wp2_with fail
      go_loopw [6] (fun i wr => TravRel w p l ts n0 n1 i wr) (fun i _ => max n0 n1 - (intOf i).toNat)
      case atStart => exact ⟨0, none, Nat.zero_le _, rfl, o1, Lib.hid (by simp [partsF]), Lib.hid (fun j hj => absurd hj (Nat.not_lt_zero _))⟩
      case round =>
        obtain ⟨k, g, hk, rfl, hW, hLe, hSz⟩ := hrel
        have hLen := hLe.out
        have k0 : (0 : Int) ≤ (k : Int) := by omega
        have HPs := Lib.hid (show partsF l ts 0 (k + 1) = partsF l ts 0 k ++ partN l k ++ partT ts k by rw [partsF_snoc, Nat.zero_add, part, ← List.append_assoc])
        have HPl := Lib.hid (show (k < n1 → (ts.getD k ByteArray.empty).size ≤ 10000) → (partN l k ++ partT ts k).length ≤ 30000 from fun h => part_len l ts k HU.out (by rw [HN1.out]; exact h))
        have HSn := Lib.hid (show (k < n1 → (ts.getD k ByteArray.empty).size ≤ 10000) → ∀ j, j < k + 1 → j < n1 → (ts.getD j ByteArray.empty).size ≤ 10000 from fun h j hj hj1 => by
          by_cases e : j = k
          · subst e; exact h hj1
          · exact hSz.out j (by omega) hj1)
        generalize hLd : partsF l ts 0 k = L at *
        have HLd := Lib.hid hLd
        clear hLe hLd
        by_cases hlt0 : k < n0
        · have g0 : (k : Int) < (n0 : Int) := by omega
          obtain ⟨b, off, rfl, hbB, hc⟩ := HL.out (by rw [HN0.out]; omega)
          have hcell0 := hc k (by rw [HN0.out]; exact hlt0)
          have HP := Lib.hid (show partN l k = wideL (l.getD k 0) (2 ^ (k % 4)) ++ shortL (l.getD k 0) from if_pos (by rw [HN0.out]; exact hlt0))
          have hx64 := HU.out (l.getD k 0) (by rw [show l.getD k 0 = l[k]'(by rw [HN0.out]; exact hlt0) by simp [List.getD, HN0.out, hlt0]]; exact List.getElem_mem _)
          have ea := and3_nat k
          have hk4 : k % 4 < 4 := Nat.mod_lt _ (by decide)
          have hcell := (hW.out.below.cell (p := ⟨b, off + k, none⟩) hbB).trans hcell0
          have hw8 : 2 ^ (k % 4) ≤ 8 := by
            have : k % 4 = 0 ∨ k % 4 = 1 ∨ k % 4 = 2 ∨ k % 4 = 3 := by omega
            rcases this with e | e | e | e <;> rw [e] <;> decide
          clear hc
          generalize l.getD k 0 = x at *
          generalize k % 4 = s at *
          go_wp2_with fail
          refine (putw_at hW.out x s hk4 (by omega)).mono ?_
          rintro e V1 ⟨rfl, g1, o1, _, _⟩
          have hcell1 := (o1.out.below.cell (p := ⟨b, off + k, none⟩) hbB).trans hcell0
          clear hcell hW ea
          go_wp2_with fail
          refine (uint_at o1.out x hx64 (by rw [List.length_append, wideL_length]; omega)).mono ?_
          rintro e V2 ⟨rfl, g2, o2, _, _⟩
          have hW : Hid (WS w.heap.size w V2 p g2 (L ++ partN l k)) := Lib.hid (by rw [HP.out, ← List.append_assoc]; exact o2.out)
          have HNl := Lib.hid (show (partN l k).length ≤ 20 by
            rw [HP.out, List.length_append, wideL_length]
            have := shortL_ten hx64
            omega)
          clear hcell1 o1 o2 HP hx64 hw8 hk4
          by_cases hlt1 : k < n1
          · have g1 : (k : Int) < (n1 : Int) := by omega
            obtain ⟨b, off, rfl, hbB, hc⟩ := HS.out (by rw [HN1.out]; omega)
            have hcell0 := hc k (by rw [HN1.out]; exact hlt1)
            have HP := Lib.hid (show partT ts k = textL (ts.getD k ByteArray.empty) from if_pos (by rw [HN1.out]; exact hlt1))
            have hcell := (hW.out.below.cell (p := ⟨b, off + k, none⟩) hbB).trans hcell0
            clear hc
            generalize ts.getD k ByteArray.empty = s at *
            by_cases hlong : 10000 < s.size
            · have hlong' : (10000 : Int) < (s.size : Int) := by omega
              go_wp2_with fail
              refine (awake_any _).mono ?_
              rintro e V8 ⟨rfl, hb⟩
              go_wp2
              go_ret
              exact ⟨rfl, Lib.hid (hW.out.below.trans (hb.out.mono hW.out.size))⟩
            · have hlong' : ¬ (10000 : Int) < (s.size : Int) := by omega
              have hLT : (L ++ partN l k).length ≤ 31000000 := by
                have := HNl.out
                rw [List.length_append]
                omega
              go_wp2_with fail
              refine (text_at hW.out s (by omega) (by omega)).mono ?_
              rintro e V5 ⟨rfl, g5, o5, _, _⟩
              have hcell5 := (o5.out.below.cell (p := ⟨b, off + k, none⟩) hbB).trans hcell0
              obtain ⟨V6, cap, C, hb6, ho6, hfr⟩ := conv_bytes2 s V5
              have o6 := Lib.hid (o5.out.otherW (S := fun _ => False) ho6.out (fun _ h => h.elim) (fun h => h) (fun _ _ h => h))
              have HSz5 := Lib.hid o5.out.size
              clear hcell hW o5
              go_wp2_with fail
              refine (raw_at o6.out (some ⟨V5.heap.size, 0, none⟩) (strL s) s.size cap V6.heap.size rfl (fun h => by cases h) hb6.out (by omega) (by have h1 := hLT; have h2 := shortL_ten (x := s.size) (by omega); have h3 : (strL s).length = s.size := rfl; simp only [List.length_append] at h1 ⊢; omega)).mono ?_
              rintro e V7 ⟨rfl, g7, o7, _, _⟩
              have hrl := HPl.out (fun _ => by omega)
              have o8 : Hid (WS w.heap.size w V7 p g7 (partsF l ts 0 (k + 1))) := Lib.hid (by rw [HPs.out, HP.out]; unfold textL; simpa only [List.append_assoc] using o7.out)
              clear hcell5 o6 o7 C hb6 ho6 hfr
              go_wp2
              go_roundw
              case rel => exact ⟨k + 1, g7, by omega, by go_num, o8, Lib.hid (by rw [HPs.out, List.append_assoc, List.length_append]; omega), Lib.hid (HSn.out (fun _ => by omega))⟩
              case measure => simp [intOf]; omega
          · have g1 : ¬ (k : Int) < (n1 : Int) := by omega
            have HP := Lib.hid (show partT ts k = [] from if_neg (by rw [HN1.out]; exact hlt1))
            have hrl := HPl.out (fun h => absurd h hlt1)
            have o8 : Hid (WS w.heap.size w V2 p g2 (partsF l ts 0 (k + 1))) := Lib.hid (by rw [HPs.out, HP.out, List.append_nil]; exact hW.out)
            go_wp2
            go_roundw
            case rel => exact ⟨k + 1, g2, by omega, by go_num, o8, Lib.hid (by rw [HPs.out, List.append_assoc, List.length_append]; omega), Lib.hid (HSn.out (fun h => absurd h hlt1))⟩
            case measure => simp [intOf]; omega
        · have g0 : ¬ (k : Int) < (n0 : Int) := by omega
          by_cases hlt1 : k < n1
          · have HP := Lib.hid (show partN l k = [] from if_neg (by rw [HN0.out]; exact hlt0))
            have hW : Hid (WS w.heap.size w wr p g (L ++ partN l k)) := Lib.hid (by rw [HP.out, List.append_nil]; exact hW.out)
            have HNl := Lib.hid (show (partN l k).length ≤ 20 by rw [HP.out]; simp)
            clear HP
            have g1 : (k : Int) < (n1 : Int) := by omega
            obtain ⟨b, off, rfl, hbB, hc⟩ := HS.out (by rw [HN1.out]; omega)
            have hcell0 := hc k (by rw [HN1.out]; exact hlt1)
            have HP := Lib.hid (show partT ts k = textL (ts.getD k ByteArray.empty) from if_pos (by rw [HN1.out]; exact hlt1))
            have hcell := (hW.out.below.cell (p := ⟨b, off + k, none⟩) hbB).trans hcell0
            clear hc
            generalize ts.getD k ByteArray.empty = s at *
            by_cases hlong : 10000 < s.size
            · have hlong' : (10000 : Int) < (s.size : Int) := by omega
              go_wp2_with fail
              refine (awake_any _).mono ?_
              rintro e V8 ⟨rfl, hb⟩
              go_wp2
              go_ret
              exact ⟨rfl, Lib.hid (hW.out.below.trans (hb.out.mono hW.out.size))⟩
            · have hlong' : ¬ (10000 : Int) < (s.size : Int) := by omega
              have hLT : (L ++ partN l k).length ≤ 31000000 := by
                have := HNl.out
                rw [List.length_append]
                omega
              go_wp2_with fail
              refine (text_at hW.out s (by omega) (by omega)).mono ?_
              rintro e V5 ⟨rfl, g5, o5, _, _⟩
              have hcell5 := (o5.out.below.cell (p := ⟨b, off + k, none⟩) hbB).trans hcell0
              obtain ⟨V6, cap, C, hb6, ho6, hfr⟩ := conv_bytes2 s V5
              have o6 := Lib.hid (o5.out.otherW (S := fun _ => False) ho6.out (fun _ h => h.elim) (fun h => h) (fun _ _ h => h))
              have HSz5 := Lib.hid o5.out.size
              clear hcell hW o5
              go_wp2_with fail
              refine (raw_at o6.out (some ⟨V5.heap.size, 0, none⟩) (strL s) s.size cap V6.heap.size rfl (fun h => by cases h) hb6.out (by omega) (by have h1 := hLT; have h2 := shortL_ten (x := s.size) (by omega); have h3 : (strL s).length = s.size := rfl; simp only [List.length_append] at h1 ⊢; omega)).mono ?_
              rintro e V7 ⟨rfl, g7, o7, _, _⟩
              have hrl := HPl.out (fun _ => by omega)
              have o8 : Hid (WS w.heap.size w V7 p g7 (partsF l ts 0 (k + 1))) := Lib.hid (by rw [HPs.out, HP.out]; unfold textL; simpa only [List.append_assoc] using o7.out)
              clear hcell5 o6 o7 C hb6 ho6 hfr
              go_wp2
              go_roundw
              case rel => exact ⟨k + 1, g7, by omega, by go_num, o8, Lib.hid (by rw [HPs.out, List.append_assoc, List.length_append]; omega), Lib.hid (HSn.out (fun _ => by omega))⟩
              case measure => simp [intOf]; omega
          · have g1 : ¬ (k : Int) < (n1 : Int) := by omega
            have hkN : k = max n0 n1 := by omega
            have HSA := Lib.hid (show ∀ j, j < n1 → (ts.getD j ByteArray.empty).size ≤ 10000 from fun j hj => hSz.out j (by omega) hj)
            have HRA := Lib.hid (show L = partsF l ts 0 (max n0 n1) by rw [← HLd.out, hkN])
            have hL3 : L.length ≤ 30000000 := by omega
            clear HPs HPl HSn HLd hSz
            go_wp2_with fail
            refine (bytes_at hW.out (by omega)).mono ?_
            rintro e V1 ⟨A, c, rfl, ho, hb⟩
            have D1 := Lib.hid (hW.out.below.trans (hb.out.mono hW.out.size))
            generalize hln : L.length = ln at *
            have HLN := Lib.hid hln
            clear hb hW hln
            go_wp2_with fail
            refine (newr_at D1.out D1.out.size A L ln c HLN.out ho.out.none_cap ho.out.bytes (by omega)).mono ?_
            rintro e V2 ⟨q, d, rfl, r2, _, _⟩
            clear ho D1 hkN hlt0 hlt1 g0 g1
            go_wp2_with fail
            go_loopw [8] (fun i wr => TravRel2 w q d l ts n0 n1 i wr) (fun i _ => max n0 n1 - (intOf i).toNat)
            case atStart => exact ⟨0, max n0 n1, Nat.zero_add _, rfl, Lib.hid (by rw [← HRA.out]; exact r2.out), Lib.hid (by rw [← HRA.out, HLN.out]; exact hL3)⟩
            case round =>
              clear hk hLen k0 HRA HLN hL3 r2
              obtain ⟨j, m0, hj, rfl, hR, hLe⟩ := hrel
              have j0 : (0 : Int) ≤ (j : Int) := by omega
              have hLm := hLe.out
              by_cases hlt0 : j < n0
              · have g0 : (j : Int) < (n0 : Int) := by omega
                obtain ⟨m, rfl⟩ : ∃ m, m0 = m + 1 := ⟨m0 - 1, by omega⟩
                obtain ⟨b, off, rfl, hbB, hc⟩ := HL.out (by rw [HN0.out]; omega)
                have hcell0 := Lib.hid (hc j (by rw [HN0.out]; exact hlt0))
                have HP := Lib.hid (show partN l j = wideL (l.getD j 0) (2 ^ (j % 4)) ++ shortL (l.getD j 0) from if_pos (by rw [HN0.out]; exact hlt0))
                have hx64 := Lib.hid (HU.out (l.getD j 0) (by rw [show l.getD j 0 = l[j]'(by rw [HN0.out]; exact hlt0) by simp [List.getD, HN0.out, hlt0]]; exact List.getElem_mem _))
                have ea := and3_nat j
                have hs4 : j % 4 < 4 := Nat.mod_lt _ (by decide)
                have hw8 : 2 ^ (j % 4) ≤ 8 := by
                  have : j % 4 = 0 ∨ j % 4 = 1 ∨ j % 4 = 2 ∨ j % 4 = 3 := by omega
                  rcases this with e | e | e | e <;> rw [e] <;> decide
                have hF : partsF l ts j (m + 1) = partN l j ++ (partT ts j ++ partsF l ts (j + 1) m) := by rw [partsF, part, List.append_assoc]
                rw [hF, HP.out, List.append_assoc] at hR
                have HL3 := Lib.hid (show (partsF l ts (j + 1) m).length ≤ 30000000 by rw [hF] at hLm; simp only [List.length_append] at hLm; omega)
                have HLT := Lib.hid (show (partT ts j ++ partsF l ts (j + 1) m).length ≤ 30000000 by rw [hF] at hLm; simp only [List.length_append] at hLm ⊢; omega)
                clear hc hF HP hLe hLm
                generalize hR3 : partsF l ts (j + 1) m = R3 at *
                generalize hR2 : partT ts j ++ R3 = R2 at *
                have HR2 := Lib.hid hR2
                generalize l.getD j 0 = x at *
                generalize j % 4 = s at *
                have HR8 := Lib.hid (show (shortL x ++ R2).length ≤ 70368744177664 by
                  have h1 := HLT.out
                  have h2 := shortL_ten hx64.out
                  simp only [List.length_append]
                  omega)
                have HR9 := Lib.hid (show (wideL x (2 ^ s) ++ (shortL x ++ R2)).length ≤ 70368744177664 by
                  have h1 := HLT.out
                  have h2 := shortL_ten hx64.out
                  simp only [List.length_append, wideL_length]
                  omega)
                clear hR2
                go_wp2_with fail
                refine (asked_wide hR.out hs4 HR9.out).mono ?_
                rintro e V1 ⟨rfl, r1, _⟩
                have HWA := Lib.hid (wideL_again x (2 ^ s))
                generalize x % 2 ^ (8 * 2 ^ s) = xm at *
                clear hR HR9
                go_wp2_with fail
                refine (new_at r1.out.below r1.out.size).mono ?_
                rintro e V2 ⟨p1, rfl, o2, b2, z2⟩
                have r2 := Lib.hid (r1.out.later b2.out)
                have hcell2 := (r2.out.below.cell (p := ⟨b, off + j, none⟩) hbB).trans hcell0.out
                clear r1 b2 z2
                go_wp2_with fail
                refine (putw_at o2.out x s hs4 (by simp)).mono ?_
                rintro e V3 ⟨rfl, g3, o3, n3, f3⟩
                have r3 := Lib.hid (r2.out.over o2.out Ap.none_right f3.out)
                clear hcell2 r2 o2 f3 n3
                go_wp2_with fail
                refine (new_at r3.out.below r3.out.size).mono ?_
                rintro e V4 ⟨p2, rfl, o4, b4, z4⟩
                have r4 := Lib.hid (r3.out.later b4.out)
                have o34 := Lib.hid (o3.out.later b4.out)
                have hpp := Lib.hid (show p1 ≠ p2 by have h1 := o3.out.wr.lt; have h2 := z4.out; omega)
                clear r3 b4 z4 o3
                go_wp2_with fail
                refine (putw_at o4.out xm s hs4 (by simp)).mono ?_
                rintro e V5 ⟨rfl, g5, o5, n5, f5⟩
                have r5 := Lib.hid (r4.out.over o4.out Ap.none_right f5.out)
                have o3 := Lib.hid (o34.out.beside o4.out hpp.out (fun _ _ => by simp) f5.out)
                rw [List.nil_append, HWA.out] at o5
                rw [List.nil_append] at o3
                have HB8 := Lib.hid (show (wideL x (2 ^ s)).length ≤ 35184372088832 by rw [wideL_length]; omega)
                generalize wideL x (2 ^ s) = BW at *
                clear o34 o4 n5 f5 r4 hpp HWA hw8 ea hs4
                go_wp2_with fail
                refine region_steps2 (n := 179) (fun a b => Only (fun k => k = q) a b) (I25 w.heap.size w q d x R2) (T25 q p1 p2 n0 c0 b off j x BW) (by kernel_rfl) (by kernel_rfl) rfl (fun _ => Only.refl _ _) (fun _ _ _ h1 h2 => h1.trans h2 fun _ _ h => h) (by unfold I25; rw [if_neg (by simp)]; exact RdS.drew' r5.out) (fun _ _ _ _ hb h => T25.mono hb h) ?_ ?_
                · refine And.intro ?_ (And.intro ?_ (And.intro ?_ (And.intro ?_ (And.intro ?_ (And.intro ?_ (And.intro ?_ (And.intro ?_ (And.intro ?_ (And.intro ?_ (And.intro ?_ (And.intro ?_ (And.intro ?_ (And.intro ?_ (And.intro ?_ (And.intro ?_ (True.intro))))))))))))))))
                  · intro listed a' w' hw hl hd K hK
                    refine step_free rfl ?_
                    apply wp_move
                    exact hK _ _ (Only.refl _ _) (I25.same (i := 0) (by decide) hw.inv) (fun s hs => by cases hs; exact hw.kept 12 (by kernel_rfl))
                  · intro listed a' w' hw hl hd K hK
                    have hv119 : a'.tmps.getD 119 undef = .pointer (some ⟨p2, 0, none⟩) := (hw.at_ 0 119 rfl (hd ⟨0, .data⟩ (by simp) rfl))
                    refine step_free rfl ?_
                    have hO := Lib.hid (o5.out.overR r5.out (Only.drew_left hw.held))
                    unfold Oper.wp
                    simp only [execOp]
                    go_simp
                    refine (bytes_at hO.out HB8.out).mono ?_
                    rintro e w2 ⟨A2, c2, rfl, ho2, hb2⟩
                    exact hK _ _ (Only.ofBelow hb2.out) ((I25.same (by decide) hw.inv).later hb2.out) (fun s hs => by cases hs; exact ⟨A2, c2, rfl, ho2.out.bytes, fun e => by have h1 := (ho2.out.lt e).1; have h2 := RdS.ltq hw.inv; omega⟩)
                  · intro listed a' w' hw hl hd K hK
                    have hv120 : BytesQ q BW w' (a'.tmps.getD 120 undef) := (hw.at_ 1 120 rfl (hd ⟨1, .data⟩ (by simp) rfl))
                    refine step_free rfl ?_
                    obtain ⟨A2, c2, hv, hb2, _⟩ := hv120
                    have C := conv_str c2 hb2 rfl
                    unfold Oper.wp
                    simp only [execOp]
                    go_simp
                    exact hK _ _ (Only.refl _ _) (I25.same (by decide) hw.inv) (fun s hs => by cases hs; rfl)
                  · intro listed a' w' hw hl hd K hK
                    refine step_free rfl ?_
                    apply wp_move
                    exact hK _ _ (Only.refl _ _) (I25.same (i := 3) (by decide) hw.inv) (fun s hs => by cases hs; exact hw.kept 11 (by kernel_rfl))
                  · intro listed a' w' hw hl hd K hK
                    have hv122 : a'.tmps.getD 122 undef = .pointer (some ⟨p1, 0, none⟩) := (hw.at_ 3 122 rfl (hd ⟨3, .data⟩ (by simp) rfl))
                    refine step_free rfl ?_
                    have hO := Lib.hid (o3.out.overR r5.out (Only.drew_left hw.held))
                    unfold Oper.wp
                    simp only [execOp]
                    go_simp
                    refine (bytes_at hO.out HB8.out).mono ?_
                    rintro e w2 ⟨A2, c2, rfl, ho2, hb2⟩
                    exact hK _ _ (Only.ofBelow hb2.out) ((I25.same (by decide) hw.inv).later hb2.out) (fun s hs => by cases hs; exact ⟨A2, c2, rfl, ho2.out.bytes, fun e => by have h1 := (ho2.out.lt e).1; have h2 := RdS.ltq hw.inv; omega⟩)
                  · intro listed a' w' hw hl hd K hK
                    have hv123 : BytesQ q BW w' (a'.tmps.getD 123 undef) := (hw.at_ 4 123 rfl (hd ⟨4, .data⟩ (by simp) rfl))
                    refine step_free rfl ?_
                    obtain ⟨A2, c2, hv, hb2, _⟩ := hv123
                    have C := conv_str c2 hb2 rfl
                    unfold Oper.wp
                    simp only [execOp]
                    go_simp
                    exact hK _ _ (Only.refl _ _) (I25.same (by decide) hw.inv) (fun s hs => by cases hs; rfl)
                  · intro listed a' w' hw hl hd K hK
                    have hv121 : a'.tmps.getD 121 undef = Value.string ⟨BW.toArray⟩ := (hw.at_ 2 121 rfl (hd ⟨2, .data⟩ (by simp) rfl))
                    have hv124 : a'.tmps.getD 124 undef = Value.string ⟨BW.toArray⟩ := (hw.at_ 5 124 rfl (hd ⟨5, .data⟩ (by simp) rfl))
                    refine step_free rfl ?_
                    unfold Oper.wp
                    simp only [execOp]
                    go_simp
                    exact hK _ _ (Only.refl _ _) (I25.same (i := 6) (by decide) hw.inv) (fun s hs => by cases hs; rfl)
                  · intro listed a' w' hw hl hd K hK
                    refine step_free rfl ?_
                    apply wp_move
                    exact hK _ _ (Only.refl _ _) (I25.same (i := 7) (by decide) hw.inv) (fun s hs => by cases hs; exact (hw.at_ 6 125 rfl (hd ⟨6, .data⟩ (by simp) rfl)))
                  · intro listed a' w' hw hl hd K hK
                    have hgd : a'.tmps.getD 126 undef = .bool false := (hw.at_ 7 126 rfl (hd ⟨7, .guard⟩ (by simp) rfl))
                    refine step_guarded (j := 7) (b := false) (s := 126) rfl rfl (by rw [hw.size]; exact Nat.lt_of_lt_of_eq (show 126 < 179 by omega) rfl) hgd ?_
                    apply wp_move
                    exact hK _ _ (Only.refl _ _) (I25.same (i := 8) (by decide) hw.inv) (fun s hs => by cases hs; exact hw.kept 7 (by kernel_rfl))
                  · intro listed a' w' hw hl hd K hK
                    have hgd : a'.tmps.getD 126 undef = .bool false := (hw.at_ 7 126 rfl (hd ⟨7, .guard⟩ (by simp) rfl))
                    have hv127 : a'.tmps.getD 127 undef = .pointer (some ⟨q, 0, none⟩) := (hw.at_ 8 127 rfl (hd ⟨8, .data⟩ (by simp) rfl))
                    refine step_guarded (j := 7) (b := false) (s := 126) rfl rfl (by rw [hw.size]; exact Nat.lt_of_lt_of_eq (show 126 < 179 by omega) rfl) hgd ?_
                    unfold Oper.wp
                    simp only [execOp]
                    go_simp
                    have hI := hw.inv
                    unfold I25 at hI
                    rw [hl, if_neg (by simp)] at hI
                    refine (uint_any q d ⟨shortL x ++ R2, false⟩ w' hI.rd HR8.out).mono ?_
                    rw [rUint_put hx64.out]
                    rintro e w2 ⟨rfl, h1, h2⟩
                    exact hK _ _ h2.out (by unfold I25; rw [getD_set_same (by rw [hw.lsize]; exact Nat.lt_of_lt_of_eq (show 9 < 16 by omega) rfl), if_pos rfl]; exact hI.step h1 h2) (fun s hs => by cases hs; rfl)
                  · intro listed a' w' hw hl hd K hK
                    have hgd : a'.tmps.getD 126 undef = .bool false := (hw.at_ 7 126 rfl (hd ⟨7, .guard⟩ (by simp) rfl))
                    refine step_guarded (j := 7) (b := false) (s := 126) rfl rfl (by rw [hw.size]; exact Nat.lt_of_lt_of_eq (show 126 < 179 by omega) rfl) hgd ?_
                    apply wp_move
                    exact hK _ _ (Only.refl _ _) (I25.same (i := 10) (by decide) hw.inv) (fun s hs => by cases hs; exact hw.kept 0 (by kernel_rfl))
                  · intro listed a' w' hw hl hd K hK
                    have hgd : a'.tmps.getD 126 undef = .bool false := (hw.at_ 7 126 rfl (hd ⟨7, .guard⟩ (by simp) rfl))
                    refine step_guarded (j := 7) (b := false) (s := 126) rfl rfl (by rw [hw.size]; exact Nat.lt_of_lt_of_eq (show 126 < 179 by omega) rfl) hgd ?_
                    apply wp_move
                    exact hK _ _ (Only.refl _ _) (I25.same (i := 11) (by decide) hw.inv) (fun s hs => by cases hs; exact hw.kept 8 (by kernel_rfl))
                  · intro listed a' w' hw hl hd K hK
                    have hgd : a'.tmps.getD 126 undef = .bool false := (hw.at_ 7 126 rfl (hd ⟨7, .guard⟩ (by simp) rfl))
                    have hv129 : a'.tmps.getD 129 undef = .slice (some ⟨b, off, none⟩) n0 c0 := (hw.at_ 10 129 rfl (hd ⟨10, .data⟩ (by simp) rfl))
                    have hv130 : a'.tmps.getD 130 undef = .int .i64 (j : Int) := (hw.at_ 11 130 rfl (hd ⟨11, .data⟩ (by simp) rfl))
                    refine step_guarded (j := 7) (b := false) (s := 126) rfl rfl (by rw [hw.size]; exact Nat.lt_of_lt_of_eq (show 126 < 179 by omega) rfl) hgd ?_
                    unfold Oper.wp
                    simp only [execOp]
                    go_simp
                    exact hK _ _ (Only.refl _ _) (I25.same (i := 12) (by decide) hw.inv) (fun s hs => by cases hs; rfl)
                  · intro listed a' w' hw hl hd K hK
                    have hgd : a'.tmps.getD 126 undef = .bool false := (hw.at_ 7 126 rfl (hd ⟨7, .guard⟩ (by simp) rfl))
                    have hv131 : a'.tmps.getD 131 undef = .pointer (some ⟨b, off + j, none⟩) := (hw.at_ 12 131 rfl (hd ⟨12, .data⟩ (by simp) rfl))
                    have hcl := (hw.inv.cell hbB).trans hcell0.out
                    refine step_guarded (j := 7) (b := false) (s := 126) rfl rfl (by rw [hw.size]; exact Nat.lt_of_lt_of_eq (show 126 < 179 by omega) rfl) hgd ?_
                    unfold Oper.wp
                    simp only [execOp]
                    go_simp
                    exact hK _ _ (Only.refl _ _) (I25.same (i := 13) (by decide) hw.inv) (fun s hs => by cases hs; rfl)
                  · intro listed a' w' hw hl hd K hK
                    have hgd : a'.tmps.getD 126 undef = .bool false := (hw.at_ 7 126 rfl (hd ⟨7, .guard⟩ (by simp) rfl))
                    have hv128 : a'.tmps.getD 128 undef = .int .u64 (x : Int) := (hw.at_ 9 128 rfl (hd ⟨9, .data⟩ (by simp) rfl))
                    have hv132 : a'.tmps.getD 132 undef = .int .u64 (x : Int) := (hw.at_ 13 132 rfl (hd ⟨13, .data⟩ (by simp) rfl))
                    refine step_guarded (j := 7) (b := false) (s := 126) rfl rfl (by rw [hw.size]; exact Nat.lt_of_lt_of_eq (show 126 < 179 by omega) rfl) hgd ?_
                    unfold Oper.wp
                    simp only [execOp]
                    go_simp
                    exact hK _ _ (Only.refl _ _) (I25.same (i := 14) (by decide) hw.inv) (fun s hs => by cases hs; rfl)
                  · intro listed a' w' hw hl hd K hK
                    have hv126 : a'.tmps.getD 126 undef = .bool false := (hw.at_ 7 126 rfl (hd ⟨7, .data⟩ (by simp) rfl))
                    have hv133 : a'.tmps.getD 133 undef = .bool false := (hw.at_ 14 133 rfl (hd ⟨14, .data⟩ (by simp) rfl))
                    refine step_free rfl ?_
                    unfold Oper.wp
                    simp only [execOp]
                    go_simp
                    exact hK _ _ (Only.refl _ _) (I25.same (i := 15) (by decide) hw.inv) (fun s hs => by cases hs; rfl)
                · intro listed a' w' hw hall
                  have hk134 : a'.tmps.getD 134 undef = .bool false := hw.at_ 15 134 rfl (hall 15 (Nat.lt_of_lt_of_eq (show 15 < 16 by omega) rfl))
                  have hR : Hid (RdS RdT w.heap.size w w' q d ⟨R2, false⟩) := Lib.hid (by have h := hw.inv; unfold I25 at h; rw [hall 9 (Nat.lt_of_lt_of_eq (show 9 < 16 by omega) rfl), if_pos rfl] at h; exact h)
                  have hp := hw.puts [119, 120, 121, 122, 123, 124, 125, 126, 127, 128, 129, 130, 131, 132, 133, 134] (by kernel_rfl)
                  clear hw hall
                  rw [hp]
                  simp only [List.foldl_cons, List.foldl_nil, hk134]
                  generalize a'.tmps.getD 119 undef = u119
                  generalize a'.tmps.getD 120 undef = u120
                  generalize a'.tmps.getD 121 undef = u121
                  generalize a'.tmps.getD 122 undef = u122
                  generalize a'.tmps.getD 123 undef = u123
                  generalize a'.tmps.getD 124 undef = u124
                  generalize a'.tmps.getD 125 undef = u125
                  generalize a'.tmps.getD 126 undef = u126
                  generalize a'.tmps.getD 127 undef = u127
                  generalize a'.tmps.getD 128 undef = u128
                  generalize a'.tmps.getD 129 undef = u129
                  generalize a'.tmps.getD 130 undef = u130
                  generalize a'.tmps.getD 131 undef = u131
                  generalize a'.tmps.getD 132 undef = u132
                  generalize a'.tmps.getD 133 undef = u133
                  clear hp hk134
                  simp only [Act.put, List.setIfInBounds_toArray, List.set_cons_succ, List.set_cons_zero]
                  clear r5 o3 o5 HB8 HR8 hcell0 hx64
                  have hR : Hid (RdS RdT w.heap.size w w' q d ⟨partT ts j ++ R3, false⟩) := Lib.hid (by rw [HR2.out]; exact hR.out)
                  clear HR2 HLT
                  have HL3 : Hid ((partsF l ts (j + 1) m).length ≤ 30000000) := Lib.hid (by rw [hR3]; exact HL3.out)
                  have HR3 := Lib.hid hR3
                  rw [HR3.out] at HL3
                  clear hR3
                  by_cases hlt1 : j < n1
                  · have g1 : (j : Int) < (n1 : Int) := by omega
                    obtain ⟨b, off, rfl, hbB, hc⟩ := HS.out (by rw [HN1.out]; omega)
                    have hcell0 := Lib.hid (hc j (by rw [HN1.out]; exact hlt1))
                    have hs10 := HSA.out j hlt1
                    have HPT := Lib.hid (show partT ts j = textL (ts.getD j ByteArray.empty) from if_pos (by rw [HN1.out]; exact hlt1))
                    clear hc
                    generalize ts.getD j ByteArray.empty = s at *
                    have hs64 := Lib.hid hs10
                    have hRT : Hid (RdS RdT w.heap.size w w' q d ⟨shortL s.size ++ strL s ++ (strL s ++ R3), false⟩) := Lib.hid (by have h := hR.out; rw [HPT.out] at h; unfold textL at h; simpa only [List.append_assoc] using h)
                    have HTX := Lib.hid (show rText ⟨shortL s.size ++ strL s ++ (strL s ++ R3), false⟩ (s.size : Int) = (strL s, ⟨strL s ++ R3, false⟩) from rText_put (strL s) (strL s ++ R3) (by show s.size < _; omega))
                    have HRX := Lib.hid (show rRaw ⟨strL s ++ R3, false⟩ (s.size : Int) = (strL s, ⟨R3, false⟩) from rRaw_put (strL s) R3)
                    have HR8 := Lib.hid (show (shortL s.size ++ strL s ++ (strL s ++ R3)).length ≤ 70368744177664 by
                      have h1 := HL3.out
                      have h2 := shortL_ten (x := s.size) (by omega)
                      have h3 : (strL s).length = s.size := rfl
                      simp only [List.length_append]
                      omega)
                    clear hR HPT
                    go_wp2_with fail
                    refine region_steps2 (n := 179) (fun a b => Only (fun k => k = q) a b) (I27 w.heap.size w q d s R3) (T27 q n1 c1 b off j s) (by kernel_rfl) (by kernel_rfl) rfl (fun _ => Only.refl _ _) (fun _ _ _ h1 h2 => h1.trans h2 fun _ _ h => h) (by unfold I27; simp; exact RdS.drew' (by simpa using hRT.out)) (fun _ _ _ _ hb h => T27.mono hb h) ?_ ?_
                    · refine And.intro ?_ (And.intro ?_ (And.intro ?_ (And.intro ?_ (And.intro ?_ (And.intro ?_ (And.intro ?_ (And.intro ?_ (And.intro ?_ (And.intro ?_ (And.intro ?_ (And.intro ?_ (And.intro ?_ (And.intro ?_ (And.intro ?_ (And.intro ?_ (And.intro ?_ (And.intro ?_ (And.intro ?_ (And.intro ?_ (And.intro ?_ (And.intro ?_ (And.intro ?_ (And.intro ?_ (And.intro ?_ (And.intro ?_ (And.intro ?_ (And.intro ?_ (And.intro ?_ (And.intro ?_ (And.intro ?_ (And.intro ?_ (And.intro ?_ (True.intro)))))))))))))))))))))))))))))))))
                      · intro listed a' w' hw hl hd K hK
                        refine step_free rfl ?_
                        apply wp_move
                        exact hK _ _ (Only.refl _ _) (I27.same (by decide) hw.inv) (fun s hs => by cases hs; exact hw.kept 8 (by kernel_rfl))
                      · intro listed a' w' hw hl hd K hK
                        refine step_free rfl ?_
                        apply wp_move
                        exact hK _ _ (Only.refl _ _) (I27.same (by decide) hw.inv) (fun s hs => by cases hs; exact hw.kept 1 (by kernel_rfl))
                      · intro listed a' w' hw hl hd K hK
                        have hv136 : a'.tmps.getD 136 undef = .slice (some ⟨b, off, none⟩) n1 c1 := (hw.at_ 1 136 rfl (hd ⟨1, .data⟩ (by simp) rfl))
                        refine step_free rfl ?_
                        unfold Oper.wp
                        simp only [execOp]
                        go_simp
                        exact hK _ _ (Only.refl _ _) (I27.same (by decide) hw.inv) (fun s hs => by cases hs; rfl)
                      · intro listed a' w' hw hl hd K hK
                        have hv135 : a'.tmps.getD 135 undef = .int .i64 (j : Int) := (hw.at_ 0 135 rfl (hd ⟨0, .data⟩ (by simp) rfl))
                        have hv137 : a'.tmps.getD 137 undef = .int .i64 (n1 : Int) := (hw.at_ 2 137 rfl (hd ⟨2, .data⟩ (by simp) rfl))
                        refine step_free rfl ?_
                        unfold Oper.wp
                        simp only [execOp]
                        go_simp
                        exact hK _ _ (Only.refl _ _) (I27.same (by decide) hw.inv) (fun s hs => by cases hs; rfl)
                      · intro listed a' w' hw hl hd K hK
                        refine step_free rfl ?_
                        apply wp_move
                        exact hK _ _ (Only.refl _ _) (I27.same (by decide) hw.inv) (fun s hs => by cases hs; exact (hw.at_ 3 138 rfl (hd ⟨3, .data⟩ (by simp) rfl)))
                      · intro listed a' w' hw hl hd K hK
                        have hgd : a'.tmps.getD 139 undef = .bool true := (hw.at_ 4 139 rfl (hd ⟨4, .guard⟩ (by simp) rfl))
                        refine step_guarded (j := 4) (b := true) (s := 139) rfl rfl (by rw [hw.size]; exact Nat.lt_of_lt_of_eq (show 139 < 179 by omega) rfl) hgd ?_
                        apply wp_move
                        exact hK _ _ (Only.refl _ _) (I27.same (by decide) hw.inv) (fun s hs => by cases hs; exact hw.kept 7 (by kernel_rfl))
                      · intro listed a' w' hw hl hd K hK
                        have hgd : a'.tmps.getD 139 undef = .bool true := (hw.at_ 4 139 rfl (hd ⟨4, .guard⟩ (by simp) rfl))
                        refine step_guarded (j := 4) (b := true) (s := 139) rfl rfl (by rw [hw.size]; exact Nat.lt_of_lt_of_eq (show 139 < 179 by omega) rfl) hgd ?_
                        apply wp_move
                        exact hK _ _ (Only.refl _ _) (I27.same (by decide) hw.inv) (fun s hs => by cases hs; exact hw.kept 1 (by kernel_rfl))
                      · intro listed a' w' hw hl hd K hK
                        have hgd : a'.tmps.getD 139 undef = .bool true := (hw.at_ 4 139 rfl (hd ⟨4, .guard⟩ (by simp) rfl))
                        refine step_guarded (j := 4) (b := true) (s := 139) rfl rfl (by rw [hw.size]; exact Nat.lt_of_lt_of_eq (show 139 < 179 by omega) rfl) hgd ?_
                        apply wp_move
                        exact hK _ _ (Only.refl _ _) (I27.same (by decide) hw.inv) (fun s hs => by cases hs; exact hw.kept 8 (by kernel_rfl))
                      · intro listed a' w' hw hl hd K hK
                        have hgd : a'.tmps.getD 139 undef = .bool true := (hw.at_ 4 139 rfl (hd ⟨4, .guard⟩ (by simp) rfl))
                        have hv141 : a'.tmps.getD 141 undef = .slice (some ⟨b, off, none⟩) n1 c1 := (hw.at_ 6 141 rfl (hd ⟨6, .data⟩ (by simp) rfl))
                        have hv142 : a'.tmps.getD 142 undef = .int .i64 (j : Int) := (hw.at_ 7 142 rfl (hd ⟨7, .data⟩ (by simp) rfl))
                        refine step_guarded (j := 4) (b := true) (s := 139) rfl rfl (by rw [hw.size]; exact Nat.lt_of_lt_of_eq (show 139 < 179 by omega) rfl) hgd ?_
                        unfold Oper.wp
                        simp only [execOp]
                        go_simp
                        exact hK _ _ (Only.refl _ _) (I27.same (by decide) hw.inv) (fun s hs => by cases hs; rfl)
                      · intro listed a' w' hw hl hd K hK
                        have hgd : a'.tmps.getD 139 undef = .bool true := (hw.at_ 4 139 rfl (hd ⟨4, .guard⟩ (by simp) rfl))
                        have hv143 : a'.tmps.getD 143 undef = .pointer (some ⟨b, off + j, none⟩) := (hw.at_ 8 143 rfl (hd ⟨8, .data⟩ (by simp) rfl))
                        have hcl := (hw.inv.cell hbB).trans hcell0.out
                        refine step_guarded (j := 4) (b := true) (s := 139) rfl rfl (by rw [hw.size]; exact Nat.lt_of_lt_of_eq (show 139 < 179 by omega) rfl) hgd ?_
                        unfold Oper.wp
                        simp only [execOp]
                        go_simp
                        exact hK _ _ (Only.refl _ _) (I27.same (by decide) hw.inv) (fun s hs => by cases hs; rfl)
                      · intro listed a' w' hw hl hd K hK
                        have hgd : a'.tmps.getD 139 undef = .bool true := (hw.at_ 4 139 rfl (hd ⟨4, .guard⟩ (by simp) rfl))
                        have hv144 : a'.tmps.getD 144 undef = Value.string s := (hw.at_ 9 144 rfl (hd ⟨9, .data⟩ (by simp) rfl))
                        refine step_guarded (j := 4) (b := true) (s := 139) rfl rfl (by rw [hw.size]; exact Nat.lt_of_lt_of_eq (show 139 < 179 by omega) rfl) hgd ?_
                        unfold Oper.wp
                        simp only [execOp]
                        go_simp
                        exact hK _ _ (Only.refl _ _) (I27.same (by decide) hw.inv) (fun s hs => by cases hs; rfl)
                      · intro listed a' w' hw hl hd K hK
                        have hgd : a'.tmps.getD 139 undef = .bool true := (hw.at_ 4 139 rfl (hd ⟨4, .guard⟩ (by simp) rfl))
                        have hv140 : a'.tmps.getD 140 undef = .pointer (some ⟨q, 0, none⟩) := (hw.at_ 5 140 rfl (hd ⟨5, .data⟩ (by simp) rfl))
                        have hv145 : a'.tmps.getD 145 undef = .int .i64 (s.size : Int) := (hw.at_ 10 145 rfl (hd ⟨10, .data⟩ (by simp) rfl))
                        refine step_guarded (j := 4) (b := true) (s := 139) rfl rfl (by rw [hw.size]; exact Nat.lt_of_lt_of_eq (show 139 < 179 by omega) rfl) hgd ?_
                        unfold Oper.wp
                        simp only [execOp]
                        go_simp
                        obtain ⟨h24, hI⟩ := I27.first hl hw.inv
                        refine (text_any q d ⟨shortL s.size ++ strL s ++ (strL s ++ R3), false⟩ (s.size : Int) w' (by omega) (by have := hs64.out; omega) hI.rd HR8.out).mono ?_
                        unfold TextE
                        rw [HTX.out]
                        rintro e w2 ⟨rfl, h1, h2⟩
                        exact hK _ _ h2.out (I27.at11 (by rw [hw.lsize]; exact Nat.lt_of_lt_of_eq (show 11 < 33 by omega) rfl) h24 hw.inv (hI.step h1 h2)) (fun s hs => by cases hs; rfl)
                      · intro listed a' w' hw hl hd K hK
                        have hgd : a'.tmps.getD 139 undef = .bool true := (hw.at_ 4 139 rfl (hd ⟨4, .guard⟩ (by simp) rfl))
                        refine step_guarded (j := 4) (b := true) (s := 139) rfl rfl (by rw [hw.size]; exact Nat.lt_of_lt_of_eq (show 139 < 179 by omega) rfl) hgd ?_
                        apply wp_move
                        exact hK _ _ (Only.refl _ _) (I27.same (by decide) hw.inv) (fun s hs => by cases hs; exact hw.kept 1 (by kernel_rfl))
                      · intro listed a' w' hw hl hd K hK
                        have hgd : a'.tmps.getD 139 undef = .bool true := (hw.at_ 4 139 rfl (hd ⟨4, .guard⟩ (by simp) rfl))
                        refine step_guarded (j := 4) (b := true) (s := 139) rfl rfl (by rw [hw.size]; exact Nat.lt_of_lt_of_eq (show 139 < 179 by omega) rfl) hgd ?_
                        apply wp_move
                        exact hK _ _ (Only.refl _ _) (I27.same (by decide) hw.inv) (fun s hs => by cases hs; exact hw.kept 8 (by kernel_rfl))
                      · intro listed a' w' hw hl hd K hK
                        have hgd : a'.tmps.getD 139 undef = .bool true := (hw.at_ 4 139 rfl (hd ⟨4, .guard⟩ (by simp) rfl))
                        have hv147 : a'.tmps.getD 147 undef = .slice (some ⟨b, off, none⟩) n1 c1 := (hw.at_ 12 147 rfl (hd ⟨12, .data⟩ (by simp) rfl))
                        have hv148 : a'.tmps.getD 148 undef = .int .i64 (j : Int) := (hw.at_ 13 148 rfl (hd ⟨13, .data⟩ (by simp) rfl))
                        refine step_guarded (j := 4) (b := true) (s := 139) rfl rfl (by rw [hw.size]; exact Nat.lt_of_lt_of_eq (show 139 < 179 by omega) rfl) hgd ?_
                        unfold Oper.wp
                        simp only [execOp]
                        go_simp
                        exact hK _ _ (Only.refl _ _) (I27.same (by decide) hw.inv) (fun s hs => by cases hs; rfl)
                      · intro listed a' w' hw hl hd K hK
                        have hgd : a'.tmps.getD 139 undef = .bool true := (hw.at_ 4 139 rfl (hd ⟨4, .guard⟩ (by simp) rfl))
                        have hv149 : a'.tmps.getD 149 undef = .pointer (some ⟨b, off + j, none⟩) := (hw.at_ 14 149 rfl (hd ⟨14, .data⟩ (by simp) rfl))
                        have hcl := (hw.inv.cell hbB).trans hcell0.out
                        refine step_guarded (j := 4) (b := true) (s := 139) rfl rfl (by rw [hw.size]; exact Nat.lt_of_lt_of_eq (show 139 < 179 by omega) rfl) hgd ?_
                        unfold Oper.wp
                        simp only [execOp]
                        go_simp
                        exact hK _ _ (Only.refl _ _) (I27.same (by decide) hw.inv) (fun s hs => by cases hs; rfl)
                      · intro listed a' w' hw hl hd K hK
                        have hgd : a'.tmps.getD 139 undef = .bool true := (hw.at_ 4 139 rfl (hd ⟨4, .guard⟩ (by simp) rfl))
                        have hv146 : a'.tmps.getD 146 undef = Value.string s := (hw.at_ 11 146 rfl (hd ⟨11, .data⟩ (by simp) rfl))
                        have hv150 : a'.tmps.getD 150 undef = Value.string s := (hw.at_ 15 150 rfl (hd ⟨15, .data⟩ (by simp) rfl))
                        refine step_guarded (j := 4) (b := true) (s := 139) rfl rfl (by rw [hw.size]; exact Nat.lt_of_lt_of_eq (show 139 < 179 by omega) rfl) hgd ?_
                        unfold Oper.wp
                        simp only [execOp]
                        go_simp
                        exact hK _ _ (Only.refl _ _) (I27.at16 (by rw [hw.lsize]; exact Nat.lt_of_lt_of_eq (show 16 < 33 by omega) rfl) (hd ⟨11, .data⟩ (by simp) rfl) hw.inv) (fun s hs => by cases hs; rfl)
                      · intro listed a' w' hw hl hd K hK
                        have hgd : a'.tmps.getD 139 undef = .bool true := (hw.at_ 4 139 rfl (hd ⟨4, .guard⟩ (by simp) rfl))
                        refine step_guarded (j := 4) (b := true) (s := 139) rfl rfl (by rw [hw.size]; exact Nat.lt_of_lt_of_eq (show 139 < 179 by omega) rfl) hgd ?_
                        apply wp_move
                        exact hK _ _ (Only.refl _ _) (I27.at17 (by rw [hw.lsize]; exact Nat.lt_of_lt_of_eq (show 17 < 33 by omega) rfl) (hd ⟨16, .data⟩ (by simp) rfl) hw.inv) (fun s hs => by cases hs; exact (hw.at_ 16 151 rfl (hd ⟨16, .data⟩ (by simp) rfl)))
                      · intro listed a' w' hw hl hd K hK
                        have hgd : a'.tmps.getD 152 undef = .bool false := (hw.at_ 17 152 rfl (hd ⟨17, .guard⟩ (by simp) rfl))
                        refine step_guarded (j := 17) (b := false) (s := 152) rfl rfl (by rw [hw.size]; exact Nat.lt_of_lt_of_eq (show 152 < 179 by omega) rfl) hgd ?_
                        apply wp_move
                        exact hK _ _ (Only.refl _ _) (I27.same (by decide) hw.inv) (fun s hs => by cases hs; exact hw.kept 7 (by kernel_rfl))
                      · intro listed a' w' hw hl hd K hK
                        have hgd : a'.tmps.getD 152 undef = .bool false := (hw.at_ 17 152 rfl (hd ⟨17, .guard⟩ (by simp) rfl))
                        refine step_guarded (j := 17) (b := false) (s := 152) rfl rfl (by rw [hw.size]; exact Nat.lt_of_lt_of_eq (show 152 < 179 by omega) rfl) hgd ?_
                        apply wp_move
                        exact hK _ _ (Only.refl _ _) (I27.same (by decide) hw.inv) (fun s hs => by cases hs; exact hw.kept 1 (by kernel_rfl))
                      · intro listed a' w' hw hl hd K hK
                        have hgd : a'.tmps.getD 152 undef = .bool false := (hw.at_ 17 152 rfl (hd ⟨17, .guard⟩ (by simp) rfl))
                        refine step_guarded (j := 17) (b := false) (s := 152) rfl rfl (by rw [hw.size]; exact Nat.lt_of_lt_of_eq (show 152 < 179 by omega) rfl) hgd ?_
                        apply wp_move
                        exact hK _ _ (Only.refl _ _) (I27.same (by decide) hw.inv) (fun s hs => by cases hs; exact hw.kept 8 (by kernel_rfl))
                      · intro listed a' w' hw hl hd K hK
                        have hgd : a'.tmps.getD 152 undef = .bool false := (hw.at_ 17 152 rfl (hd ⟨17, .guard⟩ (by simp) rfl))
                        have hv154 : a'.tmps.getD 154 undef = .slice (some ⟨b, off, none⟩) n1 c1 := (hw.at_ 19 154 rfl (hd ⟨19, .data⟩ (by simp) rfl))
                        have hv155 : a'.tmps.getD 155 undef = .int .i64 (j : Int) := (hw.at_ 20 155 rfl (hd ⟨20, .data⟩ (by simp) rfl))
                        refine step_guarded (j := 17) (b := false) (s := 152) rfl rfl (by rw [hw.size]; exact Nat.lt_of_lt_of_eq (show 152 < 179 by omega) rfl) hgd ?_
                        unfold Oper.wp
                        simp only [execOp]
                        go_simp
                        exact hK _ _ (Only.refl _ _) (I27.same (by decide) hw.inv) (fun s hs => by cases hs; rfl)
                      · intro listed a' w' hw hl hd K hK
                        have hgd : a'.tmps.getD 152 undef = .bool false := (hw.at_ 17 152 rfl (hd ⟨17, .guard⟩ (by simp) rfl))
                        have hv156 : a'.tmps.getD 156 undef = .pointer (some ⟨b, off + j, none⟩) := (hw.at_ 21 156 rfl (hd ⟨21, .data⟩ (by simp) rfl))
                        have hcl := (hw.inv.cell hbB).trans hcell0.out
                        refine step_guarded (j := 17) (b := false) (s := 152) rfl rfl (by rw [hw.size]; exact Nat.lt_of_lt_of_eq (show 152 < 179 by omega) rfl) hgd ?_
                        unfold Oper.wp
                        simp only [execOp]
                        go_simp
                        exact hK _ _ (Only.refl _ _) (I27.same (by decide) hw.inv) (fun s hs => by cases hs; rfl)
                      · intro listed a' w' hw hl hd K hK
                        have hgd : a'.tmps.getD 152 undef = .bool false := (hw.at_ 17 152 rfl (hd ⟨17, .guard⟩ (by simp) rfl))
                        have hv157 : a'.tmps.getD 157 undef = Value.string s := (hw.at_ 22 157 rfl (hd ⟨22, .data⟩ (by simp) rfl))
                        refine step_guarded (j := 17) (b := false) (s := 152) rfl rfl (by rw [hw.size]; exact Nat.lt_of_lt_of_eq (show 152 < 179 by omega) rfl) hgd ?_
                        unfold Oper.wp
                        simp only [execOp]
                        go_simp
                        exact hK _ _ (Only.refl _ _) (I27.same (by decide) hw.inv) (fun s hs => by cases hs; rfl)
                      · intro listed a' w' hw hl hd K hK
                        have hgd : a'.tmps.getD 152 undef = .bool false := (hw.at_ 17 152 rfl (hd ⟨17, .guard⟩ (by simp) rfl))
                        have hv153 : a'.tmps.getD 153 undef = .pointer (some ⟨q, 0, none⟩) := (hw.at_ 18 153 rfl (hd ⟨18, .data⟩ (by simp) rfl))
                        have hv158 : a'.tmps.getD 158 undef = .int .i64 (s.size : Int) := (hw.at_ 23 158 rfl (hd ⟨23, .data⟩ (by simp) rfl))
                        refine step_guarded (j := 17) (b := false) (s := 152) rfl rfl (by rw [hw.size]; exact Nat.lt_of_lt_of_eq (show 152 < 179 by omega) rfl) hgd ?_
                        unfold Oper.wp
                        simp only [execOp]
                        go_simp
                        have hI := I27.second (hd ⟨17, .guard⟩ (by simp) rfl) hl hw.inv
                        refine (raw_any q d ⟨strL s ++ R3, false⟩ (s.size : Int) w' hI.rd).mono ?_
                        unfold RawE
                        rw [HRX.out]
                        rintro e w2 ⟨A2, c2, rfl, h1, h2, h3, h4⟩
                        exact hK _ _ h4.out (I27.at24 (by rw [hw.lsize]; exact Nat.lt_of_lt_of_eq (show 24 < 33 by omega) rfl) (hd ⟨17, .guard⟩ (by simp) rfl) hw.inv (hI.step h1 h4)) (fun s hs => by cases hs; exact ⟨A2, c2, rfl, h2.out.bytes, fun e => by rcases h3.out with e2 | e2; rw [e2] at e; cases e; exact hI.rd.ne (by decide) (e2.symm.trans e)⟩)
                      · intro listed a' w' hw hl hd K hK
                        have hgd : a'.tmps.getD 152 undef = .bool false := (hw.at_ 17 152 rfl (hd ⟨17, .guard⟩ (by simp) rfl))
                        have hv159 : BytesQ q (strL s) w' (a'.tmps.getD 159 undef) := (hw.at_ 24 159 rfl (hd ⟨24, .data⟩ (by simp) rfl))
                        refine step_guarded (j := 17) (b := false) (s := 152) rfl rfl (by rw [hw.size]; exact Nat.lt_of_lt_of_eq (show 152 < 179 by omega) rfl) hgd ?_
                        obtain ⟨A2, c2, hv, hb2, _⟩ := hv159
                        have C := conv_str c2 hb2 rfl
                        unfold Oper.wp
                        simp only [execOp]
                        go_simp
                        exact hK _ _ (Only.refl _ _) (I27.same (by decide) hw.inv) (fun s hs => by cases hs; rfl)
                      · intro listed a' w' hw hl hd K hK
                        have hgd : a'.tmps.getD 152 undef = .bool false := (hw.at_ 17 152 rfl (hd ⟨17, .guard⟩ (by simp) rfl))
                        refine step_guarded (j := 17) (b := false) (s := 152) rfl rfl (by rw [hw.size]; exact Nat.lt_of_lt_of_eq (show 152 < 179 by omega) rfl) hgd ?_
                        apply wp_move
                        exact hK _ _ (Only.refl _ _) (I27.same (by decide) hw.inv) (fun s hs => by cases hs; exact hw.kept 1 (by kernel_rfl))
                      · intro listed a' w' hw hl hd K hK
                        have hgd : a'.tmps.getD 152 undef = .bool false := (hw.at_ 17 152 rfl (hd ⟨17, .guard⟩ (by simp) rfl))
                        refine step_guarded (j := 17) (b := false) (s := 152) rfl rfl (by rw [hw.size]; exact Nat.lt_of_lt_of_eq (show 152 < 179 by omega) rfl) hgd ?_
                        apply wp_move
                        exact hK _ _ (Only.refl _ _) (I27.same (by decide) hw.inv) (fun s hs => by cases hs; exact hw.kept 8 (by kernel_rfl))
                      · intro listed a' w' hw hl hd K hK
                        have hgd : a'.tmps.getD 152 undef = .bool false := (hw.at_ 17 152 rfl (hd ⟨17, .guard⟩ (by simp) rfl))
                        have hv161 : a'.tmps.getD 161 undef = .slice (some ⟨b, off, none⟩) n1 c1 := (hw.at_ 26 161 rfl (hd ⟨26, .data⟩ (by simp) rfl))
                        have hv162 : a'.tmps.getD 162 undef = .int .i64 (j : Int) := (hw.at_ 27 162 rfl (hd ⟨27, .data⟩ (by simp) rfl))
                        refine step_guarded (j := 17) (b := false) (s := 152) rfl rfl (by rw [hw.size]; exact Nat.lt_of_lt_of_eq (show 152 < 179 by omega) rfl) hgd ?_
                        unfold Oper.wp
                        simp only [execOp]
                        go_simp
                        exact hK _ _ (Only.refl _ _) (I27.same (by decide) hw.inv) (fun s hs => by cases hs; rfl)
                      · intro listed a' w' hw hl hd K hK
                        have hgd : a'.tmps.getD 152 undef = .bool false := (hw.at_ 17 152 rfl (hd ⟨17, .guard⟩ (by simp) rfl))
                        have hv163 : a'.tmps.getD 163 undef = .pointer (some ⟨b, off + j, none⟩) := (hw.at_ 28 163 rfl (hd ⟨28, .data⟩ (by simp) rfl))
                        have hcl := (hw.inv.cell hbB).trans hcell0.out
                        refine step_guarded (j := 17) (b := false) (s := 152) rfl rfl (by rw [hw.size]; exact Nat.lt_of_lt_of_eq (show 152 < 179 by omega) rfl) hgd ?_
                        unfold Oper.wp
                        simp only [execOp]
                        go_simp
                        exact hK _ _ (Only.refl _ _) (I27.same (by decide) hw.inv) (fun s hs => by cases hs; rfl)
                      · intro listed a' w' hw hl hd K hK
                        have hgd : a'.tmps.getD 152 undef = .bool false := (hw.at_ 17 152 rfl (hd ⟨17, .guard⟩ (by simp) rfl))
                        have hv160 : a'.tmps.getD 160 undef = Value.string s := (hw.at_ 25 160 rfl (hd ⟨25, .data⟩ (by simp) rfl))
                        have hv164 : a'.tmps.getD 164 undef = Value.string s := (hw.at_ 29 164 rfl (hd ⟨29, .data⟩ (by simp) rfl))
                        refine step_guarded (j := 17) (b := false) (s := 152) rfl rfl (by rw [hw.size]; exact Nat.lt_of_lt_of_eq (show 152 < 179 by omega) rfl) hgd ?_
                        unfold Oper.wp
                        simp only [execOp]
                        go_simp
                        exact hK _ _ (Only.refl _ _) (I27.same (by decide) hw.inv) (fun s hs => by cases hs; rfl)
                      · intro listed a' w' hw hl hd K hK
                        have hgd : a'.tmps.getD 139 undef = .bool true := (hw.at_ 4 139 rfl (hd ⟨4, .guard⟩ (by simp) rfl))
                        have hv152 : a'.tmps.getD 152 undef = .bool false := (hw.at_ 17 152 rfl (hd ⟨17, .data⟩ (by simp) rfl))
                        have hv165 : a'.tmps.getD 165 undef = .bool false := (hw.at_ 30 165 rfl (hd ⟨30, .data⟩ (by simp) rfl))
                        refine step_guarded (j := 4) (b := true) (s := 139) rfl rfl (by rw [hw.size]; exact Nat.lt_of_lt_of_eq (show 139 < 179 by omega) rfl) hgd ?_
                        unfold Oper.wp
                        simp only [execOp]
                        go_simp
                        exact hK _ _ (Only.refl _ _) (I27.same (by decide) hw.inv) (fun s hs => by cases hs; rfl)
                      · intro listed a' w' hw hl hd K hK
                        have hv139 : a'.tmps.getD 139 undef = .bool true := (hw.at_ 4 139 rfl (hd ⟨4, .data⟩ (by simp) rfl))
                        have hv166 : a'.tmps.getD 166 undef = .bool false := (hw.at_ 31 166 rfl (hd ⟨31, .data⟩ (by simp) rfl))
                        refine step_free rfl ?_
                        unfold Oper.wp
                        simp only [execOp]
                        go_simp
                        exact hK _ _ (Only.refl _ _) (I27.same (by decide) hw.inv) (fun s hs => by cases hs; rfl)
                    · intro listed a' w' hw hall
                      have hk167 : a'.tmps.getD 167 undef = .bool false := hw.at_ 32 167 rfl (hall 32 (Nat.lt_of_lt_of_eq (show 32 < 33 by omega) rfl))
                      have hR : Hid (RdS RdT w.heap.size w w' q d ⟨R3, false⟩) := Lib.hid (by have h := hw.inv; unfold I27 at h; rw [hall 24 (Nat.lt_of_lt_of_eq (show 24 < 33 by omega) rfl), if_pos rfl] at h; exact h.2.2.2)
                      have hp := hw.puts [135, 136, 137, 138, 139, 140, 141, 142, 143, 144, 145, 146, 147, 148, 149, 150, 151, 152, 153, 154, 155, 156, 157, 158, 159, 160, 161, 162, 163, 164, 165, 166, 167] (by kernel_rfl)
                      clear hw hall
                      rw [hp]
                      simp only [List.foldl_cons, List.foldl_nil, hk167]
                      generalize a'.tmps.getD 135 undef = u135
                      generalize a'.tmps.getD 136 undef = u136
                      generalize a'.tmps.getD 137 undef = u137
                      generalize a'.tmps.getD 138 undef = u138
                      generalize a'.tmps.getD 139 undef = u139
                      generalize a'.tmps.getD 140 undef = u140
                      generalize a'.tmps.getD 141 undef = u141
                      generalize a'.tmps.getD 142 undef = u142
                      generalize a'.tmps.getD 143 undef = u143
                      generalize a'.tmps.getD 144 undef = u144
                      generalize a'.tmps.getD 145 undef = u145
                      generalize a'.tmps.getD 146 undef = u146
                      generalize a'.tmps.getD 147 undef = u147
                      generalize a'.tmps.getD 148 undef = u148
                      generalize a'.tmps.getD 149 undef = u149
                      generalize a'.tmps.getD 150 undef = u150
                      generalize a'.tmps.getD 151 undef = u151
                      generalize a'.tmps.getD 152 undef = u152
                      generalize a'.tmps.getD 153 undef = u153
                      generalize a'.tmps.getD 154 undef = u154
                      generalize a'.tmps.getD 155 undef = u155
                      generalize a'.tmps.getD 156 undef = u156
                      generalize a'.tmps.getD 157 undef = u157
                      generalize a'.tmps.getD 158 undef = u158
                      generalize a'.tmps.getD 159 undef = u159
                      generalize a'.tmps.getD 160 undef = u160
                      generalize a'.tmps.getD 161 undef = u161
                      generalize a'.tmps.getD 162 undef = u162
                      generalize a'.tmps.getD 163 undef = u163
                      generalize a'.tmps.getD 164 undef = u164
                      generalize a'.tmps.getD 165 undef = u165
                      generalize a'.tmps.getD 166 undef = u166
                      clear hp hk167
                      simp only [Act.put, List.setIfInBounds_toArray, List.set_cons_succ, List.set_cons_zero]
                      clear hRT
                      go_wp2
                      go_roundw
                      case rel => exact ⟨j + 1, m, by omega, by go_num, Lib.hid (by rw [HR3.out]; exact hR.out), Lib.hid (by rw [HR3.out]; exact HL3.out)⟩
                      case measure => simp [intOf]; omega
                  · have g1 : ¬ (j : Int) < (n1 : Int) := by omega
                    have HPT := Lib.hid (show partT ts j = [] from if_neg (by rw [HN1.out]; exact hlt1))
                    have hRT : Hid (RdS RdT w.heap.size w w' q d ⟨R3, false⟩) := Lib.hid (by have h := hR.out; rw [HPT.out, List.nil_append] at h; exact h)
                    clear hR HPT
                    go_wp2_with fail
                    refine region_steps2 (n := 179) (fun a b => a = b) (fun _ V => RdS RdT w.heap.size w V q d ⟨R3, false⟩) (T27N n1 c1 j A1) (by kernel_rfl) (by kernel_rfl) rfl (fun _ => rfl) (fun _ _ _ h1 h2 => h1.trans h2) (RdS.drew' hRT.out) (fun _ _ _ _ hb h => hb ▸ h) ?_ ?_
                    · refine And.intro ?_ (And.intro ?_ (And.intro ?_ (And.intro ?_ (And.intro ?_ (And.intro ?_ (And.intro ?_ (And.intro ?_ (And.intro ?_ (And.intro ?_ (And.intro ?_ (And.intro ?_ (And.intro ?_ (And.intro ?_ (And.intro ?_ (And.intro ?_ (And.intro ?_ (And.intro ?_ (And.intro ?_ (And.intro ?_ (And.intro ?_ (And.intro ?_ (And.intro ?_ (And.intro ?_ (And.intro ?_ (And.intro ?_ (And.intro ?_ (And.intro ?_ (And.intro ?_ (And.intro ?_ (And.intro ?_ (And.intro ?_ (And.intro ?_ (True.intro)))))))))))))))))))))))))))))))))
                      · intro listed a' w' hw hl hd K hK
                        refine step_free rfl ?_
                        apply wp_move
                        exact hK _ _ (rfl) hw.inv (fun s hs => by cases hs; exact hw.kept 8 (by kernel_rfl))
                      · intro listed a' w' hw hl hd K hK
                        refine step_free rfl ?_
                        apply wp_move
                        exact hK _ _ (rfl) hw.inv (fun s hs => by cases hs; exact hw.kept 1 (by kernel_rfl))
                      · intro listed a' w' hw hl hd K hK
                        have hv136 : a'.tmps.getD 136 undef = .slice A1 n1 c1 := (hw.at_ 1 136 rfl (hd ⟨1, .data⟩ (by simp) rfl))
                        refine step_free rfl ?_
                        unfold Oper.wp
                        simp only [execOp]
                        go_simp
                        exact hK _ _ (rfl) hw.inv (fun s hs => by cases hs; rfl)
                      · intro listed a' w' hw hl hd K hK
                        have hv135 : a'.tmps.getD 135 undef = .int .i64 (j : Int) := (hw.at_ 0 135 rfl (hd ⟨0, .data⟩ (by simp) rfl))
                        have hv137 : a'.tmps.getD 137 undef = .int .i64 (n1 : Int) := (hw.at_ 2 137 rfl (hd ⟨2, .data⟩ (by simp) rfl))
                        refine step_free rfl ?_
                        unfold Oper.wp
                        simp only [execOp]
                        go_simp
                        exact hK _ _ (rfl) hw.inv (fun s hs => by cases hs; rfl)
                      · intro listed a' w' hw hl hd K hK
                        refine step_free rfl ?_
                        apply wp_move
                        exact hK _ _ (rfl) hw.inv (fun s hs => by cases hs; exact (hw.at_ 3 138 rfl (hd ⟨3, .data⟩ (by simp) rfl)))
                      · intro listed a' w' hw hl hd K hK
                        have hgd : a'.tmps.getD 139 undef = .bool false := (hw.at_ 4 139 rfl (hd ⟨4, .guard⟩ (by simp) rfl))
                        refine step_unwanted (j := 4) (b := true) (s := 139) rfl rfl (by rw [hgd]; exact fun h => by cases h) ?_
                        exact hK _ _ (rfl) hw.inv (fun s hs => by cases hs; rfl)
                      · intro listed a' w' hw hl hd K hK
                        have hgd : a'.tmps.getD 139 undef = .bool false := (hw.at_ 4 139 rfl (hd ⟨4, .guard⟩ (by simp) rfl))
                        refine step_unwanted (j := 4) (b := true) (s := 139) rfl rfl (by rw [hgd]; exact fun h => by cases h) ?_
                        exact hK _ _ (rfl) hw.inv (fun s hs => by cases hs; rfl)
                      · intro listed a' w' hw hl hd K hK
                        have hgd : a'.tmps.getD 139 undef = .bool false := (hw.at_ 4 139 rfl (hd ⟨4, .guard⟩ (by simp) rfl))
                        refine step_unwanted (j := 4) (b := true) (s := 139) rfl rfl (by rw [hgd]; exact fun h => by cases h) ?_
                        exact hK _ _ (rfl) hw.inv (fun s hs => by cases hs; rfl)
                      · intro listed a' w' hw hl hd K hK
                        have hgd : a'.tmps.getD 139 undef = .bool false := (hw.at_ 4 139 rfl (hd ⟨4, .guard⟩ (by simp) rfl))
                        refine step_unwanted (j := 4) (b := true) (s := 139) rfl rfl (by rw [hgd]; exact fun h => by cases h) ?_
                        exact hK _ _ (rfl) hw.inv (fun s hs => by cases hs; rfl)
                      · intro listed a' w' hw hl hd K hK
                        have hgd : a'.tmps.getD 139 undef = .bool false := (hw.at_ 4 139 rfl (hd ⟨4, .guard⟩ (by simp) rfl))
                        refine step_unwanted (j := 4) (b := true) (s := 139) rfl rfl (by rw [hgd]; exact fun h => by cases h) ?_
                        exact hK _ _ (rfl) hw.inv (fun s hs => by cases hs; rfl)
                      · intro listed a' w' hw hl hd K hK
                        have hgd : a'.tmps.getD 139 undef = .bool false := (hw.at_ 4 139 rfl (hd ⟨4, .guard⟩ (by simp) rfl))
                        refine step_unwanted (j := 4) (b := true) (s := 139) rfl rfl (by rw [hgd]; exact fun h => by cases h) ?_
                        exact hK _ _ (rfl) hw.inv (fun s hs => by cases hs; rfl)
                      · intro listed a' w' hw hl hd K hK
                        have hgd : a'.tmps.getD 139 undef = .bool false := (hw.at_ 4 139 rfl (hd ⟨4, .guard⟩ (by simp) rfl))
                        refine step_unwanted (j := 4) (b := true) (s := 139) rfl rfl (by rw [hgd]; exact fun h => by cases h) ?_
                        exact hK _ _ (rfl) hw.inv (fun s hs => by cases hs; rfl)
                      · intro listed a' w' hw hl hd K hK
                        have hgd : a'.tmps.getD 139 undef = .bool false := (hw.at_ 4 139 rfl (hd ⟨4, .guard⟩ (by simp) rfl))
                        refine step_unwanted (j := 4) (b := true) (s := 139) rfl rfl (by rw [hgd]; exact fun h => by cases h) ?_
                        exact hK _ _ (rfl) hw.inv (fun s hs => by cases hs; rfl)
                      · intro listed a' w' hw hl hd K hK
                        have hgd : a'.tmps.getD 139 undef = .bool false := (hw.at_ 4 139 rfl (hd ⟨4, .guard⟩ (by simp) rfl))
                        refine step_unwanted (j := 4) (b := true) (s := 139) rfl rfl (by rw [hgd]; exact fun h => by cases h) ?_
                        exact hK _ _ (rfl) hw.inv (fun s hs => by cases hs; rfl)
                      · intro listed a' w' hw hl hd K hK
                        have hgd : a'.tmps.getD 139 undef = .bool false := (hw.at_ 4 139 rfl (hd ⟨4, .guard⟩ (by simp) rfl))
                        refine step_unwanted (j := 4) (b := true) (s := 139) rfl rfl (by rw [hgd]; exact fun h => by cases h) ?_
                        exact hK _ _ (rfl) hw.inv (fun s hs => by cases hs; rfl)
                      · intro listed a' w' hw hl hd K hK
                        have hgd : a'.tmps.getD 139 undef = .bool false := (hw.at_ 4 139 rfl (hd ⟨4, .guard⟩ (by simp) rfl))
                        refine step_unwanted (j := 4) (b := true) (s := 139) rfl rfl (by rw [hgd]; exact fun h => by cases h) ?_
                        exact hK _ _ (rfl) hw.inv (fun s hs => by cases hs; rfl)
                      · intro listed a' w' hw hl hd K hK
                        have hgd : a'.tmps.getD 139 undef = .bool false := (hw.at_ 4 139 rfl (hd ⟨4, .guard⟩ (by simp) rfl))
                        refine step_unwanted (j := 4) (b := true) (s := 139) rfl rfl (by rw [hgd]; exact fun h => by cases h) ?_
                        exact hK _ _ (rfl) hw.inv (fun s hs => by cases hs; rfl)
                      · intro listed a' w' hw hl hd K hK
                        have hgd : a'.tmps.getD 139 undef = .bool false := (hw.at_ 4 139 rfl (hd ⟨4, .guard⟩ (by simp) rfl))
                        refine step_unwanted (j := 4) (b := true) (s := 139) rfl rfl (by rw [hgd]; exact fun h => by cases h) ?_
                        exact hK _ _ (rfl) hw.inv (fun s hs => by cases hs; rfl)
                      · intro listed a' w' hw hl hd K hK
                        have hgd : a'.tmps.getD 152 undef = undef := (hw.at_ 17 152 rfl (hd ⟨17, .guard⟩ (by simp) rfl))
                        refine step_unwanted (j := 17) (b := false) (s := 152) rfl rfl (by rw [hgd]; exact fun h => by cases h) ?_
                        exact hK _ _ (rfl) hw.inv (fun s hs => by cases hs; rfl)
                      · intro listed a' w' hw hl hd K hK
                        have hgd : a'.tmps.getD 152 undef = undef := (hw.at_ 17 152 rfl (hd ⟨17, .guard⟩ (by simp) rfl))
                        refine step_unwanted (j := 17) (b := false) (s := 152) rfl rfl (by rw [hgd]; exact fun h => by cases h) ?_
                        exact hK _ _ (rfl) hw.inv (fun s hs => by cases hs; rfl)
                      · intro listed a' w' hw hl hd K hK
                        have hgd : a'.tmps.getD 152 undef = undef := (hw.at_ 17 152 rfl (hd ⟨17, .guard⟩ (by simp) rfl))
                        refine step_unwanted (j := 17) (b := false) (s := 152) rfl rfl (by rw [hgd]; exact fun h => by cases h) ?_
                        exact hK _ _ (rfl) hw.inv (fun s hs => by cases hs; rfl)
                      · intro listed a' w' hw hl hd K hK
                        have hgd : a'.tmps.getD 152 undef = undef := (hw.at_ 17 152 rfl (hd ⟨17, .guard⟩ (by simp) rfl))
                        refine step_unwanted (j := 17) (b := false) (s := 152) rfl rfl (by rw [hgd]; exact fun h => by cases h) ?_
                        exact hK _ _ (rfl) hw.inv (fun s hs => by cases hs; rfl)
                      · intro listed a' w' hw hl hd K hK
                        have hgd : a'.tmps.getD 152 undef = undef := (hw.at_ 17 152 rfl (hd ⟨17, .guard⟩ (by simp) rfl))
                        refine step_unwanted (j := 17) (b := false) (s := 152) rfl rfl (by rw [hgd]; exact fun h => by cases h) ?_
                        exact hK _ _ (rfl) hw.inv (fun s hs => by cases hs; rfl)
                      · intro listed a' w' hw hl hd K hK
                        have hgd : a'.tmps.getD 152 undef = undef := (hw.at_ 17 152 rfl (hd ⟨17, .guard⟩ (by simp) rfl))
                        refine step_unwanted (j := 17) (b := false) (s := 152) rfl rfl (by rw [hgd]; exact fun h => by cases h) ?_
                        exact hK _ _ (rfl) hw.inv (fun s hs => by cases hs; rfl)
                      · intro listed a' w' hw hl hd K hK
                        have hgd : a'.tmps.getD 152 undef = undef := (hw.at_ 17 152 rfl (hd ⟨17, .guard⟩ (by simp) rfl))
                        refine step_unwanted (j := 17) (b := false) (s := 152) rfl rfl (by rw [hgd]; exact fun h => by cases h) ?_
                        exact hK _ _ (rfl) hw.inv (fun s hs => by cases hs; rfl)
                      · intro listed a' w' hw hl hd K hK
                        have hgd : a'.tmps.getD 152 undef = undef := (hw.at_ 17 152 rfl (hd ⟨17, .guard⟩ (by simp) rfl))
                        refine step_unwanted (j := 17) (b := false) (s := 152) rfl rfl (by rw [hgd]; exact fun h => by cases h) ?_
                        exact hK _ _ (rfl) hw.inv (fun s hs => by cases hs; rfl)
                      · intro listed a' w' hw hl hd K hK
                        have hgd : a'.tmps.getD 152 undef = undef := (hw.at_ 17 152 rfl (hd ⟨17, .guard⟩ (by simp) rfl))
                        refine step_unwanted (j := 17) (b := false) (s := 152) rfl rfl (by rw [hgd]; exact fun h => by cases h) ?_
                        exact hK _ _ (rfl) hw.inv (fun s hs => by cases hs; rfl)
                      · intro listed a' w' hw hl hd K hK
                        have hgd : a'.tmps.getD 152 undef = undef := (hw.at_ 17 152 rfl (hd ⟨17, .guard⟩ (by simp) rfl))
                        refine step_unwanted (j := 17) (b := false) (s := 152) rfl rfl (by rw [hgd]; exact fun h => by cases h) ?_
                        exact hK _ _ (rfl) hw.inv (fun s hs => by cases hs; rfl)
                      · intro listed a' w' hw hl hd K hK
                        have hgd : a'.tmps.getD 152 undef = undef := (hw.at_ 17 152 rfl (hd ⟨17, .guard⟩ (by simp) rfl))
                        refine step_unwanted (j := 17) (b := false) (s := 152) rfl rfl (by rw [hgd]; exact fun h => by cases h) ?_
                        exact hK _ _ (rfl) hw.inv (fun s hs => by cases hs; rfl)
                      · intro listed a' w' hw hl hd K hK
                        have hgd : a'.tmps.getD 152 undef = undef := (hw.at_ 17 152 rfl (hd ⟨17, .guard⟩ (by simp) rfl))
                        refine step_unwanted (j := 17) (b := false) (s := 152) rfl rfl (by rw [hgd]; exact fun h => by cases h) ?_
                        exact hK _ _ (rfl) hw.inv (fun s hs => by cases hs; rfl)
                      · intro listed a' w' hw hl hd K hK
                        have hgd : a'.tmps.getD 152 undef = undef := (hw.at_ 17 152 rfl (hd ⟨17, .guard⟩ (by simp) rfl))
                        refine step_unwanted (j := 17) (b := false) (s := 152) rfl rfl (by rw [hgd]; exact fun h => by cases h) ?_
                        exact hK _ _ (rfl) hw.inv (fun s hs => by cases hs; rfl)
                      · intro listed a' w' hw hl hd K hK
                        have hgd : a'.tmps.getD 139 undef = .bool false := (hw.at_ 4 139 rfl (hd ⟨4, .guard⟩ (by simp) rfl))
                        refine step_unwanted (j := 4) (b := true) (s := 139) rfl rfl (by rw [hgd]; exact fun h => by cases h) ?_
                        exact hK _ _ (rfl) hw.inv (fun s hs => by cases hs; rfl)
                      · intro listed a' w' hw hl hd K hK
                        have hv139 : a'.tmps.getD 139 undef = .bool false := (hw.at_ 4 139 rfl (hd ⟨4, .data⟩ (by simp) rfl))
                        refine step_free rfl ?_
                        unfold Oper.wp
                        simp only [execOp]
                        go_simp
                        exact hK _ _ (rfl) hw.inv (fun s hs => by cases hs; rfl)
                    · intro listed a' w' hw hall
                      have hk167 : a'.tmps.getD 167 undef = .bool false := hw.at_ 32 167 rfl (hall 32 (Nat.lt_of_lt_of_eq (show 32 < 33 by omega) rfl))
                      have hR : Hid (RdS RdT w.heap.size w w' q d ⟨R3, false⟩) := Lib.hid hw.inv
                      have hp := hw.puts [135, 136, 137, 138, 139, 140, 141, 142, 143, 144, 145, 146, 147, 148, 149, 150, 151, 152, 153, 154, 155, 156, 157, 158, 159, 160, 161, 162, 163, 164, 165, 166, 167] (by kernel_rfl)
                      clear hw hall
                      rw [hp]
                      simp only [List.foldl_cons, List.foldl_nil, hk167]
                      generalize a'.tmps.getD 135 undef = u135
                      generalize a'.tmps.getD 136 undef = u136
                      generalize a'.tmps.getD 137 undef = u137
                      generalize a'.tmps.getD 138 undef = u138
                      generalize a'.tmps.getD 139 undef = u139
                      generalize a'.tmps.getD 140 undef = u140
                      generalize a'.tmps.getD 141 undef = u141
                      generalize a'.tmps.getD 142 undef = u142
                      generalize a'.tmps.getD 143 undef = u143
                      generalize a'.tmps.getD 144 undef = u144
                      generalize a'.tmps.getD 145 undef = u145
                      generalize a'.tmps.getD 146 undef = u146
                      generalize a'.tmps.getD 147 undef = u147
                      generalize a'.tmps.getD 148 undef = u148
                      generalize a'.tmps.getD 149 undef = u149
                      generalize a'.tmps.getD 150 undef = u150
                      generalize a'.tmps.getD 151 undef = u151
                      generalize a'.tmps.getD 152 undef = u152
                      generalize a'.tmps.getD 153 undef = u153
                      generalize a'.tmps.getD 154 undef = u154
                      generalize a'.tmps.getD 155 undef = u155
                      generalize a'.tmps.getD 156 undef = u156
                      generalize a'.tmps.getD 157 undef = u157
                      generalize a'.tmps.getD 158 undef = u158
                      generalize a'.tmps.getD 159 undef = u159
                      generalize a'.tmps.getD 160 undef = u160
                      generalize a'.tmps.getD 161 undef = u161
                      generalize a'.tmps.getD 162 undef = u162
                      generalize a'.tmps.getD 163 undef = u163
                      generalize a'.tmps.getD 164 undef = u164
                      generalize a'.tmps.getD 165 undef = u165
                      generalize a'.tmps.getD 166 undef = u166
                      clear hp hk167
                      simp only [Act.put, List.setIfInBounds_toArray, List.set_cons_succ, List.set_cons_zero]
                      clear hRT
                      go_wp2
                      go_roundw
                      case rel => exact ⟨j + 1, m, by omega, by go_num, Lib.hid (by rw [HR3.out]; exact hR.out), Lib.hid (by rw [HR3.out]; exact HL3.out)⟩
                      case measure => simp [intOf]; omega
              · have g0 : ¬ (j : Int) < (n0 : Int) := by omega
                by_cases hlt1 : j < n1
                · obtain ⟨m, rfl⟩ : ∃ m, m0 = m + 1 := ⟨m0 - 1, by omega⟩
                  have HP := Lib.hid (show partN l j = [] from if_neg (by rw [HN0.out]; exact hlt0))
                  have hF : partsF l ts j (m + 1) = partT ts j ++ partsF l ts (j + 1) m := by rw [partsF, part, HP.out, List.nil_append]
                  rw [hF] at hR
                  have HL3 := Lib.hid (show (partsF l ts (j + 1) m).length ≤ 30000000 by rw [hF] at hLm; simp only [List.length_append] at hLm; omega)
                  clear hF HP hLe hLm
                  generalize hR3 : partsF l ts (j + 1) m = R3 at *
                  have HR3 := Lib.hid hR3
                  clear hR3
                  have g1 : (j : Int) < (n1 : Int) := by omega
                  obtain ⟨b, off, rfl, hbB, hc⟩ := HS.out (by rw [HN1.out]; omega)
                  have hcell0 := Lib.hid (hc j (by rw [HN1.out]; exact hlt1))
                  have hs10 := HSA.out j hlt1
                  have HPT := Lib.hid (show partT ts j = textL (ts.getD j ByteArray.empty) from if_pos (by rw [HN1.out]; exact hlt1))
                  clear hc
                  generalize ts.getD j ByteArray.empty = s at *
                  have hs64 := Lib.hid hs10
                  have hRT : Hid (RdS RdT w.heap.size w wr q d ⟨shortL s.size ++ strL s ++ (strL s ++ R3), false⟩) := Lib.hid (by have h := hR.out; rw [HPT.out] at h; unfold textL at h; simpa only [List.append_assoc] using h)
                  have HTX := Lib.hid (show rText ⟨shortL s.size ++ strL s ++ (strL s ++ R3), false⟩ (s.size : Int) = (strL s, ⟨strL s ++ R3, false⟩) from rText_put (strL s) (strL s ++ R3) (by show s.size < _; omega))
                  have HRX := Lib.hid (show rRaw ⟨strL s ++ R3, false⟩ (s.size : Int) = (strL s, ⟨R3, false⟩) from rRaw_put (strL s) R3)
                  have HR8 := Lib.hid (show (shortL s.size ++ strL s ++ (strL s ++ R3)).length ≤ 70368744177664 by
                    have h1 := HL3.out
                    have h2 := shortL_ten (x := s.size) (by omega)
                    have h3 : (strL s).length = s.size := rfl
                    simp only [List.length_append]
                    omega)
                  clear hR HPT
                  go_wp2_with fail
                  refine region_steps2 (n := 179) (fun a b => Only (fun k => k = q) a b) (I27 w.heap.size w q d s R3) (T27 q n1 c1 b off j s) (by kernel_rfl) (by kernel_rfl) rfl (fun _ => Only.refl _ _) (fun _ _ _ h1 h2 => h1.trans h2 fun _ _ h => h) (by unfold I27; simp; exact RdS.drew' (by simpa using hRT.out)) (fun _ _ _ _ hb h => T27.mono hb h) ?_ ?_
                  · refine And.intro ?_ (And.intro ?_ (And.intro ?_ (And.intro ?_ (And.intro ?_ (And.intro ?_ (And.intro ?_ (And.intro ?_ (And.intro ?_ (And.intro ?_ (And.intro ?_ (And.intro ?_ (And.intro ?_ (And.intro ?_ (And.intro ?_ (And.intro ?_ (And.intro ?_ (And.intro ?_ (And.intro ?_ (And.intro ?_ (And.intro ?_ (And.intro ?_ (And.intro ?_ (And.intro ?_ (And.intro ?_ (And.intro ?_ (And.intro ?_ (And.intro ?_ (And.intro ?_ (And.intro ?_ (And.intro ?_ (And.intro ?_ (And.intro ?_ (True.intro)))))))))))))))))))))))))))))))))
                    · intro listed a' w' hw hl hd K hK
                      refine step_free rfl ?_
                      apply wp_move
                      exact hK _ _ (Only.refl _ _) (I27.same (by decide) hw.inv) (fun s hs => by cases hs; exact hw.kept 8 (by kernel_rfl))
                    · intro listed a' w' hw hl hd K hK
                      refine step_free rfl ?_
                      apply wp_move
                      exact hK _ _ (Only.refl _ _) (I27.same (by decide) hw.inv) (fun s hs => by cases hs; exact hw.kept 1 (by kernel_rfl))
                    · intro listed a' w' hw hl hd K hK
                      have hv136 : a'.tmps.getD 136 undef = .slice (some ⟨b, off, none⟩) n1 c1 := (hw.at_ 1 136 rfl (hd ⟨1, .data⟩ (by simp) rfl))
                      refine step_free rfl ?_
                      unfold Oper.wp
                      simp only [execOp]
                      go_simp
                      exact hK _ _ (Only.refl _ _) (I27.same (by decide) hw.inv) (fun s hs => by cases hs; rfl)
                    · intro listed a' w' hw hl hd K hK
                      have hv135 : a'.tmps.getD 135 undef = .int .i64 (j : Int) := (hw.at_ 0 135 rfl (hd ⟨0, .data⟩ (by simp) rfl))
                      have hv137 : a'.tmps.getD 137 undef = .int .i64 (n1 : Int) := (hw.at_ 2 137 rfl (hd ⟨2, .data⟩ (by simp) rfl))
                      refine step_free rfl ?_
                      unfold Oper.wp
                      simp only [execOp]
                      go_simp
                      exact hK _ _ (Only.refl _ _) (I27.same (by decide) hw.inv) (fun s hs => by cases hs; rfl)
                    · intro listed a' w' hw hl hd K hK
                      refine step_free rfl ?_
                      apply wp_move
                      exact hK _ _ (Only.refl _ _) (I27.same (by decide) hw.inv) (fun s hs => by cases hs; exact (hw.at_ 3 138 rfl (hd ⟨3, .data⟩ (by simp) rfl)))
                    · intro listed a' w' hw hl hd K hK
                      have hgd : a'.tmps.getD 139 undef = .bool true := (hw.at_ 4 139 rfl (hd ⟨4, .guard⟩ (by simp) rfl))
                      refine step_guarded (j := 4) (b := true) (s := 139) rfl rfl (by rw [hw.size]; exact Nat.lt_of_lt_of_eq (show 139 < 179 by omega) rfl) hgd ?_
                      apply wp_move
                      exact hK _ _ (Only.refl _ _) (I27.same (by decide) hw.inv) (fun s hs => by cases hs; exact hw.kept 7 (by kernel_rfl))
                    · intro listed a' w' hw hl hd K hK
                      have hgd : a'.tmps.getD 139 undef = .bool true := (hw.at_ 4 139 rfl (hd ⟨4, .guard⟩ (by simp) rfl))
                      refine step_guarded (j := 4) (b := true) (s := 139) rfl rfl (by rw [hw.size]; exact Nat.lt_of_lt_of_eq (show 139 < 179 by omega) rfl) hgd ?_
                      apply wp_move
                      exact hK _ _ (Only.refl _ _) (I27.same (by decide) hw.inv) (fun s hs => by cases hs; exact hw.kept 1 (by kernel_rfl))
                    · intro listed a' w' hw hl hd K hK
                      have hgd : a'.tmps.getD 139 undef = .bool true := (hw.at_ 4 139 rfl (hd ⟨4, .guard⟩ (by simp) rfl))
                      refine step_guarded (j := 4) (b := true) (s := 139) rfl rfl (by rw [hw.size]; exact Nat.lt_of_lt_of_eq (show 139 < 179 by omega) rfl) hgd ?_
                      apply wp_move
                      exact hK _ _ (Only.refl _ _) (I27.same (by decide) hw.inv) (fun s hs => by cases hs; exact hw.kept 8 (by kernel_rfl))
                    · intro listed a' w' hw hl hd K hK
                      have hgd : a'.tmps.getD 139 undef = .bool true := (hw.at_ 4 139 rfl (hd ⟨4, .guard⟩ (by simp) rfl))
                      have hv141 : a'.tmps.getD 141 undef = .slice (some ⟨b, off, none⟩) n1 c1 := (hw.at_ 6 141 rfl (hd ⟨6, .data⟩ (by simp) rfl))
                      have hv142 : a'.tmps.getD 142 undef = .int .i64 (j : Int) := (hw.at_ 7 142 rfl (hd ⟨7, .data⟩ (by simp) rfl))
                      refine step_guarded (j := 4) (b := true) (s := 139) rfl rfl (by rw [hw.size]; exact Nat.lt_of_lt_of_eq (show 139 < 179 by omega) rfl) hgd ?_
                      unfold Oper.wp
                      simp only [execOp]
                      go_simp
                      exact hK _ _ (Only.refl _ _) (I27.same (by decide) hw.inv) (fun s hs => by cases hs; rfl)
                    · intro listed a' w' hw hl hd K hK
                      have hgd : a'.tmps.getD 139 undef = .bool true := (hw.at_ 4 139 rfl (hd ⟨4, .guard⟩ (by simp) rfl))
                      have hv143 : a'.tmps.getD 143 undef = .pointer (some ⟨b, off + j, none⟩) := (hw.at_ 8 143 rfl (hd ⟨8, .data⟩ (by simp) rfl))
                      have hcl := (hw.inv.cell hbB).trans hcell0.out
                      refine step_guarded (j := 4) (b := true) (s := 139) rfl rfl (by rw [hw.size]; exact Nat.lt_of_lt_of_eq (show 139 < 179 by omega) rfl) hgd ?_
                      unfold Oper.wp
                      simp only [execOp]
                      go_simp
                      exact hK _ _ (Only.refl _ _) (I27.same (by decide) hw.inv) (fun s hs => by cases hs; rfl)
                    · intro listed a' w' hw hl hd K hK
                      have hgd : a'.tmps.getD 139 undef = .bool true := (hw.at_ 4 139 rfl (hd ⟨4, .guard⟩ (by simp) rfl))
                      have hv144 : a'.tmps.getD 144 undef = Value.string s := (hw.at_ 9 144 rfl (hd ⟨9, .data⟩ (by simp) rfl))
                      refine step_guarded (j := 4) (b := true) (s := 139) rfl rfl (by rw [hw.size]; exact Nat.lt_of_lt_of_eq (show 139 < 179 by omega) rfl) hgd ?_
                      unfold Oper.wp
                      simp only [execOp]
                      go_simp
                      exact hK _ _ (Only.refl _ _) (I27.same (by decide) hw.inv) (fun s hs => by cases hs; rfl)
                    · intro listed a' w' hw hl hd K hK
                      have hgd : a'.tmps.getD 139 undef = .bool true := (hw.at_ 4 139 rfl (hd ⟨4, .guard⟩ (by simp) rfl))
                      have hv140 : a'.tmps.getD 140 undef = .pointer (some ⟨q, 0, none⟩) := (hw.at_ 5 140 rfl (hd ⟨5, .data⟩ (by simp) rfl))
                      have hv145 : a'.tmps.getD 145 undef = .int .i64 (s.size : Int) := (hw.at_ 10 145 rfl (hd ⟨10, .data⟩ (by simp) rfl))
                      refine step_guarded (j := 4) (b := true) (s := 139) rfl rfl (by rw [hw.size]; exact Nat.lt_of_lt_of_eq (show 139 < 179 by omega) rfl) hgd ?_
                      unfold Oper.wp
                      simp only [execOp]
                      go_simp
                      obtain ⟨h24, hI⟩ := I27.first hl hw.inv
                      refine (text_any q d ⟨shortL s.size ++ strL s ++ (strL s ++ R3), false⟩ (s.size : Int) w' (by omega) (by have := hs64.out; omega) hI.rd HR8.out).mono ?_
                      unfold TextE
                      rw [HTX.out]
                      rintro e w2 ⟨rfl, h1, h2⟩
                      exact hK _ _ h2.out (I27.at11 (by rw [hw.lsize]; exact Nat.lt_of_lt_of_eq (show 11 < 33 by omega) rfl) h24 hw.inv (hI.step h1 h2)) (fun s hs => by cases hs; rfl)
                    · intro listed a' w' hw hl hd K hK
                      have hgd : a'.tmps.getD 139 undef = .bool true := (hw.at_ 4 139 rfl (hd ⟨4, .guard⟩ (by simp) rfl))
                      refine step_guarded (j := 4) (b := true) (s := 139) rfl rfl (by rw [hw.size]; exact Nat.lt_of_lt_of_eq (show 139 < 179 by omega) rfl) hgd ?_
                      apply wp_move
                      exact hK _ _ (Only.refl _ _) (I27.same (by decide) hw.inv) (fun s hs => by cases hs; exact hw.kept 1 (by kernel_rfl))
                    · intro listed a' w' hw hl hd K hK
                      have hgd : a'.tmps.getD 139 undef = .bool true := (hw.at_ 4 139 rfl (hd ⟨4, .guard⟩ (by simp) rfl))
                      refine step_guarded (j := 4) (b := true) (s := 139) rfl rfl (by rw [hw.size]; exact Nat.lt_of_lt_of_eq (show 139 < 179 by omega) rfl) hgd ?_
                      apply wp_move
                      exact hK _ _ (Only.refl _ _) (I27.same (by decide) hw.inv) (fun s hs => by cases hs; exact hw.kept 8 (by kernel_rfl))
                    · intro listed a' w' hw hl hd K hK
                      have hgd : a'.tmps.getD 139 undef = .bool true := (hw.at_ 4 139 rfl (hd ⟨4, .guard⟩ (by simp) rfl))
                      have hv147 : a'.tmps.getD 147 undef = .slice (some ⟨b, off, none⟩) n1 c1 := (hw.at_ 12 147 rfl (hd ⟨12, .data⟩ (by simp) rfl))
                      have hv148 : a'.tmps.getD 148 undef = .int .i64 (j : Int) := (hw.at_ 13 148 rfl (hd ⟨13, .data⟩ (by simp) rfl))
                      refine step_guarded (j := 4) (b := true) (s := 139) rfl rfl (by rw [hw.size]; exact Nat.lt_of_lt_of_eq (show 139 < 179 by omega) rfl) hgd ?_
                      unfold Oper.wp
                      simp only [execOp]
                      go_simp
                      exact hK _ _ (Only.refl _ _) (I27.same (by decide) hw.inv) (fun s hs => by cases hs; rfl)
                    · intro listed a' w' hw hl hd K hK
                      have hgd : a'.tmps.getD 139 undef = .bool true := (hw.at_ 4 139 rfl (hd ⟨4, .guard⟩ (by simp) rfl))
                      have hv149 : a'.tmps.getD 149 undef = .pointer (some ⟨b, off + j, none⟩) := (hw.at_ 14 149 rfl (hd ⟨14, .data⟩ (by simp) rfl))
                      have hcl := (hw.inv.cell hbB).trans hcell0.out
                      refine step_guarded (j := 4) (b := true) (s := 139) rfl rfl (by rw [hw.size]; exact Nat.lt_of_lt_of_eq (show 139 < 179 by omega) rfl) hgd ?_
                      unfold Oper.wp
                      simp only [execOp]
                      go_simp
                      exact hK _ _ (Only.refl _ _) (I27.same (by decide) hw.inv) (fun s hs => by cases hs; rfl)
                    · intro listed a' w' hw hl hd K hK
                      have hgd : a'.tmps.getD 139 undef = .bool true := (hw.at_ 4 139 rfl (hd ⟨4, .guard⟩ (by simp) rfl))
                      have hv146 : a'.tmps.getD 146 undef = Value.string s := (hw.at_ 11 146 rfl (hd ⟨11, .data⟩ (by simp) rfl))
                      have hv150 : a'.tmps.getD 150 undef = Value.string s := (hw.at_ 15 150 rfl (hd ⟨15, .data⟩ (by simp) rfl))
                      refine step_guarded (j := 4) (b := true) (s := 139) rfl rfl (by rw [hw.size]; exact Nat.lt_of_lt_of_eq (show 139 < 179 by omega) rfl) hgd ?_
                      unfold Oper.wp
                      simp only [execOp]
                      go_simp
                      exact hK _ _ (Only.refl _ _) (I27.at16 (by rw [hw.lsize]; exact Nat.lt_of_lt_of_eq (show 16 < 33 by omega) rfl) (hd ⟨11, .data⟩ (by simp) rfl) hw.inv) (fun s hs => by cases hs; rfl)
                    · intro listed a' w' hw hl hd K hK
                      have hgd : a'.tmps.getD 139 undef = .bool true := (hw.at_ 4 139 rfl (hd ⟨4, .guard⟩ (by simp) rfl))
                      refine step_guarded (j := 4) (b := true) (s := 139) rfl rfl (by rw [hw.size]; exact Nat.lt_of_lt_of_eq (show 139 < 179 by omega) rfl) hgd ?_
                      apply wp_move
                      exact hK _ _ (Only.refl _ _) (I27.at17 (by rw [hw.lsize]; exact Nat.lt_of_lt_of_eq (show 17 < 33 by omega) rfl) (hd ⟨16, .data⟩ (by simp) rfl) hw.inv) (fun s hs => by cases hs; exact (hw.at_ 16 151 rfl (hd ⟨16, .data⟩ (by simp) rfl)))
                    · intro listed a' w' hw hl hd K hK
                      have hgd : a'.tmps.getD 152 undef = .bool false := (hw.at_ 17 152 rfl (hd ⟨17, .guard⟩ (by simp) rfl))
                      refine step_guarded (j := 17) (b := false) (s := 152) rfl rfl (by rw [hw.size]; exact Nat.lt_of_lt_of_eq (show 152 < 179 by omega) rfl) hgd ?_
                      apply wp_move
                      exact hK _ _ (Only.refl _ _) (I27.same (by decide) hw.inv) (fun s hs => by cases hs; exact hw.kept 7 (by kernel_rfl))
                    · intro listed a' w' hw hl hd K hK
                      have hgd : a'.tmps.getD 152 undef = .bool false := (hw.at_ 17 152 rfl (hd ⟨17, .guard⟩ (by simp) rfl))
                      refine step_guarded (j := 17) (b := false) (s := 152) rfl rfl (by rw [hw.size]; exact Nat.lt_of_lt_of_eq (show 152 < 179 by omega) rfl) hgd ?_
                      apply wp_move
                      exact hK _ _ (Only.refl _ _) (I27.same (by decide) hw.inv) (fun s hs => by cases hs; exact hw.kept 1 (by kernel_rfl))
                    · intro listed a' w' hw hl hd K hK
                      have hgd : a'.tmps.getD 152 undef = .bool false := (hw.at_ 17 152 rfl (hd ⟨17, .guard⟩ (by simp) rfl))
                      refine step_guarded (j := 17) (b := false) (s := 152) rfl rfl (by rw [hw.size]; exact Nat.lt_of_lt_of_eq (show 152 < 179 by omega) rfl) hgd ?_
                      apply wp_move
                      exact hK _ _ (Only.refl _ _) (I27.same (by decide) hw.inv) (fun s hs => by cases hs; exact hw.kept 8 (by kernel_rfl))
                    · intro listed a' w' hw hl hd K hK
                      have hgd : a'.tmps.getD 152 undef = .bool false := (hw.at_ 17 152 rfl (hd ⟨17, .guard⟩ (by simp) rfl))
                      have hv154 : a'.tmps.getD 154 undef = .slice (some ⟨b, off, none⟩) n1 c1 := (hw.at_ 19 154 rfl (hd ⟨19, .data⟩ (by simp) rfl))
                      have hv155 : a'.tmps.getD 155 undef = .int .i64 (j : Int) := (hw.at_ 20 155 rfl (hd ⟨20, .data⟩ (by simp) rfl))
                      refine step_guarded (j := 17) (b := false) (s := 152) rfl rfl (by rw [hw.size]; exact Nat.lt_of_lt_of_eq (show 152 < 179 by omega) rfl) hgd ?_
                      unfold Oper.wp
                      simp only [execOp]
                      go_simp
                      exact hK _ _ (Only.refl _ _) (I27.same (by decide) hw.inv) (fun s hs => by cases hs; rfl)
                    · intro listed a' w' hw hl hd K hK
                      have hgd : a'.tmps.getD 152 undef = .bool false := (hw.at_ 17 152 rfl (hd ⟨17, .guard⟩ (by simp) rfl))
                      have hv156 : a'.tmps.getD 156 undef = .pointer (some ⟨b, off + j, none⟩) := (hw.at_ 21 156 rfl (hd ⟨21, .data⟩ (by simp) rfl))
                      have hcl := (hw.inv.cell hbB).trans hcell0.out
                      refine step_guarded (j := 17) (b := false) (s := 152) rfl rfl (by rw [hw.size]; exact Nat.lt_of_lt_of_eq (show 152 < 179 by omega) rfl) hgd ?_
                      unfold Oper.wp
                      simp only [execOp]
                      go_simp
                      exact hK _ _ (Only.refl _ _) (I27.same (by decide) hw.inv) (fun s hs => by cases hs; rfl)
                    · intro listed a' w' hw hl hd K hK
                      have hgd : a'.tmps.getD 152 undef = .bool false := (hw.at_ 17 152 rfl (hd ⟨17, .guard⟩ (by simp) rfl))
                      have hv157 : a'.tmps.getD 157 undef = Value.string s := (hw.at_ 22 157 rfl (hd ⟨22, .data⟩ (by simp) rfl))
                      refine step_guarded (j := 17) (b := false) (s := 152) rfl rfl (by rw [hw.size]; exact Nat.lt_of_lt_of_eq (show 152 < 179 by omega) rfl) hgd ?_
                      unfold Oper.wp
                      simp only [execOp]
                      go_simp
                      exact hK _ _ (Only.refl _ _) (I27.same (by decide) hw.inv) (fun s hs => by cases hs; rfl)
                    · intro listed a' w' hw hl hd K hK
                      have hgd : a'.tmps.getD 152 undef = .bool false := (hw.at_ 17 152 rfl (hd ⟨17, .guard⟩ (by simp) rfl))
                      have hv153 : a'.tmps.getD 153 undef = .pointer (some ⟨q, 0, none⟩) := (hw.at_ 18 153 rfl (hd ⟨18, .data⟩ (by simp) rfl))
                      have hv158 : a'.tmps.getD 158 undef = .int .i64 (s.size : Int) := (hw.at_ 23 158 rfl (hd ⟨23, .data⟩ (by simp) rfl))
                      refine step_guarded (j := 17) (b := false) (s := 152) rfl rfl (by rw [hw.size]; exact Nat.lt_of_lt_of_eq (show 152 < 179 by omega) rfl) hgd ?_
                      unfold Oper.wp
                      simp only [execOp]
                      go_simp
                      have hI := I27.second (hd ⟨17, .guard⟩ (by simp) rfl) hl hw.inv
                      refine (raw_any q d ⟨strL s ++ R3, false⟩ (s.size : Int) w' hI.rd).mono ?_
                      unfold RawE
                      rw [HRX.out]
                      rintro e w2 ⟨A2, c2, rfl, h1, h2, h3, h4⟩
                      exact hK _ _ h4.out (I27.at24 (by rw [hw.lsize]; exact Nat.lt_of_lt_of_eq (show 24 < 33 by omega) rfl) (hd ⟨17, .guard⟩ (by simp) rfl) hw.inv (hI.step h1 h4)) (fun s hs => by cases hs; exact ⟨A2, c2, rfl, h2.out.bytes, fun e => by rcases h3.out with e2 | e2; rw [e2] at e; cases e; exact hI.rd.ne (by decide) (e2.symm.trans e)⟩)
                    · intro listed a' w' hw hl hd K hK
                      have hgd : a'.tmps.getD 152 undef = .bool false := (hw.at_ 17 152 rfl (hd ⟨17, .guard⟩ (by simp) rfl))
                      have hv159 : BytesQ q (strL s) w' (a'.tmps.getD 159 undef) := (hw.at_ 24 159 rfl (hd ⟨24, .data⟩ (by simp) rfl))
                      refine step_guarded (j := 17) (b := false) (s := 152) rfl rfl (by rw [hw.size]; exact Nat.lt_of_lt_of_eq (show 152 < 179 by omega) rfl) hgd ?_
                      obtain ⟨A2, c2, hv, hb2, _⟩ := hv159
                      have C := conv_str c2 hb2 rfl
                      unfold Oper.wp
                      simp only [execOp]
                      go_simp
                      exact hK _ _ (Only.refl _ _) (I27.same (by decide) hw.inv) (fun s hs => by cases hs; rfl)
                    · intro listed a' w' hw hl hd K hK
                      have hgd : a'.tmps.getD 152 undef = .bool false := (hw.at_ 17 152 rfl (hd ⟨17, .guard⟩ (by simp) rfl))
                      refine step_guarded (j := 17) (b := false) (s := 152) rfl rfl (by rw [hw.size]; exact Nat.lt_of_lt_of_eq (show 152 < 179 by omega) rfl) hgd ?_
                      apply wp_move
                      exact hK _ _ (Only.refl _ _) (I27.same (by decide) hw.inv) (fun s hs => by cases hs; exact hw.kept 1 (by kernel_rfl))
                    · intro listed a' w' hw hl hd K hK
                      have hgd : a'.tmps.getD 152 undef = .bool false := (hw.at_ 17 152 rfl (hd ⟨17, .guard⟩ (by simp) rfl))
                      refine step_guarded (j := 17) (b := false) (s := 152) rfl rfl (by rw [hw.size]; exact Nat.lt_of_lt_of_eq (show 152 < 179 by omega) rfl) hgd ?_
                      apply wp_move
                      exact hK _ _ (Only.refl _ _) (I27.same (by decide) hw.inv) (fun s hs => by cases hs; exact hw.kept 8 (by kernel_rfl))
                    · intro listed a' w' hw hl hd K hK
                      have hgd : a'.tmps.getD 152 undef = .bool false := (hw.at_ 17 152 rfl (hd ⟨17, .guard⟩ (by simp) rfl))
                      have hv161 : a'.tmps.getD 161 undef = .slice (some ⟨b, off, none⟩) n1 c1 := (hw.at_ 26 161 rfl (hd ⟨26, .data⟩ (by simp) rfl))
                      have hv162 : a'.tmps.getD 162 undef = .int .i64 (j : Int) := (hw.at_ 27 162 rfl (hd ⟨27, .data⟩ (by simp) rfl))
                      refine step_guarded (j := 17) (b := false) (s := 152) rfl rfl (by rw [hw.size]; exact Nat.lt_of_lt_of_eq (show 152 < 179 by omega) rfl) hgd ?_
                      unfold Oper.wp
                      simp only [execOp]
                      go_simp
                      exact hK _ _ (Only.refl _ _) (I27.same (by decide) hw.inv) (fun s hs => by cases hs; rfl)
                    · intro listed a' w' hw hl hd K hK
                      have hgd : a'.tmps.getD 152 undef = .bool false := (hw.at_ 17 152 rfl (hd ⟨17, .guard⟩ (by simp) rfl))
                      have hv163 : a'.tmps.getD 163 undef = .pointer (some ⟨b, off + j, none⟩) := (hw.at_ 28 163 rfl (hd ⟨28, .data⟩ (by simp) rfl))
                      have hcl := (hw.inv.cell hbB).trans hcell0.out
                      refine step_guarded (j := 17) (b := false) (s := 152) rfl rfl (by rw [hw.size]; exact Nat.lt_of_lt_of_eq (show 152 < 179 by omega) rfl) hgd ?_
                      unfold Oper.wp
                      simp only [execOp]
                      go_simp
                      exact hK _ _ (Only.refl _ _) (I27.same (by decide) hw.inv) (fun s hs => by cases hs; rfl)
                    · intro listed a' w' hw hl hd K hK
                      have hgd : a'.tmps.getD 152 undef = .bool false := (hw.at_ 17 152 rfl (hd ⟨17, .guard⟩ (by simp) rfl))
                      have hv160 : a'.tmps.getD 160 undef = Value.string s := (hw.at_ 25 160 rfl (hd ⟨25, .data⟩ (by simp) rfl))
                      have hv164 : a'.tmps.getD 164 undef = Value.string s := (hw.at_ 29 164 rfl (hd ⟨29, .data⟩ (by simp) rfl))
                      refine step_guarded (j := 17) (b := false) (s := 152) rfl rfl (by rw [hw.size]; exact Nat.lt_of_lt_of_eq (show 152 < 179 by omega) rfl) hgd ?_
                      unfold Oper.wp
                      simp only [execOp]
                      go_simp
                      exact hK _ _ (Only.refl _ _) (I27.same (by decide) hw.inv) (fun s hs => by cases hs; rfl)
                    · intro listed a' w' hw hl hd K hK
                      have hgd : a'.tmps.getD 139 undef = .bool true := (hw.at_ 4 139 rfl (hd ⟨4, .guard⟩ (by simp) rfl))
                      have hv152 : a'.tmps.getD 152 undef = .bool false := (hw.at_ 17 152 rfl (hd ⟨17, .data⟩ (by simp) rfl))
                      have hv165 : a'.tmps.getD 165 undef = .bool false := (hw.at_ 30 165 rfl (hd ⟨30, .data⟩ (by simp) rfl))
                      refine step_guarded (j := 4) (b := true) (s := 139) rfl rfl (by rw [hw.size]; exact Nat.lt_of_lt_of_eq (show 139 < 179 by omega) rfl) hgd ?_
                      unfold Oper.wp
                      simp only [execOp]
                      go_simp
                      exact hK _ _ (Only.refl _ _) (I27.same (by decide) hw.inv) (fun s hs => by cases hs; rfl)
                    · intro listed a' w' hw hl hd K hK
                      have hv139 : a'.tmps.getD 139 undef = .bool true := (hw.at_ 4 139 rfl (hd ⟨4, .data⟩ (by simp) rfl))
                      have hv166 : a'.tmps.getD 166 undef = .bool false := (hw.at_ 31 166 rfl (hd ⟨31, .data⟩ (by simp) rfl))
                      refine step_free rfl ?_
                      unfold Oper.wp
                      simp only [execOp]
                      go_simp
                      exact hK _ _ (Only.refl _ _) (I27.same (by decide) hw.inv) (fun s hs => by cases hs; rfl)
                  · intro listed a' w' hw hall
                    have hk167 : a'.tmps.getD 167 undef = .bool false := hw.at_ 32 167 rfl (hall 32 (Nat.lt_of_lt_of_eq (show 32 < 33 by omega) rfl))
                    have hR : Hid (RdS RdT w.heap.size w w' q d ⟨R3, false⟩) := Lib.hid (by have h := hw.inv; unfold I27 at h; rw [hall 24 (Nat.lt_of_lt_of_eq (show 24 < 33 by omega) rfl), if_pos rfl] at h; exact h.2.2.2)
                    have hp := hw.puts [135, 136, 137, 138, 139, 140, 141, 142, 143, 144, 145, 146, 147, 148, 149, 150, 151, 152, 153, 154, 155, 156, 157, 158, 159, 160, 161, 162, 163, 164, 165, 166, 167] (by kernel_rfl)
                    clear hw hall
                    rw [hp]
                    simp only [List.foldl_cons, List.foldl_nil, hk167]
                    generalize a'.tmps.getD 135 undef = u135
                    generalize a'.tmps.getD 136 undef = u136
                    generalize a'.tmps.getD 137 undef = u137
                    generalize a'.tmps.getD 138 undef = u138
                    generalize a'.tmps.getD 139 undef = u139
                    generalize a'.tmps.getD 140 undef = u140
                    generalize a'.tmps.getD 141 undef = u141
                    generalize a'.tmps.getD 142 undef = u142
                    generalize a'.tmps.getD 143 undef = u143
                    generalize a'.tmps.getD 144 undef = u144
                    generalize a'.tmps.getD 145 undef = u145
                    generalize a'.tmps.getD 146 undef = u146
                    generalize a'.tmps.getD 147 undef = u147
                    generalize a'.tmps.getD 148 undef = u148
                    generalize a'.tmps.getD 149 undef = u149
                    generalize a'.tmps.getD 150 undef = u150
                    generalize a'.tmps.getD 151 undef = u151
                    generalize a'.tmps.getD 152 undef = u152
                    generalize a'.tmps.getD 153 undef = u153
                    generalize a'.tmps.getD 154 undef = u154
                    generalize a'.tmps.getD 155 undef = u155
                    generalize a'.tmps.getD 156 undef = u156
                    generalize a'.tmps.getD 157 undef = u157
                    generalize a'.tmps.getD 158 undef = u158
                    generalize a'.tmps.getD 159 undef = u159
                    generalize a'.tmps.getD 160 undef = u160
                    generalize a'.tmps.getD 161 undef = u161
                    generalize a'.tmps.getD 162 undef = u162
                    generalize a'.tmps.getD 163 undef = u163
                    generalize a'.tmps.getD 164 undef = u164
                    generalize a'.tmps.getD 165 undef = u165
                    generalize a'.tmps.getD 166 undef = u166
                    clear hp hk167
                    simp only [Act.put, List.setIfInBounds_toArray, List.set_cons_succ, List.set_cons_zero]
                    clear hRT
                    go_wp2
                    go_roundw
                    case rel => exact ⟨j + 1, m, by omega, by go_num, Lib.hid (by rw [HR3.out]; exact hR.out), Lib.hid (by rw [HR3.out]; exact HL3.out)⟩
                    case measure => simp [intOf]; omega
                · have g1 : ¬ (j : Int) < (n1 : Int) := by omega
                  obtain rfl : m0 = 0 := by omega
                  have hR0 : Hid (RdS RdT w.heap.size w wr q d ⟨[], false⟩) := hR
                  clear hR hLe hLm HL HS HU HSA
                  go_wp2_with fail
                  refine (left_any q d [] false 0 wr hR0.out.rd rfl).mono ?_
                  rintro e V3 ⟨rfl, rfl⟩
                  go_wp2_with fail
                  refine (end_any q d ⟨[], false⟩ wr hR0.out.rd).mono ?_
                  rintro e V4 ⟨rfl, h1, h2⟩
                  have r4 := Lib.hid (hR0.out.step (s' := rEnd ⟨[], false⟩) h1 h2)
                  clear hR0 h1 h2
                  go_wp2_with fail
                  refine (awake_any V4).mono ?_
                  rintro e V5 ⟨rfl, hb⟩
                  go_wp2
                  go_ret
                  exact ⟨rfl, Lib.hid (r4.out.below.trans (hb.out.mono r4.out.size))⟩
end Go.Proofs.Ytadpbcbgmopfaaa
