/-
  The statement SumCuts: wherever bytes are cut into three parts, their sum is one, and with another byte behind them it is another one than with this one. No condition but the row's own: the package's table lies as the program's text lays it.
-/
import Derived.Test.YthobaicphdhflaaDoorLaw
import Derived.Deep.RegionHeld3
namespace Go.Proofs.YthobaicphdhflaaDoor
open Go.RowKit

/-- Parts in a new array: what their sum is, wherever the array lies. -/
theorem of_cells (b m cap c : Nat) (ls : List (List UInt8)) (w : World) (ht : Tab w) (hm : ls.length = m) (h0 : 0 < m) (hmm : m ≤ 16)
    (hc : ∀ k, k < m → ∃ A cap', w.cell? ⟨b, k, none⟩ = some (.slice A (ls.getD k []).length cap') ∧ Bytes w w.heap.size A (ls.getD k []) ∧ (ls.getD k []).length ≤ 140737488355328) (he : Crc.crc ls.flatten = c) :
    Calls Tryd.prog 14 #[.slice (some ⟨b, 0, none⟩) m cap] w fun e w' => e = .returned (.int .u32 (c : Int)) ∧ w = w' := by
  subst hm he
  refine of_any (some ⟨b, 0, none⟩) ls cap w.heap.size w ht (fun _ => ⟨b, 0, rfl, ?_, fun k hk => ?_⟩) (by unfold maxLen; omega)
  · obtain ⟨_, _, h, _⟩ := hc 0 h0
    exact World.block_lt_of_cell? _ _ h
  · rw [Nat.zero_add]
    exact hc k hk

theorem up_u8 (x : Nat) : ((x : Int) + 1) % 256 = (((UInt8.ofNat (x + 1)).toNat : Nat) : Int) := by
  rw [UInt8.toNat_ofNat']; omega
theorem Tab.of_heap {w w' : World} (h : Tab w) (hh : w'.heap = w.heap) : Tab w' := fun k hk => by
  have := h k hk
  simp only [World.cell?, hh] at this ⊢
  exact this
theorem Bytes.of_heap {w w' : World} {B : Nat} {A : Option Addr} {l : List UInt8} (h : Bytes w B A l) (hh : w'.heap = w.heap) : Bytes w' B A l := h.keep fun b o _ => by simp only [World.cell?, hh]
theorem cell_of_heap {w w' : World} (hh : w'.heap = w.heap) (a : Addr) : w'.cell? a = w.cell? a := by simp only [World.cell?, hh]
theorem Bytes.cutAt {w : World} {B cap : Nat} {A : Option Addr} {l : List UInt8} (h : Bytes w B A l) (hc : l.length ≤ cap) (k : Nat) : Bytes w B (if cap = k then A else Option.map (fun x => x.add k) A) (l.drop k) := fun hn => by
  rw [List.length_drop] at hn
  obtain ⟨b, off, rfl, hb, hcell⟩ := h (by omega)
  rw [if_neg (by omega)]
  refine ⟨b, off + k, by rw [Option.map_some, add_mk], hb, fun j hj => ?_⟩
  rw [List.length_drop] at hj
  rw [Nat.add_assoc, hcell (k + j) (by omega)]
  simp [at8, List.getD, List.getElem?_drop]

/-- The three parts. -/
def cutW (W : World) (A A1 A2 : Option Addr) (p q n cap : Nat) : World := W.alloc (.cells #[.slice A p cap, .slice A1 (q - p) (cap - p), .slice A2 (n - q) (cap - q)] 25)
theorem stage1 (W V : World) (A A1 A2 : Option Addr) (l : List UInt8) (p q n cap c : Nat) (hV : V.heap = (cutW W A A1 A2 p q n cap).heap) (ht : Tab W) (hn : l.length = n) (hpq : p ≤ q) (hqn : q ≤ n) (hle : n ≤ 65536)
    (b0 : Bytes W W.heap.size A l) (b1 : Bytes W W.heap.size A1 (l.drop p)) (b2 : Bytes W W.heap.size A2 (l.drop q)) (he : Crc.crc l = c) :
    Calls Tryd.prog 14 #[.slice (some ⟨W.heap.size, 0, none⟩) 3 3] V fun e w' => e = .returned (.int .u32 (c : Int)) ∧ V = w' := by
  have hB : ∀ {A : Option Addr} {m : List UInt8}, Bytes W W.heap.size A m → Bytes V V.heap.size A m := fun h => (h.alloc (Nat.le_refl _) _).of_heap hV |>.more (by rw [hV]; simp [cutW])
  have hcell : ∀ k, V.cell? ⟨W.heap.size, k, none⟩ = #[Value.slice A p cap, .slice A1 (q - p) (cap - p), .slice A2 (n - q) (cap - q)][k]? := fun k => by rw [cell_of_heap hV]; exact World.cell?_alloc_mark _ _ _ _ _
  refine of_cells W.heap.size 3 3 c [l.take p, (l.drop p).take (q - p), l.drop q] V ((ht.alloc _).of_heap hV) rfl (by omega) (by omega) (fun k hk => ?_) ?_
  · have hk' : k = 0 ∨ k = 1 ∨ k = 2 := by omega
    rcases hk' with rfl | rfl | rfl
    · refine ⟨A, cap, ?_, hB (b0.front p), by show (l.take p).length ≤ _; rw [List.length_take]; omega⟩
      rw [hcell]; show some (Value.slice A p cap) = some (.slice A (l.take p).length cap); rw [List.length_take, Nat.min_eq_left (by omega)]
    · refine ⟨A1, cap - p, ?_, hB (b1.front (q - p)), by show ((l.drop p).take (q - p)).length ≤ _; rw [List.length_take]; omega⟩
      rw [hcell]; show some (Value.slice A1 (q - p) (cap - p)) = some (.slice A1 ((l.drop p).take (q - p)).length (cap - p)); rw [List.length_take, List.length_drop, Nat.min_eq_left (by omega)]
    · refine ⟨A2, cap - q, ?_, hB b2, by show (l.drop q).length ≤ _; rw [List.length_drop]; omega⟩
      rw [hcell]; show some (Value.slice A2 (n - q) (cap - q)) = some (.slice A2 (l.drop q).length (cap - q)); rw [List.length_drop, hn]
  · rw [← he]
    congr 1
    have h1 : l.drop q = (l.drop p).drop (q - p) := by rw [List.drop_drop]; congr 1; omega
    simp only [List.flatten_cons, List.flatten_nil, List.append_nil]
    rw [h1, List.take_append_drop, List.take_append_drop]

/-- Two halves, nothing between, and a byte behind. -/
def fiveW (W : World) (A A2 : Option Addr) (q n cap : Nat) (x : UInt8) : World :=
  (W.alloc (.cells #[.int .u8 ((x.toNat : Nat) : Int)] 5)).alloc (.cells #[.slice none 0 0, .slice A q cap, .slice none 0 0, .slice A2 (n - q) (cap - q), .slice (some ⟨W.heap.size, 0, none⟩) 1 1] 25)
theorem one_byte (W : World) (x : UInt8) : Bytes (W.alloc (.cells #[.int .u8 ((x.toNat : Nat) : Int)] 5)) (W.heap.size + 1) (some ⟨W.heap.size, 0, none⟩) [x] := bytes_marked W [x] (0, 0)
theorem stage2 (W V : World) (A A2 : Option Addr) (l : List UInt8) (q n cap c : Nat) (x : UInt8) (hV : V.heap = (fiveW W A A2 q n cap x).heap) (ht : Tab W) (hn : l.length = n) (hqn : q ≤ n) (hle : n ≤ 65536)
    (b0 : Bytes W W.heap.size A l) (b2 : Bytes W W.heap.size A2 (l.drop q)) (he : Crc.crc (l ++ [x]) = c) :
    Calls Tryd.prog 14 #[.slice (some ⟨W.heap.size + 1, 0, none⟩) 5 5] V fun e w' => e = .returned (.int .u32 (c : Int)) ∧ V = w' := by
  have hs : (W.alloc (.cells #[.int .u8 ((x.toNat : Nat) : Int)] 5)).heap.size = W.heap.size + 1 := by simp
  have hB : ∀ {A : Option Addr} {m : List UInt8}, Bytes W W.heap.size A m → Bytes V V.heap.size A m := fun h => ((h.alloc (Nat.le_refl _) _).alloc (by rw [hs]; omega) _).of_heap hV |>.more (by rw [hV]; simp [fiveW]; omega)
  have hX : Bytes V V.heap.size (some ⟨W.heap.size, 0, none⟩) [x] := ((one_byte W x).alloc (by rw [hs]; omega) _).of_heap hV |>.more (by rw [hV]; simp [fiveW])
  have hcell : ∀ k, V.cell? ⟨W.heap.size + 1, k, none⟩ = #[Value.slice none 0 0, .slice A q cap, .slice none 0 0, .slice A2 (n - q) (cap - q), .slice (some ⟨W.heap.size, 0, none⟩) 1 1][k]? := fun k => by
    rw [cell_of_heap hV, ← hs]; exact World.cell?_alloc_mark _ _ _ _ _
  refine of_cells (W.heap.size + 1) 5 5 c [[], l.take q, [], l.drop q, [x]] V (((ht.alloc _).alloc _).of_heap hV) rfl (by omega) (by omega) (fun k hk => ?_) ?_
  · have hk' : k = 0 ∨ k = 1 ∨ k = 2 ∨ k = 3 ∨ k = 4 := by omega
    rcases hk' with rfl | rfl | rfl | rfl | rfl
    · exact ⟨none, 0, hcell 0, Bytes.nil_, by show 0 ≤ _; omega⟩
    · refine ⟨A, cap, ?_, hB (b0.front q), by show (l.take q).length ≤ _; rw [List.length_take]; omega⟩
      rw [hcell]; show some (Value.slice A q cap) = some (.slice A (l.take q).length cap); rw [List.length_take, Nat.min_eq_left (by omega)]
    · exact ⟨none, 0, hcell 2, Bytes.nil_, by show 0 ≤ _; omega⟩
    · refine ⟨A2, cap - q, ?_, hB b2, by show (l.drop q).length ≤ _; rw [List.length_drop]; omega⟩
      rw [hcell]; show some (Value.slice A2 (n - q) (cap - q)) = some (.slice A2 (l.drop q).length (cap - q)); rw [List.length_drop, hn]
    · exact ⟨some ⟨W.heap.size, 0, none⟩, 1, hcell 4, hX, by show 1 ≤ _; omega⟩
  · rw [← he]
    congr 1
    simp only [List.flatten_cons, List.flatten_nil, List.append_nil, List.nil_append]
    rw [← List.append_assoc, List.take_append_drop]

/-- All of it, and a byte behind. -/
def twoW (W : World) (A : Option Addr) (n cap : Nat) (x : UInt8) : World :=
  (W.alloc (.cells #[.int .u8 ((x.toNat : Nat) : Int)] 5)).alloc (.cells #[.slice A n cap, .slice (some ⟨W.heap.size, 0, none⟩) 1 1] 25)
theorem stage3 (W V : World) (A : Option Addr) (l : List UInt8) (n cap c : Nat) (x : UInt8) (hV : V.heap = (twoW W A n cap x).heap) (ht : Tab W) (hn : l.length = n) (hle : n ≤ 65536)
    (b0 : Bytes W W.heap.size A l) (he : Crc.crc (l ++ [x]) = c) :
    Calls Tryd.prog 14 #[.slice (some ⟨W.heap.size + 1, 0, none⟩) 2 2] V fun e w' => e = .returned (.int .u32 (c : Int)) ∧ V = w' := by
  have hs : (W.alloc (.cells #[.int .u8 ((x.toNat : Nat) : Int)] 5)).heap.size = W.heap.size + 1 := by simp
  have hB : ∀ {A : Option Addr} {m : List UInt8}, Bytes W W.heap.size A m → Bytes V V.heap.size A m := fun h => ((h.alloc (Nat.le_refl _) _).alloc (by rw [hs]; omega) _).of_heap hV |>.more (by rw [hV]; simp [twoW]; omega)
  have hX : Bytes V V.heap.size (some ⟨W.heap.size, 0, none⟩) [x] := ((one_byte W x).alloc (by rw [hs]; omega) _).of_heap hV |>.more (by rw [hV]; simp [twoW])
  have hcell : ∀ k, V.cell? ⟨W.heap.size + 1, k, none⟩ = #[Value.slice A n cap, .slice (some ⟨W.heap.size, 0, none⟩) 1 1][k]? := fun k => by
    rw [cell_of_heap hV, ← hs]; exact World.cell?_alloc_mark _ _ _ _ _
  refine of_cells (W.heap.size + 1) 2 2 c [l, [x]] V (((ht.alloc _).alloc _).of_heap hV) rfl (by omega) (by omega) (fun k hk => ?_) ?_
  · have hk' : k = 0 ∨ k = 1 := by omega
    rcases hk' with rfl | rfl
    · refine ⟨A, cap, ?_, hB b0, by show l.length ≤ _; omega⟩
      rw [hcell]; show some (Value.slice A n cap) = some (.slice A l.length cap); rw [hn]
    · exact ⟨some ⟨W.heap.size, 0, none⟩, 1, hcell 1, hX, by show 1 ≤ _; omega⟩
  · rw [← he]
    simp

set_option maxHeartbeats 3200000 in
theorem cuts_walk (A : Option Addr) (l : List UInt8) (cap : Nat) (p q : Int) (x : UInt8) (w : World) (ht : Tab w) (hb : Bytes w w.heap.size A l) (hA : A = none → cap = 0) (hc : l.length ≤ cap) (hr : cap ≤ 140737488351232) :
    Calls Tryd.prog 6 #[.slice A l.length cap, .int .i64 p, .int .i64 q, .int .u8 ((x.toNat : Nat) : Int)] w fun e w' => e = .returned (.bool true) ∧ Hid (Below w.heap.size w w') := by
  have HT := Lib.hid ht
  have HB := Lib.hid hb
  have HA := Lib.hid hA
  clear ht hb hA
  generalize hn : l.length = n at hc ⊢
  have HN := Lib.hid hn
  clear hn
  go_enter Tryd.func6, Tryd.ntmps6
  go_wp2_with fail
  refine (long_one A l n cap w HN.out HB.out (by omega)).mono ?_
  rintro e W1 ⟨rfl, hW⟩
  have hT1 : Hid (Tab W1) := by rw [← hW]; exact HT.out.alloc _
  have hb1 : Hid (Below w.heap.size w W1) := by rw [← hW]; exact (Below.refl _ _).alloc (Nat.le_refl _) _
  clear hW
  by_cases hok : n ≤ 65536 ∧ 0 ≤ p ∧ p ≤ q ∧ q ≤ (n : Int)
  · obtain ⟨o1, o2, o3, o4⟩ := hok
    have hd : decide (65536 < n) = false := decide_eq_false (by omega)
    obtain ⟨pn, rfl⟩ := Int.eq_ofNat_of_zero_le o2
    obtain ⟨qn, rfl⟩ := Int.eq_ofNat_of_zero_le (show 0 ≤ q by omega)
    have g1 : ¬ (pn : Int) < 0 := by omega
    have g2 : ¬ (qn : Int) < (pn : Int) := by omega
    have g3 : ¬ (n : Int) < (qn : Int) := by omega
    have hB1 : Hid (Bytes W1 W1.heap.size A l) := Lib.hid ((HB.out.below hb1.out).more hb1.out.size)
    go_wp2_with fail
    refine (of_one W1.heap.size 0 1 A n cap l _ (by exact hT1.out.alloc _) HN.out (by exact cell_one_at W1 _ _) (by exact (hB1.out.alloc (Nat.le_refl _) _).more (by simp)) (by rw [HN.out]; omega)).mono ?_
    rintro e W2 ⟨rfl, hW⟩
    have hb2 : Hid (Below w.heap.size w W2) := by rw [← hW]; exact hb1.out.alloc hb1.out.size _
    have hT2 : Hid (Tab W2) := Lib.hid (HT.out.below HT.out.pos hb2.out)
    have hB2 : Hid (Bytes W2 W2.heap.size A l) := Lib.hid ((HB.out.below hb2.out).more hb2.out.size)
    clear hW hb1 hT1 hB1
    generalize hcr : Crc.crc l = c1
    generalize hcr2 : Crc.crc (l ++ [x]) = c2
    have HC1 := Lib.hid hcr
    have HC2 := Lib.hid hcr2
    clear hcr hcr2
    go_wp2_with fail
    refine (stage3 W2 _ A l n cap c2 x (by exact rfl) hT2.out HN.out o1 hB2.out HC2.out).mono ?_
    rintro e W3 ⟨rfl, hW⟩
    have hb3 : Hid (Below w.heap.size w W3) := by rw [← hW]; exact (hb2.out.alloc hb2.out.size _).alloc (by have := hb2.out.size; simp; omega) _
    have hT3 : Hid (Tab W3) := Lib.hid (HT.out.below HT.out.pos hb3.out)
    have hB3 : Hid (Bytes W3 W3.heap.size A l) := Lib.hid ((HB.out.below hb3.out).more hb3.out.size)
    clear hW hb2 hT2 hB2
    obtain ⟨A1, i1⟩ : ∃ A1, (if cap = pn then A else Option.map (fun x => x.add pn) A) = A1 := ⟨_, rfl⟩
    obtain ⟨A2, i2⟩ : ∃ A2, (if cap = qn then A else Option.map (fun x => x.add qn) A) = A2 := ⟨_, rfl⟩
    have b1 := Lib.hid (hB3.out.cutAt (by rw [HN.out]; exact hc) pn)
    have b2 := Lib.hid (hB3.out.cutAt (by rw [HN.out]; exact hc) qn)
    rw [i1] at b1
    rw [i2] at b2
    have n1 : (0 : Int) ≤ (n : Int) := by omega
    have n2 : (pn : Int) ≤ (cap : Int) := by omega
    have n3 : (qn : Int) ≤ (cap : Int) := by omega
    have n4 : (0 : Int) ≤ (qn : Int) := by omega
    have n5 : (pn : Int) ≤ (n : Int) := by omega
    have n6 : (n : Int) ≤ (cap : Int) := by omega
    have HPQ := Lib.hid (show pn ≤ qn by omega)
    have HQN := Lib.hid (show qn ≤ n by omega)
    have HO1 := Lib.hid o1
    obtain ⟨y, hy⟩ : ∃ y : UInt8, y = UInt8.ofNat (x.toNat + 1) := ⟨_, rfl⟩
    have y1 : IntKind.u8.wrap (((x.toNat : Nat) : Int) + 1) = ((y.toNat : Nat) : Int) := by rw [IntKind.wrap_u8', hy]; exact up_u8 x.toNat
    have hxy : x ≠ y := by
      intro h
      have h1 : x.toNat = (x.toNat + 1) % 256 := by rw [hy] at h; have := congrArg UInt8.toNat h; rwa [UInt8.toNat_ofNat'] at this
      have := x.toNat_lt
      omega
    obtain ⟨c3, hc3⟩ : ∃ c3, Crc.crc (l ++ [y]) = c3 := ⟨_, rfl⟩
    have HC3 := Lib.hid hc3
    have hne : ((c3 : Int) != (c2 : Int)) = true := by
      have h := Crc.crc_more l x y hxy
      rw [HC2.out, hc3] at h
      simp
      omega
    clear hy hxy hc3
    have tok1 : True := trivial
    have tok2 : True := trivial
    have tok3 : True := trivial
    go_wp2_with fail
    go_region_held3 (fun _ => True) (trivial) (first | (go_at_call 14; have _t := tok1; refine (stage1 W3 _ A A1 A2 l pn qn n cap c1 (by exact rfl) hT3.out HN.out HPQ.out HQN.out HO1.out hB3.out b1.out b2.out HC1.out).mono ?_; rintro e W4 ⟨rfl, hW4⟩; have hb4 : Hid (Below W3.heap.size W3 W4) := (by rw [← hW4]; exact ((Below.refl _ _).alloc (Nat.le_refl _) _).drew); clear tok1 _t hW4; have hT4 := Lib.hid (hT3.out.below hT3.out.pos hb4.out); have hB4 := Lib.hid ((hB3.out.below hb4.out).more hb4.out.size); have b24 := Lib.hid ((b2.out.below hb4.out).more hb4.out.size)) | (go_at_call 14; have _t := tok2; refine (stage2 W4 _ A A2 l qn n cap c2 x (by exact rfl) hT4.out HN.out HQN.out HO1.out hB4.out b24.out HC2.out).mono ?_; rintro e W5 ⟨rfl, hW5⟩; have hb5 : Hid (Below W4.heap.size W4 W5) := (by rw [← hW5]; exact ((Below.refl _ _).alloc (Nat.le_refl _) _).alloc (by simp) _); clear tok2 _t hW5; have hT5 := Lib.hid (hT4.out.below hT4.out.pos hb5.out); have hB5 := Lib.hid ((hB4.out.below hb5.out).more hb5.out.size)) | (go_at_call 14; have _t := tok3; refine (stage3 W5 _ A l n cap c3 y (by exact rfl) hT5.out HN.out HO1.out hB5.out HC3.out).mono ?_; rintro e W6 ⟨rfl, hW6⟩; have hb6 : Hid (Below W5.heap.size W5 W6) := (by rw [← hW6]; exact ((Below.refl _ _).alloc (Nat.le_refl _) _).alloc (by simp) _); clear tok3 _t hW6; have hT6 := Lib.hid (hT5.out.below hT5.out.pos hb6.out)) | (go_at_call 12; refine (awake_any _ hT6.out).mono ?_; rintro e W7 ⟨rfl, hb7⟩))
    have hbF : Hid (Below w.heap.size w W7) := Lib.hid (by
      have h1 := hb3.out
      have h2 := h1.trans (hb4.out.mono h1.size)
      have h3 := h2.trans (hb5.out.mono h2.size)
      have h4 := h3.trans (hb6.out.mono h3.size)
      exact h4.trans (hb7.out.mono h4.size))
    clear hb3 hb4 hb5 hb6 hb7
    go_wp2
    go_ret
    exact ⟨rfl, hbF⟩
  · by_cases hlong : 65536 < n
    · have hd : decide (65536 < n) = true := decide_eq_true hlong
      go_wp2_with fail
      refine (awake_any W1 hT1.out).mono ?_
      rintro e W2 ⟨rfl, hb2⟩
      have hb3 : Hid (Below w.heap.size w W2) := Lib.hid (hb1.out.trans (hb2.out.mono hb1.out.size))
      clear hb1 hb2
      go_wp2
      go_ret
      exact ⟨rfl, hb3⟩
    · have hd : decide (65536 < n) = false := decide_eq_false hlong
      have hcase : p < 0 ∨ (¬ p < 0 ∧ q < p) ∨ (¬ p < 0 ∧ ¬ q < p ∧ (n : Int) < q) := by omega
      clear hok hlong
      rcases hcase with q1 | ⟨q1, q2⟩ | ⟨q1, q2, q3⟩
      all_goals
        go_wp2_with fail
        refine (awake_any W1 hT1.out).mono ?_
        rintro e W2 ⟨rfl, hb2⟩
        have hb3 : Hid (Below w.heap.size w W2) := Lib.hid (hb1.out.trans (hb2.out.mono hb1.out.size))
        clear hb1 hb2
        go_wp2
        go_ret
        exact ⟨rfl, hb3⟩
end Go.Proofs.YthobaicphdhflaaDoor
