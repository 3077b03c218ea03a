/-
  The statement FrameReads's walk: whatever bytes, it answers true, and leaves all that was there as it was. Condition: the sum's table stands as it was laid.
-/
import Derived.Test.YtelbhlkojpnmgaaDoorFlaws
import Derived.Test.YtelbhlkojpnmgaaDoorFread
namespace Go.Proofs.YtelbhlkojpnmgaaDoor
set_option maxRecDepth 20000
open Go.RowKit

/-- '[]byte(s)': new memory, with room for all of it. -/
theorem conv_wide (s : ByteArray) (w : World) : ∃ W cap, Sem.run Tryd.prog (convert 9 23 (.string s)) w = .ok (.slice (some ⟨w.heap.size, 0, none⟩) s.size cap) W ∧
    Hid (Bytes W W.heap.size (some ⟨w.heap.size, 0, none⟩) (strL s)) ∧ Hid (Only (fun _ => False) w W) ∧ s.size ≤ cap := by
  have C := run_bytes_of_string (P := Tryd.prog) w 9 23 5 s Tryd.underlying9 Tryd.underlying23 Tryd.underlying5
  refine ⟨_, _, C, Lib.hid fun hn => ⟨_, 0, rfl, by simp, fun k hk => ?_⟩, Lib.hid (((Only.refl _ _).drew).alloc _), grownCap_ge _ _ _ _⟩
  have h := World.cell?_alloc_mark w.drew (bytesRow s (grownCap w s.size 0 5)) 5 ((bytesRow s (grownCap w s.size 0 5)).size, (bytesRow s (grownCap w s.size 0 5)).size + 1) k
  rw [Nat.zero_add]
  refine Eq.trans h ?_
  have hk' : k < s.data.size := hk
  unfold bytesRow
  rw [Array.getElem?_append_left (by simpa using hk')]
  simp [at8, strL, List.getD, Array.getElem?_eq_getElem hk']
/-- Bytes that may be counted up, whatever they are. -/
def SomeB (w : World) (A : Option Addr) (n : Nat) : Prop := 0 < n → ∃ g, A = some ⟨g, 0, none⟩ ∧ ∀ k, k < n → ∃ x : Int, w.cell? ⟨g, k, none⟩ = some (.int .u8 x) ∧ w.frozen? ⟨g, k, none⟩ = false
theorem some_of {w : World} {B cap n : Nat} {A : Option Addr} {l : List UInt8} (hn : l.length = n) (h : Wbl w B A cap l) : SomeB w A n := fun h0 => by
  subst hn
  rcases h with ⟨_, _, rfl⟩ | ⟨g, rfl, _, _, hc⟩
  · simp at h0
  · exact ⟨g, rfl, fun k hk => ⟨_, hc k hk⟩⟩
theorem some_set {w : World} {g n j : Nat} (h : ∀ k, k < n → ∃ x : Int, w.cell? ⟨g, k, none⟩ = some (.int .u8 x) ∧ w.frozen? ⟨g, k, none⟩ = false) (y : Int) :
    ∀ k, k < n → ∃ x : Int, (w.setCell ⟨g, j, none⟩ (.int .u8 y)).cell? ⟨g, k, none⟩ = some (.int .u8 x) ∧ (w.setCell ⟨g, j, none⟩ (.int .u8 y)).frozen? ⟨g, k, none⟩ = false := by
  intro k hk
  obtain ⟨x, h1, h2⟩ := h k hk
  by_cases hjk : j = k
  · subst hjk
    refine ⟨y, ?_, ?_⟩
    · exact World.cell?_setCell_same _ _ _ h1
    · rw [World.frozen?_setCell]; exact h2
  · refine ⟨x, ?_, ?_⟩
    · exact (World.cell?_setCell_other _ _ _ _ (by intro e; simp only [Addr.mk.injEq] at e; omega)).trans h1
    · rw [World.frozen?_setCell]; exact h2
theorem body_le (l : List UInt8) : ((readF l).getD noF).body.length ≤ 448 := by
  cases h : readF l with
  | none => simp [noF]
  | some f =>
    rcases (readF_some h).1.2.2.2.2.2.2.2 with h | h
    · simp [h.2.2]
    · exact h.2.2.2.2
def UpB (w : World) (A : Option Addr) (n : Nat) (i : Value) (wr : World) : Prop := ∃ j : Nat, j ≤ n ∧ i = .int .i64 (j : Nat) ∧ Hid (SomeB wr A n) ∧ Hid (Only (fun q => blockOf A = some q) w wr)
set_option maxHeartbeats 8000000 in
theorem freads_int (A : Option Addr) (l : List UInt8) (n cap : Nat) (w : World) (ht : Tab w) (hn : l.length = n) (hc : n ≤ cap) (hb : Bytes w w.heap.size A l) :
    Calls Tryd.prog 5 #[.slice A n cap] w fun e w' => e = .returned (.bool true) ∧ Hid (Below w.heap.size w w') := by
  have HT0 := Lib.hid ht
  have HTP := ht.pos
  have HN := Lib.hid hn
  have HB0 := Lib.hid hb
  have CS := Lib.hid (fun W (hb : Below w.heap.size w W) => conv_str cap (HB0.out.below hb) HN.out)
  have HSZ := Lib.hid (show (⟨l.toArray⟩ : ByteArray).size = n by rw [← hn]; simp [ByteArray.size])
  have HST := Lib.hid (show strL ⟨l.toArray⟩ = l from by simp [strL])
  generalize (⟨l.toArray⟩ : ByteArray) = sa at CS HSZ HST
  clear ht hn hb
  go_enter Tryd.func5, Tryd.ntmps5
  by_cases hlong : 65536 < n
  · go_wp2_with fail
    refine (awake5_any _ HT0.out).mono ?_
    rintro en W2 ⟨rfl, hb⟩
    go_wp2
    go_ret
    exact ⟨rfl, hb⟩
  have cs := CS.out w (Below.refl _ _)
  go_wp2_with fail
  clear cs
  refine (dec_any A l n cap w HT0.out HN.out HB0.out hc (by omega)).mono ?_
  rintro en W1 ⟨A1, c1, rfl, hw1, hb1⟩
  have h448 := body_le l
  generalize hf : (readF l).getD noF = f at *
  generalize hok : (readF l).isSome = ok at *
  have HF := Lib.hid hf
  obtain ⟨k, s, t, x, c, p, q, a, e, l1⟩ := f
  simp only [frV, frC]
  simp only at hw1 h448
  generalize hn1 : l1.length = n1 at h448 ⊢
  have HN1 := Lib.hid hn1
  clear hn1 hf
  cases ok with
  | true =>
    have HOK := Lib.hid hok
    simp only [if_true]
    clear hok
    have cs := CS.out w (Below.refl _ _)
    have BX := Lib.hid (fbelow_box W1 (.cells #[.int .i64 k, .int .i64 s, .int .i64 t, .int .u64 (x : Int), .int .u64 (c : Int), .int .u64 (p : Int), .int .u64 (q : Int), .int .u64 (a : Int), .int .u64 (e : Int), .slice A1 n1 c1] 25))
    have F2 := Lib.hid (frow_new (k := k) (s := s) (t := t) (i := (x : Int)) (c := (c : Int)) (p := (p : Int)) (q := (q : Int)) (a := (a : Int)) (e := (e : Int)) (A := A1) (n := n1) (cap := c1) (ty := 25) W1)
    have D2 := Lib.hid (hw1.out.keep (only_none BX.out) (fun _ _ h => h))
    have hD1 := Lib.hid (fun j (hj : blockOf A1 = some j) => (hw1.out.lt hj))
    have B2 := Lib.hid (fbtr hb1.out BX.out)
    obtain ⟨W3, c3, C3, hby3, hno3, hc3⟩ := conv_wide sa (W1.alloc (.cells #[.int .i64 k, .int .i64 s, .int .i64 t, .int .u64 (x : Int), .int .u64 (c : Int), .int .u64 (p : Int), .int .u64 (q : Int), .int .u64 (a : Int), .int .u64 (e : Int), .slice A1 n1 c1] 25))
    rw [HSZ.out] at C3 hc3
    rw [HST.out] at hby3
    have hz2 : (W1.alloc (.cells #[.int .i64 k, .int .i64 s, .int .i64 t, .int .u64 (x : Int), .int .u64 (c : Int), .int .u64 (p : Int), .int .u64 (q : Int), .int .u64 (a : Int), .int .u64 (e : Int), .slice A1 n1 c1] 25)).heap.size = W1.heap.size + 1 := by simp
    rw [hz2] at C3 hby3
    clear hz2
    have F3 := Lib.hid (F2.out.only hno3.out (fun h => h))
    have D3 := Lib.hid (D2.out.keep hno3.out (fun _ _ h => h))
    have B3 := Lib.hid (hno3.out.below B2.out (fun j hj => hj.elim) B2.out.size)
    clear hb1 hw1 BX F2 D2 B2 hno3
    go_wp2_with fail
    clear cs C3
    generalize W1.heap.size = fb at *
    refine (rfread_any (some ⟨fb + 1, 0, none⟩) l n c3 W3 HN.out (fun h => by cases h) hby3.out hc3 (by omega)).mono ?_
    rintro en W4 ⟨A4, c4, rfl, hb4, -, -, hbe⟩
    rw [HF.out, HOK.out] at *
    have F4 := Lib.hid (F3.out.below hbe.out)
    have D4 := Lib.hid (D3.out.keep (only_none hbe.out) (fun _ _ h => h))
    have B4 := Lib.hid (fbtr B3.out hbe.out)
    clear F3 D3 B3 hbe hby3
    simp only [frV, frC, HN1.out]
    simp only at hb4
    have BX := Lib.hid (fbelow_box W4 (.cells #[.int .i64 k, .int .i64 s, .int .i64 t, .int .u64 (x : Int), .int .u64 (c : Int), .int .u64 (p : Int), .int .u64 (q : Int), .int .u64 (a : Int), .int .u64 (e : Int), .slice A4 n1 c4] 25))
    have F5 := Lib.hid (F4.out.below BX.out)
    have G5 := Lib.hid (frow_new (k := k) (s := s) (t := t) (i := (x : Int)) (c := (c : Int)) (p := (p : Int)) (q := (q : Int)) (a := (a : Int)) (e := (e : Int)) (A := A4) (n := n1) (cap := c4) (ty := 25) W4)
    have D5 := Lib.hid (D4.out.keep (only_none BX.out) (fun _ _ h => h))
    have E5 := Lib.hid (hb4.out.below BX.out)
    have B5 := Lib.hid (fbtr B4.out BX.out)
    have hz5 : W4.heap.size ≤ (W4.alloc (.cells #[.int .i64 k, .int .i64 s, .int .i64 t, .int .u64 (x : Int), .int .u64 (c : Int), .int .u64 (p : Int), .int .u64 (q : Int), .int .u64 (a : Int), .int .u64 (e : Int), .slice A4 n1 c4] 25)).heap.size := BX.out.size
    clear F4 D4 B4 hb4 BX
    obtain ⟨k0, k1, k2, k3, k4, k5, k6, k7, k8, k9⟩ := F5.out.box
    obtain ⟨z0, z1, z2, z3, z4, z5, z6, z7, z8, z9⟩ := G5.out.box
    go_wp2_with fail
    generalize W4.alloc (.cells #[.int .i64 k, .int .i64 s, .int .i64 t, .int .u64 (x : Int), .int .u64 (c : Int), .int .u64 (p : Int), .int .u64 (q : Int), .int .u64 (a : Int), .int .u64 (e : Int), .slice A4 n1 c4] 25) = W5 at *
    refine (same_at k s t x c p q a e A1 A4 n1 c1 c4 W5.heap.size l1 W5 HN1.out D5.out.bytes (E5.out.more hz5) (Nat.le_refl _)).mono ?_
    rintro en W6 ⟨rfl, hb6⟩
    have F6 := Lib.hid (F5.out.below hb6.out)
    have D6 := Lib.hid (D5.out.keep (only_none hb6.out) (fun _ _ h => h))
    have B6 := Lib.hid (fbtr B5.out hb6.out)
    clear F5 G5 D5 E5 B5 hb6 k0 k1 k2 k3 k4 k5 k6 k7 k8 k9 z0 z1 z2 z3 z4 z5 z6 z7 z8 z9 hz5
    go_wp2_with fail
    go_loopw [8] (fun i wr => UpB W6 A1 n1 i wr) (fun i _ => n1 - (intOf i).toNat)
    case atStart => exact ⟨0, by omega, rfl, Lib.hid (some_of HN1.out D6.out), Lib.hid (Only.refl _ _)⟩
    case round =>
      obtain ⟨j, hj, rfl, hS, hon⟩ := hrel
      have F7 := Lib.hid (F6.out.only hon.out (fun e => by have := (hD1.out fb e).2; omega))
      obtain ⟨k0, k1, k2, k3, k4, k5, k6, k7, k8, k9⟩ := F7.out.box
      by_cases hlt : j < n1
      · obtain ⟨gg, rfl, hcell⟩ := hS.out (by omega)
        obtain ⟨xx, hx, hfz⟩ := hcell j hlt
        have HS2 := Lib.hid (fun y : Int => some_set (n := n1) (j := j) hcell y)
        have HO2 := Lib.hid (fun y : Int => (hon.out.setCell (p := ⟨gg, j, none⟩) (.inl rfl) (.int .u8 y)))
        clear hcell hS
        go_wp2
        go_roundw
        case rel => exact ⟨j + 1, by omega, by go_num, Lib.hid (fun _ => ⟨gg, rfl, HS2.out _⟩), Lib.hid (HO2.out _)⟩
        case measure => simp [intOf]; omega
      · obtain rfl : j = n1 := by omega
        have B7 := Lib.hid (hon.out.below B6.out (fun i hi => (hD1.out i hi).1) B6.out.size)
        have cs := CS.out wr B7.out
        clear F6 D6 B6 hS hon F7
        go_wp2_with fail
        refine (awake5_any _ (HT0.out.below HTP B7.out)).mono ?_
        rintro en W8 ⟨rfl, hb8⟩
        go_wp2
        go_ret
        exact ⟨rfl, Lib.hid (fbtr B7.out hb8.out)⟩
  | false =>
    have HOK := Lib.hid hok
    simp only [Bool.false_eq_true, if_false]
    clear hok
    have cs := CS.out w (Below.refl _ _)
    have BX := Lib.hid (fbelow_box W1 (.cells #[.int .i64 k, .int .i64 s, .int .i64 t, .int .u64 (x : Int), .int .u64 (c : Int), .int .u64 (p : Int), .int .u64 (q : Int), .int .u64 (a : Int), .int .u64 (e : Int), .slice A1 n1 c1] 25))
    have F2 := Lib.hid (frow_new (k := k) (s := s) (t := t) (i := (x : Int)) (c := (c : Int)) (p := (p : Int)) (q := (q : Int)) (a := (a : Int)) (e := (e : Int)) (A := A1) (n := n1) (cap := c1) (ty := 25) W1)
    have D2 := Lib.hid (hw1.out.keep (only_none BX.out) (fun _ _ h => h))
    have hD1 := Lib.hid (fun j (hj : blockOf A1 = some j) => (hw1.out.lt hj))
    have B2 := Lib.hid (fbtr hb1.out BX.out)
    obtain ⟨W3, c3, C3, hby3, hno3, hc3⟩ := conv_wide sa (W1.alloc (.cells #[.int .i64 k, .int .i64 s, .int .i64 t, .int .u64 (x : Int), .int .u64 (c : Int), .int .u64 (p : Int), .int .u64 (q : Int), .int .u64 (a : Int), .int .u64 (e : Int), .slice A1 n1 c1] 25))
    rw [HSZ.out] at C3 hc3
    rw [HST.out] at hby3
    have hz2 : (W1.alloc (.cells #[.int .i64 k, .int .i64 s, .int .i64 t, .int .u64 (x : Int), .int .u64 (c : Int), .int .u64 (p : Int), .int .u64 (q : Int), .int .u64 (a : Int), .int .u64 (e : Int), .slice A1 n1 c1] 25)).heap.size = W1.heap.size + 1 := by simp
    rw [hz2] at C3 hby3
    clear hz2
    have F3 := Lib.hid (F2.out.only hno3.out (fun h => h))
    have D3 := Lib.hid (D2.out.keep hno3.out (fun _ _ h => h))
    have B3 := Lib.hid (hno3.out.below B2.out (fun j hj => hj.elim) B2.out.size)
    clear hb1 hw1 BX F2 D2 B2 hno3
    go_wp2_with fail
    clear cs C3
    generalize W1.heap.size = fb at *
    refine (rfread_any (some ⟨fb + 1, 0, none⟩) l n c3 W3 HN.out (fun h => by cases h) hby3.out hc3 (by omega)).mono ?_
    rintro en W4 ⟨A4, c4, rfl, hb4, -, -, hbe⟩
    rw [HF.out, HOK.out] at *
    have F4 := Lib.hid (F3.out.below hbe.out)
    have D4 := Lib.hid (D3.out.keep (only_none hbe.out) (fun _ _ h => h))
    have B4 := Lib.hid (fbtr B3.out hbe.out)
    clear F3 D3 B3 hbe hby3
    simp only [frV, frC, HN1.out]
    simp only at hb4
    have BX := Lib.hid (fbelow_box W4 (.cells #[.int .i64 k, .int .i64 s, .int .i64 t, .int .u64 (x : Int), .int .u64 (c : Int), .int .u64 (p : Int), .int .u64 (q : Int), .int .u64 (a : Int), .int .u64 (e : Int), .slice A4 n1 c4] 25))
    have F5 := Lib.hid (F4.out.below BX.out)
    have G5 := Lib.hid (frow_new (k := k) (s := s) (t := t) (i := (x : Int)) (c := (c : Int)) (p := (p : Int)) (q := (q : Int)) (a := (a : Int)) (e := (e : Int)) (A := A4) (n := n1) (cap := c4) (ty := 25) W4)
    have D5 := Lib.hid (D4.out.keep (only_none BX.out) (fun _ _ h => h))
    have E5 := Lib.hid (hb4.out.below BX.out)
    have B5 := Lib.hid (fbtr B4.out BX.out)
    have hz5 : W4.heap.size ≤ (W4.alloc (.cells #[.int .i64 k, .int .i64 s, .int .i64 t, .int .u64 (x : Int), .int .u64 (c : Int), .int .u64 (p : Int), .int .u64 (q : Int), .int .u64 (a : Int), .int .u64 (e : Int), .slice A4 n1 c4] 25)).heap.size := BX.out.size
    clear F4 D4 B4 hb4 BX
    obtain ⟨k0, k1, k2, k3, k4, k5, k6, k7, k8, k9⟩ := F5.out.box
    obtain ⟨z0, z1, z2, z3, z4, z5, z6, z7, z8, z9⟩ := G5.out.box
    go_wp2_with fail
    generalize W4.alloc (.cells #[.int .i64 k, .int .i64 s, .int .i64 t, .int .u64 (x : Int), .int .u64 (c : Int), .int .u64 (p : Int), .int .u64 (q : Int), .int .u64 (a : Int), .int .u64 (e : Int), .slice A4 n1 c4] 25) = W5 at *
    refine (same_at k s t x c p q a e A1 A4 n1 c1 c4 W5.heap.size l1 W5 HN1.out D5.out.bytes (E5.out.more hz5) (Nat.le_refl _)).mono ?_
    rintro en W6 ⟨rfl, hb6⟩
    have F6 := Lib.hid (F5.out.below hb6.out)
    have D6 := Lib.hid (D5.out.keep (only_none hb6.out) (fun _ _ h => h))
    have B6 := Lib.hid (fbtr B5.out hb6.out)
    clear F5 G5 D5 E5 B5 hb6 k0 k1 k2 k3 k4 k5 k6 k7 k8 k9 z0 z1 z2 z3 z4 z5 z6 z7 z8 z9 hz5
    go_wp2_with fail
    go_loopw [8] (fun i wr => UpB W6 A1 n1 i wr) (fun i _ => n1 - (intOf i).toNat)
    case atStart => exact ⟨0, by omega, rfl, Lib.hid (some_of HN1.out D6.out), Lib.hid (Only.refl _ _)⟩
    case round =>
      obtain ⟨j, hj, rfl, hS, hon⟩ := hrel
      have F7 := Lib.hid (F6.out.only hon.out (fun e => by have := (hD1.out fb e).2; omega))
      obtain ⟨k0, k1, k2, k3, k4, k5, k6, k7, k8, k9⟩ := F7.out.box
      by_cases hlt : j < n1
      · obtain ⟨gg, rfl, hcell⟩ := hS.out (by omega)
        obtain ⟨xx, hx, hfz⟩ := hcell j hlt
        have HS2 := Lib.hid (fun y : Int => some_set (n := n1) (j := j) hcell y)
        have HO2 := Lib.hid (fun y : Int => (hon.out.setCell (p := ⟨gg, j, none⟩) (.inl rfl) (.int .u8 y)))
        clear hcell hS
        go_wp2
        go_roundw
        case rel => exact ⟨j + 1, by omega, by go_num, Lib.hid (fun _ => ⟨gg, rfl, HS2.out _⟩), Lib.hid (HO2.out _)⟩
        case measure => simp [intOf]; omega
      · obtain rfl : j = n1 := by omega
        have B7 := Lib.hid (hon.out.below B6.out (fun i hi => (hD1.out i hi).1) B6.out.size)
        have cs := CS.out wr B7.out
        clear F6 D6 B6 hS hon F7
        go_wp2_with fail
        refine (awake5_any _ (HT0.out.below HTP B7.out)).mono ?_
        rintro en W8 ⟨rfl, hb8⟩
        go_wp2
        go_ret
        exact ⟨rfl, Lib.hid (fbtr B7.out hb8.out)⟩
theorem freads_walk (A : Option Addr) (l : List UInt8) (cap : Nat) (w : World) (ht : Tab w) (hc : l.length ≤ cap) (hb : Bytes w w.heap.size A l) :
    Calls Tryd.prog 5 #[.slice A l.length cap] w fun e w' => e = .returned (.bool true) ∧ Hid (Below w.heap.size w w') := freads_int A l _ cap w ht rfl hc hb
end Go.Proofs.YtelbhlkojpnmgaaDoor
