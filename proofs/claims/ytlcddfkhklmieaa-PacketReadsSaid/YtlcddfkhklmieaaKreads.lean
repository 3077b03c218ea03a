/-
  The statement PacketReads's walk: whatever bytes, it answers true, and leaves all that was there as it was. No condition.
-/
import Derived.Test.YtlcddfkhklmieaaKbytes
import Derived.Test.YtlcddfkhklmieaaKawake
import Derived.Test.YtlcddfkhklmieaaKargs
import Derived.Test.YtlcddfkhklmieaaKread
namespace Go.Proofs.Ytlcddfkhklmieaa
set_option maxRecDepth 20000
open Go.RowKit

theorem only_none {w w' : World} (hb : Below w.heap.size w w') : Only (fun _ => False) w w' := Only.ofBelow hb
/-- '[]byte(s)': new memory, with room for all of it. -/
theorem conv_wide (s : ByteArray) (w : World) : ∃ W cap, Sem.run Try.prog (convert 9 26 (.string s)) w = .ok (.slice (some ⟨w.heap.size, 0, none⟩) s.size cap) W ∧
    Hid (Bytes W W.heap.size (some ⟨w.heap.size, 0, none⟩) (strL s)) ∧ Hid (Only (fun _ => False) w W) ∧ s.size ≤ cap := by
  have C := run_bytes_of_string (P := Try.prog) w 9 26 5 s Try.underlying9 Try.underlying26 Try.underlying5
  refine ⟨_, _, C, Lib.hid fun hn => ⟨_, 0, rfl, by simp, fun k hk => ?_⟩, Lib.hid (((Only.refl _ _).drew).alloc _), grownCap_ge _ _ _ _⟩
  have h := World.cell?_alloc_mark w.drew (bytesRow s (grownCap w s.size 0 5)) 5 ((bytesRow s (grownCap w s.size 0 5)).size, (bytesRow s (grownCap w s.size 0 5)).size + 1) k
  rw [Nat.zero_add]
  refine Eq.trans h ?_
  have hk' : k < s.data.size := hk
  unfold bytesRow
  rw [Array.getElem?_append_left (by simpa using hk')]
  simp [at8, strL, List.getD, Array.getElem?_eq_getElem hk']
/-- Bytes that may be counted up, whatever they are. -/
def SomeB (w : World) (A : Option Addr) (n : Nat) : Prop := 0 < n → ∃ g, A = some ⟨g, 0, none⟩ ∧ ∀ k, k < n → ∃ x : Int, w.cell? ⟨g, k, none⟩ = some (.int .u8 x) ∧ w.frozen? ⟨g, k, none⟩ = false
theorem some_of {w : World} {B cap n : Nat} {A : Option Addr} {l : List UInt8} (hn : l.length = n) (h : Wbl w B A cap l) : SomeB w A n := fun h0 => by
  subst hn
  rcases h with ⟨_, _, rfl⟩ | ⟨g, rfl, _, _, hc⟩
  · simp at h0
  · exact ⟨g, rfl, fun k hk => ⟨_, hc k hk⟩⟩
theorem some_set {w : World} {g n j : Nat} (h : ∀ k, k < n → ∃ x : Int, w.cell? ⟨g, k, none⟩ = some (.int .u8 x) ∧ w.frozen? ⟨g, k, none⟩ = false) (y : Int) :
    ∀ k, k < n → ∃ x : Int, (w.setCell ⟨g, j, none⟩ (.int .u8 y)).cell? ⟨g, k, none⟩ = some (.int .u8 x) ∧ (w.setCell ⟨g, j, none⟩ (.int .u8 y)).frozen? ⟨g, k, none⟩ = false := by
  intro k hk
  obtain ⟨x, h1, h2⟩ := h k hk
  by_cases hjk : j = k
  · subst hjk
    refine ⟨y, ?_, ?_⟩
    · exact World.cell?_setCell_same _ _ _ h1
    · rw [World.frozen?_setCell]; exact h2
  · refine ⟨x, ?_, ?_⟩
    · exact (World.cell?_setCell_other _ _ _ _ (by intro e; simp only [Addr.mk.injEq] at e; omega)).trans h1
    · rw [World.frozen?_setCell]; exact h2
def UpB (w : World) (A : Option Addr) (n : Nat) (i : Value) (wr : World) : Prop := ∃ j : Nat, j ≤ n ∧ i = .int .i64 (j : Nat) ∧ Hid (SomeB wr A n) ∧ Hid (Only (fun q => blockOf A = some q) w wr)
theorem uns_any (l : List UInt8) : (∀ q ∈ ((readK l).getD noK).peers, 0 ≤ q.2) ∧ ((readK l).getD noK).heads.length ≤ 10 ∧ ((readK l).getD noK).peers.length ≤ 4 ∧ ((readK l).getD noK).body.length ≤ 320 := by
  cases h : readK l with
  | none => simp [noK]
  | some p => exact (uns_may (readK_some h).1).2.2
set_option maxHeartbeats 8000000 in
theorem kreads_int (A : Option Addr) (l : List UInt8) (n cap : Nat) (w : World) (hn : l.length = n) (hA : A = none → cap = 0) (hb : Bytes w w.heap.size A l) :
    Calls Try.prog 5 #[.slice A n cap] w fun e w' => e = .returned (.bool true) ∧ Hid (Below w.heap.size w w') := by
  have HN := Lib.hid hn
  have HA := Lib.hid hA
  have HB0 := Lib.hid hb
  have CS := Lib.hid (fun W (hb : Below w.heap.size w W) => conv_str cap (HB0.out.below hb) HN.out)
  have HSZ := Lib.hid (show (⟨l.toArray⟩ : ByteArray).size = n by rw [← hn]; simp [ByteArray.size])
  have HST := Lib.hid (show strL ⟨l.toArray⟩ = l from by simp [strL])
  generalize (⟨l.toArray⟩ : ByteArray) = sa at CS HSZ HST
  clear hn hb hA
  go_enter Try.func5, Try.ntmps5
  by_cases hlong : 65536 < n
  · go_wp2_with fail
    refine (awake6_any _).mono ?_
    rintro en W2 ⟨rfl, hb⟩
    go_wp2
    go_ret
    exact ⟨rfl, hb⟩
  have HDEC := Lib.hid (kdec_any A l n cap w HN.out HB0.out HA.out (by omega))
  have HU := uns_any l
  unfold DecK at HDEC
  obtain ⟨p, hp⟩ : ∃ p, (readK l).getD noK = p := ⟨_, rfl⟩
  obtain ⟨ok, hok⟩ : ∃ b, (readK l).isSome = b := ⟨_, rfl⟩
  rw [hp] at HDEC HU
  rw [hok] at HDEC
  obtain ⟨k, ⟨s, t⟩, h, hs, bd, ⟨x, y⟩, z, ps⟩ := p
  have HP := Lib.hid hp
  have HOK := Lib.hid hok
  simp only at HU HDEC
  obtain ⟨nh, hnh⟩ : ∃ y, hs.length = y := ⟨_, rfl⟩
  obtain ⟨n1, hn1⟩ : ∃ y, bd.length = y := ⟨_, rfl⟩
  obtain ⟨np, hnp⟩ : ∃ y, ps.length = y := ⟨_, rfl⟩
  rw [hnh, hn1, hnp] at HU
  have HLN := Lib.hid (show hs.length = nh ∧ bd.length = n1 ∧ ps.length = np from ⟨hnh, hn1, hnp⟩)
  have HPOS := Lib.hid HU.1
  have HX := Lib.hid HU.2
  clear hp hok HU hnh hn1 hnp
  cases ok with
  | true =>
    simp only [if_true] at HDEC
    have cs := CS.out w (Below.refl _ _)
    go_wp2_with fail
    clear cs
    refine HDEC.out.mono ?_
    rintro en W1 ⟨H1, ch1, A1, c1, P1, cp1, rfl, hm1, hb1⟩
    simp only [pkA]
    have hpin := hm1.out.pin HPOS.out
    have HW1 := Lib.hid hm1.out.2.1
    simp only at hpin HW1
    rw [HLN.out.1, HLN.out.2.1, HLN.out.2.2] at hpin ⊢
    have BX := Lib.hid (kbelow_box W1 (.cells #[.int .i64 k, .int .i64 s, .int .u64 t, .int .i64 h, .slice H1 nh ch1, .slice A1 n1 c1, .int .i64 x, .int .u64 y, .int .u64 (z : Int), .slice P1 np cp1] 31))
    have F2 := Lib.hid (kbox_new (k := k) (s := s) (t := t) (h := h) (x := x) (y := y) (z := (z : Int)) (H := H1) (A := A1) (P := P1) (nh := nh) (ch := ch1) (n := n1) (cap := c1) (np := np) (cp := cp1) (w := W1) 31)
    have D2 := Lib.hid (HW1.out.keep (only_none BX.out) (fun _ _ h => h))
    have I2 := Lib.hid ((hpin.below BX.out).more BX.out.size)
    have hD1 := Lib.hid (fun j (hj : blockOf A1 = some j) => (HW1.out.lt hj))
    have B2 := Lib.hid (ktr hb1.out BX.out)
    obtain ⟨W3, c3, C3, hby3, hno3, hc3⟩ := conv_wide sa (W1.alloc (.cells #[.int .i64 k, .int .i64 s, .int .u64 t, .int .i64 h, .slice H1 nh ch1, .slice A1 n1 c1, .int .i64 x, .int .u64 y, .int .u64 (z : Int), .slice P1 np cp1] 31))
    rw [HSZ.out] at C3 hc3
    rw [HST.out] at hby3
    have hz2 : (W1.alloc (.cells #[.int .i64 k, .int .i64 s, .int .u64 t, .int .i64 h, .slice H1 nh ch1, .slice A1 n1 c1, .int .i64 x, .int .u64 y, .int .u64 (z : Int), .slice P1 np cp1] 31)).heap.size = W1.heap.size + 1 := by simp
    rw [hz2] at C3 hby3
    clear hz2
    have hno4 := Lib.hid (hno3.out.below (Below.refl _ _) (fun j hj => hj.elim) (Nat.le_refl _))
    have F3 := Lib.hid (F2.out.only hno3.out (fun h => h))
    have D3 := Lib.hid (D2.out.keep hno3.out (fun _ _ h => h))
    have I3 := Lib.hid ((I2.out.below hno4.out).more hno4.out.size)
    have B3 := Lib.hid (hno3.out.below B2.out (fun j hj => hj.elim) B2.out.size)
    clear hb1 hm1 hpin HW1 BX F2 D2 I2 B2 hno3 hno4
    go_wp2_with fail
    clear C3
    generalize W1.heap.size = fb at *
    refine (rkread_any (some ⟨fb + 1, 0, none⟩) l n c3 W3 HN.out hby3.out (fun h => by cases h) (by omega)).mono ?_
    intro en W4 hre
    unfold ReadE at hre
    rw [HP.out, HOK.out] at hre
    simp only at hre
    rw [HLN.out.1, HLN.out.2.1, HLN.out.2.2] at hre
    obtain ⟨H4, ch4, A4, c4, P4, cp4, rfl, hh4, h84, hp4, hbe⟩ := hre
    simp only [pkA]
    rw [HLN.out.1, HLN.out.2.1, HLN.out.2.2]
    have F4 := Lib.hid (F3.out.below hbe.out)
    have D4 := Lib.hid (D3.out.keep (only_none hbe.out) (fun _ _ h => h))
    have I4 := Lib.hid ((I3.out.below hbe.out).more hbe.out.size)
    have J4 := Lib.hid (show PIn W4 W4.heap.size hs bd ps H4 nh A4 n1 c4 P4 np cp4 from ⟨hh4.out.heads, h84.out.bytes, hp4.out.lives, HLN.out.1, HLN.out.2.1, HLN.out.2.2, h84.out.none_cap, hp4.out.none_cap, HPOS.out⟩)
    have B4 := Lib.hid (ktr B3.out hbe.out)
    clear F3 D3 I3 B3 hbe hby3 hh4 h84 hp4
    have BX := Lib.hid (kbelow_box W4 (.cells #[.int .i64 k, .int .i64 s, .int .u64 t, .int .i64 h, .slice H4 nh ch4, .slice A4 n1 c4, .int .i64 x, .int .u64 y, .int .u64 (z : Int), .slice P4 np cp4] 31))
    have F5 := Lib.hid (F4.out.below BX.out)
    have G5 := Lib.hid (kbox_new (k := k) (s := s) (t := t) (h := h) (x := x) (y := y) (z := (z : Int)) (H := H4) (A := A4) (P := P4) (nh := nh) (ch := ch4) (n := n1) (cap := c4) (np := np) (cp := cp4) (w := W4) 31)
    have D5 := Lib.hid (D4.out.keep (only_none BX.out) (fun _ _ h => h))
    have I5 := Lib.hid ((I4.out.below BX.out).more BX.out.size)
    have J5 := Lib.hid ((J4.out.below BX.out).more BX.out.size)
    have B5 := Lib.hid (ktr B4.out BX.out)
    clear F4 D4 I4 J4 B4 BX
    obtain ⟨k0, k1, k2, k3, k4, k5, k6, k7, k8, k9⟩ := F5.out
    obtain ⟨z0, z1, z2, z3, z4, z5, z6, z7, z8, z9⟩ := G5.out
    go_wp2_with fail
    generalize W4.alloc (.cells #[.int .i64 k, .int .i64 s, .int .u64 t, .int .i64 h, .slice H4 nh ch4, .slice A4 n1 c4, .int .i64 x, .int .u64 y, .int .u64 (z : Int), .slice P4 np cp4] 31) = W5 at *
    refine (same_at (k := k) (s := s) (t := t) (h := h) (x := x) (y := y) (z := z) (ch := ch1) (k' := k) (s' := s) (t' := t) (h' := h) (x' := x) (y' := y) (z' := z) (ch' := ch4) I5.out J5.out (Nat.le_refl _) (by have := HX.out; omega) (by have := HX.out; omega) (by have := HX.out; omega)).mono ?_
    rintro en W6 ⟨rfl, hb6⟩
    simp only [decide_true]
    have F6 := Lib.hid (F5.out.below hb6.out)
    have D6 := Lib.hid (D5.out.keep (only_none hb6.out) (fun _ _ h => h))
    have B6 := Lib.hid (ktr B5.out hb6.out)
    clear F5 G5 D5 I5 J5 B5 hb6 k0 k1 k2 k3 k4 k5 k6 k7 k8 k9 z0 z1 z2 z3 z4 z5 z6 z7 z8 z9
    go_wp2_with fail
    go_loopw [8] (fun i wr => UpB W6 A1 n1 i wr) (fun i _ => n1 - (intOf i).toNat)
    case atStart => exact ⟨0, by omega, rfl, Lib.hid (some_of HLN.out.2.1 D6.out), Lib.hid (Only.refl _ _)⟩
    case round =>
      obtain ⟨j, hj, rfl, hS, hon⟩ := hrel
      have F7 := Lib.hid (F6.out.only hon.out (fun e => by have := (hD1.out fb e).2; omega))
      obtain ⟨k0, k1, k2, k3, k4, k5, k6, k7, k8, k9⟩ := F7.out
      have hn320 : n1 ≤ 320 := HX.out.2.2
      by_cases hlt : j < n1
      · obtain ⟨gg, rfl, hcell⟩ := hS.out (by omega)
        obtain ⟨xx, hx, hfz⟩ := hcell j hlt
        have HS2 := Lib.hid (fun y : Int => some_set (n := n1) (j := j) hcell y)
        have HO2 := Lib.hid (fun y : Int => (hon.out.setCell (p := ⟨gg, j, none⟩) (.inl rfl) (.int .u8 y)))
        clear hcell hS
        go_wp2
        go_roundw
        case rel => exact ⟨j + 1, by omega, by go_num, Lib.hid (fun _ => ⟨gg, rfl, HS2.out _⟩), Lib.hid (HO2.out _)⟩
        case measure => simp [intOf]; omega
      · obtain rfl : j = n1 := by omega
        have B7 := Lib.hid (hon.out.below B6.out (fun i hi => (hD1.out i hi).1) B6.out.size)
        have cs := CS.out wr B7.out
        clear F6 D6 B6 hS hon F7
        go_wp2_with fail
        refine (awake6_any _).mono ?_
        rintro en W8 ⟨rfl, hb8⟩
        go_wp2
        go_ret
        exact ⟨rfl, Lib.hid (ktr B7.out hb8.out)⟩
  | false =>
    simp only [Bool.false_eq_true, if_false] at HDEC
    have cs := CS.out w (Below.refl _ _)
    go_wp2_with fail
    clear cs
    refine HDEC.out.mono ?_
    rintro en W1 ⟨H1, ch1, A1, c1, P1, cp1, rfl, hm1, hb1⟩
    simp only [pkA]
    have hpin := hm1.out.pin HPOS.out
    have HW1 := Lib.hid hm1.out.2.1
    simp only at hpin HW1
    rw [HLN.out.1, HLN.out.2.1, HLN.out.2.2] at hpin ⊢
    have BX := Lib.hid (kbelow_box W1 (.cells #[.int .i64 k, .int .i64 s, .int .u64 t, .int .i64 h, .slice H1 nh ch1, .slice A1 n1 c1, .int .i64 x, .int .u64 y, .int .u64 (z : Int), .slice P1 np cp1] 31))
    have F2 := Lib.hid (kbox_new (k := k) (s := s) (t := t) (h := h) (x := x) (y := y) (z := (z : Int)) (H := H1) (A := A1) (P := P1) (nh := nh) (ch := ch1) (n := n1) (cap := c1) (np := np) (cp := cp1) (w := W1) 31)
    have D2 := Lib.hid (HW1.out.keep (only_none BX.out) (fun _ _ h => h))
    have I2 := Lib.hid ((hpin.below BX.out).more BX.out.size)
    have hD1 := Lib.hid (fun j (hj : blockOf A1 = some j) => (HW1.out.lt hj))
    have B2 := Lib.hid (ktr hb1.out BX.out)
    obtain ⟨W3, c3, C3, hby3, hno3, hc3⟩ := conv_wide sa (W1.alloc (.cells #[.int .i64 k, .int .i64 s, .int .u64 t, .int .i64 h, .slice H1 nh ch1, .slice A1 n1 c1, .int .i64 x, .int .u64 y, .int .u64 (z : Int), .slice P1 np cp1] 31))
    rw [HSZ.out] at C3 hc3
    rw [HST.out] at hby3
    have hz2 : (W1.alloc (.cells #[.int .i64 k, .int .i64 s, .int .u64 t, .int .i64 h, .slice H1 nh ch1, .slice A1 n1 c1, .int .i64 x, .int .u64 y, .int .u64 (z : Int), .slice P1 np cp1] 31)).heap.size = W1.heap.size + 1 := by simp
    rw [hz2] at C3 hby3
    clear hz2
    have hno4 := Lib.hid (hno3.out.below (Below.refl _ _) (fun j hj => hj.elim) (Nat.le_refl _))
    have F3 := Lib.hid (F2.out.only hno3.out (fun h => h))
    have D3 := Lib.hid (D2.out.keep hno3.out (fun _ _ h => h))
    have I3 := Lib.hid ((I2.out.below hno4.out).more hno4.out.size)
    have B3 := Lib.hid (hno3.out.below B2.out (fun j hj => hj.elim) B2.out.size)
    clear hb1 hm1 hpin HW1 BX F2 D2 I2 B2 hno3 hno4
    go_wp2_with fail
    clear C3
    generalize W1.heap.size = fb at *
    refine (rkread_any (some ⟨fb + 1, 0, none⟩) l n c3 W3 HN.out hby3.out (fun h => by cases h) (by omega)).mono ?_
    intro en W4 hre
    unfold ReadE at hre
    rw [HP.out, HOK.out] at hre
    simp only at hre
    rw [HLN.out.1, HLN.out.2.1, HLN.out.2.2] at hre
    obtain ⟨H4, ch4, A4, c4, P4, cp4, rfl, hh4, h84, hp4, hbe⟩ := hre
    simp only [pkA]
    rw [HLN.out.1, HLN.out.2.1, HLN.out.2.2]
    have F4 := Lib.hid (F3.out.below hbe.out)
    have D4 := Lib.hid (D3.out.keep (only_none hbe.out) (fun _ _ h => h))
    have I4 := Lib.hid ((I3.out.below hbe.out).more hbe.out.size)
    have J4 := Lib.hid (show PIn W4 W4.heap.size hs bd ps H4 nh A4 n1 c4 P4 np cp4 from ⟨hh4.out.heads, h84.out.bytes, hp4.out.lives, HLN.out.1, HLN.out.2.1, HLN.out.2.2, h84.out.none_cap, hp4.out.none_cap, HPOS.out⟩)
    have B4 := Lib.hid (ktr B3.out hbe.out)
    clear F3 D3 I3 B3 hbe hby3 hh4 h84 hp4
    have BX := Lib.hid (kbelow_box W4 (.cells #[.int .i64 k, .int .i64 s, .int .u64 t, .int .i64 h, .slice H4 nh ch4, .slice A4 n1 c4, .int .i64 x, .int .u64 y, .int .u64 (z : Int), .slice P4 np cp4] 31))
    have F5 := Lib.hid (F4.out.below BX.out)
    have G5 := Lib.hid (kbox_new (k := k) (s := s) (t := t) (h := h) (x := x) (y := y) (z := (z : Int)) (H := H4) (A := A4) (P := P4) (nh := nh) (ch := ch4) (n := n1) (cap := c4) (np := np) (cp := cp4) (w := W4) 31)
    have D5 := Lib.hid (D4.out.keep (only_none BX.out) (fun _ _ h => h))
    have I5 := Lib.hid ((I4.out.below BX.out).more BX.out.size)
    have J5 := Lib.hid ((J4.out.below BX.out).more BX.out.size)
    have B5 := Lib.hid (ktr B4.out BX.out)
    clear F4 D4 I4 J4 B4 BX
    obtain ⟨k0, k1, k2, k3, k4, k5, k6, k7, k8, k9⟩ := F5.out
    obtain ⟨z0, z1, z2, z3, z4, z5, z6, z7, z8, z9⟩ := G5.out
    go_wp2_with fail
    generalize W4.alloc (.cells #[.int .i64 k, .int .i64 s, .int .u64 t, .int .i64 h, .slice H4 nh ch4, .slice A4 n1 c4, .int .i64 x, .int .u64 y, .int .u64 (z : Int), .slice P4 np cp4] 31) = W5 at *
    refine (same_at (k := k) (s := s) (t := t) (h := h) (x := x) (y := y) (z := z) (ch := ch1) (k' := k) (s' := s) (t' := t) (h' := h) (x' := x) (y' := y) (z' := z) (ch' := ch4) I5.out J5.out (Nat.le_refl _) (by have := HX.out; omega) (by have := HX.out; omega) (by have := HX.out; omega)).mono ?_
    rintro en W6 ⟨rfl, hb6⟩
    simp only [decide_true]
    have F6 := Lib.hid (F5.out.below hb6.out)
    have D6 := Lib.hid (D5.out.keep (only_none hb6.out) (fun _ _ h => h))
    have B6 := Lib.hid (ktr B5.out hb6.out)
    clear F5 G5 D5 I5 J5 B5 hb6 k0 k1 k2 k3 k4 k5 k6 k7 k8 k9 z0 z1 z2 z3 z4 z5 z6 z7 z8 z9
    go_wp2_with fail
    go_loopw [8] (fun i wr => UpB W6 A1 n1 i wr) (fun i _ => n1 - (intOf i).toNat)
    case atStart => exact ⟨0, by omega, rfl, Lib.hid (some_of HLN.out.2.1 D6.out), Lib.hid (Only.refl _ _)⟩
    case round =>
      obtain ⟨j, hj, rfl, hS, hon⟩ := hrel
      have F7 := Lib.hid (F6.out.only hon.out (fun e => by have := (hD1.out fb e).2; omega))
      obtain ⟨k0, k1, k2, k3, k4, k5, k6, k7, k8, k9⟩ := F7.out
      have hn320 : n1 ≤ 320 := HX.out.2.2
      by_cases hlt : j < n1
      · obtain ⟨gg, rfl, hcell⟩ := hS.out (by omega)
        obtain ⟨xx, hx, hfz⟩ := hcell j hlt
        have HS2 := Lib.hid (fun y : Int => some_set (n := n1) (j := j) hcell y)
        have HO2 := Lib.hid (fun y : Int => (hon.out.setCell (p := ⟨gg, j, none⟩) (.inl rfl) (.int .u8 y)))
        clear hcell hS
        go_wp2
        go_roundw
        case rel => exact ⟨j + 1, by omega, by go_num, Lib.hid (fun _ => ⟨gg, rfl, HS2.out _⟩), Lib.hid (HO2.out _)⟩
        case measure => simp [intOf]; omega
      · obtain rfl : j = n1 := by omega
        have B7 := Lib.hid (hon.out.below B6.out (fun i hi => (hD1.out i hi).1) B6.out.size)
        have cs := CS.out wr B7.out
        clear F6 D6 B6 hS hon F7
        go_wp2_with fail
        refine (awake6_any _).mono ?_
        rintro en W8 ⟨rfl, hb8⟩
        go_wp2
        go_ret
        exact ⟨rfl, Lib.hid (ktr B7.out hb8.out)⟩
theorem kreads_walk (A : Option Addr) (l : List UInt8) (cap : Nat) (w : World) (hA : A = none → cap = 0) (hb : Bytes w w.heap.size A l) :
    Calls Try.prog 5 #[.slice A l.length cap] w fun e w' => e = .returned (.bool true) ∧ Hid (Below w.heap.size w w') := kreads_int A l _ cap w rfl hA hb
end Go.Proofs.Ytlcddfkhklmieaa
