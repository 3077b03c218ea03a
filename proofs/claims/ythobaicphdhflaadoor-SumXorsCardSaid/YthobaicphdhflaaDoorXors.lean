/-
  The statement SumXors: of two texts of one length, taken together bit by bit by exclusive or, the sum is both sums and that of as many noughts, taken together likewise. No condition but the row's own: the package's table lies as the program's text lays it.
-/
import Derived.Test.YthobaicphdhflaaDoorLaw
import Derived.Test.YthobaicphdhflaaDoorRefSeal
import Derived.Test.YthobaicphdhflaaDoorRegion
import Derived.Deep.RegionHeld3
import Derived.Deep.DeepCutAuto
namespace Go.Proofs.YthobaicphdhflaaDoor
open Go.RowKit

/-- No block is both values' own. -/
def Apart2 (u v : Value) : Prop := ∀ j, u.ownBlock = some j → v.ownBlock ≠ some j
theorem kept_far {w w' : World} {base n : Nat} {u v : Value} {xs : List Value} {e : TypeId} (h : w.ownsRow base e 1 v n xs) (hg : w.grownBy w' u.ownBlock) (ha : Apart2 u v) : w'.ownsRow base e 1 v n xs := by
  refine h.kept hg ?_
  cases hu : u.ownBlock with
  | none =>
    cases hv : v.ownBlock with
    | none => exact .inl rfl
    | some j => exact .inr (by simp)
  | some j => exact .inr (ha j hu)
theorem xors_succ (a b : List UInt8) (k : Nat) (ha : k < a.length) (hb : k < b.length) : Crc.xors (a.take (k + 1)) (b.take (k + 1)) = Crc.xors (a.take k) (b.take k) ++ [a.getD k 0 ^^^ b.getD k 0] := by
  rw [List.take_add_one, List.take_add_one, List.getElem?_eq_getElem ha, List.getElem?_eq_getElem hb]
  unfold Crc.xors
  show List.zipWith _ (a.take k ++ [a[k]]) (b.take k ++ [b[k]]) = _
  rw [List.zipWith_append (by rw [List.length_take, List.length_take]; omega)]
  simp [List.getD, ha, hb]
theorem xors_len (a b : List UInt8) (k : Nat) (ha : k ≤ a.length) (hb : k ≤ b.length) : (Crc.xors (a.take k) (b.take k)).length = k := by
  unfold Crc.xors
  rw [List.length_zipWith, List.length_take, List.length_take]
  omega

def XorRel (w : World) (a b : List UInt8) (n : Nat) (c z i : Value) (wr : World) : Prop :=
  ∃ (k : Nat) (Ac : Option Addr) (capc : Nat) (Az : Option Addr) (capz : Nat), k ≤ n ∧ i = .int .i64 (k : Nat) ∧ c = .slice Ac k capc ∧ z = .slice Az k capz ∧
    Hid (Own8 wr w.heap.size Ac k capc (Crc.xors (a.take k) (b.take k))) ∧ Hid (Own8 wr w.heap.size Az k capz (List.replicate k 0)) ∧ Hid (Apart2 (.slice Ac k capc) (.slice Az k capz)) ∧ Hid (Below w.heap.size w wr)

theorem Below.drew_left {B : Nat} {w w' : World} (h : Below B w.drew w') : Below B w w' := ⟨h.os, h.tape, h.output, h.size, h.block⟩
theorem of_oneC (g cap : Nat) (A' : Option Addr) (n cap' : Nat) (l : List UInt8) (w : World) (ht : Tab w) (hn : l.length = n) (hc : w.cell? ⟨g, 0, none⟩ = some (.slice A' n cap')) (hb : Bytes w w.heap.size A' l) (hl : n ≤ 65536) :
    Calls Tryd.prog 14 #[.slice (some ⟨g, 0, none⟩) 1 cap] w fun e w' => e = .returned (.int .u32 ((Crc.crc l : Nat) : Int)) ∧ w = w' := of_one g 0 cap A' n cap' l w ht hn hc hb (by omega)
/-- A new array of one part, which is s. -/
def Arr1 (s : Value) (w : World) (v : Value) : Prop := ∃ g, v = .slice (some ⟨g, 0, none⟩) 1 1 ∧ w.cell? ⟨g, 0, none⟩ = some s ∧ g < w.heap.size
theorem Arr1.mono {s v : Value} {w w' : World} (hb : Below w.heap.size w w') (h : Arr1 s w v) : Arr1 s w' v := by
  obtain ⟨g, e, hc, hg⟩ := h
  exact ⟨g, e, (hb.cell (p := ⟨g, 0, none⟩) hg).trans hc, Nat.lt_of_lt_of_le hg hb.size⟩
theorem Arr1.new (s : Value) (w : World) : Arr1 s (w.alloc (.cells #[s] 25)) (.slice (some ⟨w.heap.size, 0, none⟩) 1 1) := ⟨_, rfl, cell_one_at w s _, by simp⟩
/-- What the last statement's temporaries hold. -/
def XG (c z a a' b b' : Value) (k : Nat) (cc ca cb cz cab : Nat) (i : Nat) (w : World) (v : Value) : Prop :=
  match i with
  | 0 => v = c | 1 => Arr1 c w v | 2 => v = .int .u32 (cc : Int)
  | 3 => v = a | 4 => v = .int .i64 (k : Int) | 5 => v = a' | 6 => Arr1 a' w v | 7 => v = .int .u32 (ca : Int)
  | 8 => v = b | 9 => v = .int .i64 (k : Int) | 10 => v = b' | 11 => Arr1 b' w v | 12 => v = .int .u32 (cb : Int)
  | 13 => v = .int .u32 (cab : Int) | 14 => v = z | 15 => Arr1 z w v | 16 => v = .int .u32 (cz : Int) | 17 => v = .int .u32 (cc : Int)
  | _ => v = .bool true
theorem XG.mono {c z a a' b b' : Value} {k cc ca cb cz cab i : Nat} {v : Value} {w w' : World} (hb : Below w.heap.size w w') (h : XG c z a a' b b' k cc ca cb cz cab i w v) : XG c z a a' b b' k cc ca cb cz cab i w' v := by
  unfold XG at *
  split at h <;> first | exact h | exact Arr1.mono hb h

set_option maxHeartbeats 3200000 in
theorem xors_walk (A1 A2 : Option Addr) (l1 l2 : List UInt8) (n1 n2 n cap1 cap2 : Nat) (w : World) (ht : Tab w) (h1 : Bytes w w.heap.size A1 l1) (h2 : Bytes w w.heap.size A2 l2) (hn1 : l1.length = n1) (hn2 : l2.length = n2) (hc1 : n1 ≤ cap1) (hc2 : n2 ≤ cap2) (hr1 : cap1 ≤ 140737488351232) (hr2 : cap2 ≤ 140737488351232) (hn : min n1 n2 = n) :
    Calls Tryd.prog 10 #[.slice A1 n1 cap1, .slice A2 n2 cap2] w fun e w' => e = .returned (.bool true) ∧ Hid (Below w.heap.size w w') := by
  have HT := Lib.hid ht
  have H1 := Lib.hid h1
  have H2 := Lib.hid h2
  have HN1 := Lib.hid hn1
  have HN2 := Lib.hid hn2
  have HMIN := Lib.hid hn
  have hl1 : n ≤ n1 := by omega
  have hl2 : n ≤ n2 := by omega
  obtain ⟨i0, hi0, hz0, hz1, hz2⟩ := info_parts Tryd.infoU8
  clear ht h1 h2 hn1 hn2 hn
  go_enter Tryd.func10, Tryd.ntmps10
  go_wp2_with fail
  refine (long_one A1 l1 n1 cap1 w HN1.out H1.out (by omega)).mono ?_
  rintro e W1 ⟨rfl, hW⟩
  have hT1 : Hid (Tab W1) := by rw [← hW]; exact HT.out.alloc _
  have hb1 : Hid (Below w.heap.size w W1) := by rw [← hW]; exact (Below.refl _ _).alloc (Nat.le_refl _) _
  clear hW
  by_cases hlong : 65536 < n1
  · have hd : decide (65536 < n1) = true := decide_eq_true hlong
    go_wp2_with fail
    refine (awake_any W1 hT1.out).mono ?_
    rintro e W2 ⟨rfl, hb2⟩
    have hb3 : Hid (Below w.heap.size w W2) := Lib.hid (hb1.out.trans (hb2.out.mono hb1.out.size))
    clear hb1 hb2
    go_wp2
    go_ret
    exact ⟨rfl, hb3⟩
  · have hd : decide (65536 < n1) = false := decide_eq_false hlong
    have hB2 : Hid (Bytes W1 W1.heap.size A2 l2) := Lib.hid ((H2.out.below hb1.out).more hb1.out.size)
    go_wp2_with fail
    refine (long_one A2 l2 n2 cap2 W1 HN2.out hB2.out (by omega)).mono ?_
    rintro e W2 ⟨rfl, hW⟩
    have hT2 : Hid (Tab W2) := by rw [← hW]; exact hT1.out.alloc _
    have hb2 : Hid (Below w.heap.size w W2) := by rw [← hW]; exact hb1.out.alloc hb1.out.size _
    clear hW hT1 hb1 hB2
    by_cases hlong2 : 65536 < n2
    · have hd2 : decide (65536 < n2) = true := decide_eq_true hlong2
      go_wp2_with fail
      refine (awake_any W2 hT2.out).mono ?_
      rintro e W3 ⟨rfl, hb3⟩
      have hb4 : Hid (Below w.heap.size w W3) := Lib.hid (hb2.out.trans (hb3.out.mono hb2.out.size))
      clear hb2 hb3
      go_wp2
      go_ret
      exact ⟨rfl, hb4⟩
    · have hd2 : decide (65536 < n2) = false := decide_eq_false hlong2
      have hle1 : n1 ≤ 65536 := by omega
      have hle2 : n2 ≤ 65536 := by omega
      clear hlong hlong2
      go_upto_region 3 with fail
      go_cut [5] (fun v wx => v = .int .i64 (n : Int) ∧ wx = W2)
      case first =>
        go_wp2_with fail
        all_goals (go_meet; exact ⟨by (congr 1; have := HMIN.out; omega), rfl⟩)
      case rest =>
      obtain ⟨rfl, rfl⟩ := hcut
      go_wp2_with fail
      go_loopw [6, 7, 8] (fun c z i wr => XorRel w l1 l2 n c z i wr) (fun _ _ i _ => n - (intOf i).toNat)
      case atStart => exact ⟨0, none, 0, none, 0, by omega, rfl, rfl, rfl, Lib.hid (World.ownsRow_nil _ _ _ _), Lib.hid (World.ownsRow_nil _ _ _ _), Lib.hid (fun j h => by simp [Value.ownBlock] at h), hb2⟩
      case round =>
        obtain ⟨k, Ac, capc, Az, capz, hk, rfl, rfl, rfl, hoc, hoz, hap, hbw⟩ := hrel
        by_cases hlt : k < n
        · obtain ⟨b1, f1, rfl, hbb1, hcl1⟩ := H1.out (by rw [HN1.out]; omega)
          obtain ⟨b2, f2, rfl, hbb2, hcl2⟩ := H2.out (by rw [HN2.out]; omega)
          have hx1 := (hbw.out.cell (p := ⟨b1, f1 + k, none⟩) hbb1).trans (hcl1 k (by rw [HN1.out]; omega))
          have hx2 := (hbw.out.cell (p := ⟨b2, f2 + k, none⟩) hbb2).trans (hcl2 k (by rw [HN2.out]; omega))
          have HX := Lib.hid (xors_succ l1 l2 k (by rw [HN1.out]; omega) (by rw [HN2.out]; omega))
          have hxy := u8_xor_nat (at8 l1 k) (at8 l2 k) (at8_lt _ _) (at8_lt _ _)
          have HXY := Lib.hid (show at8 l1 k ^^^ at8 l2 k = (l1.getD k 0 ^^^ l2.getD k 0).toNat by rw [UInt8.toNat_xor]; rfl)
          rw [HXY.out] at hxy
          clear hcl1 hcl2
          generalize at8 l1 k = x1 at hx1 hxy HXY
          generalize at8 l2 k = x2 at hx2 hxy HXY
          generalize l1.getD k 0 ^^^ l2.getD k 0 = y at hxy HX HXY
          have k0 : (0 : Int) ≤ (k : Int) := by omega
          have kn1 : (k : Int) < (n1 : Int) := by omega
          have kn2 : (k : Int) < (n2 : Int) := by omega
          have kn : (k : Int) < (n : Int) := by omega
          have ne1 := Lib.hid (show b1 < wr.heap.size from Nat.lt_of_lt_of_le hbb1 hbw.out.size)
          have ne2 := Lib.hid (show b2 < wr.heap.size from Nat.lt_of_lt_of_le hbb2 hbw.out.size)
          have D0 := Lib.hid hbw.out.size
          have lt1 : b1 < wr.heap.size := ne1.out
          have lt2 : b2 < wr.heap.size := ne2.out
          have C6 := Lib.hid (World.ownsRow.lt hoc.out)
          have ag1 : (Value.slice Ac k capc).ownBlock ≠ some b1 := fun h => by have := (C6.out b1 h).1; omega
          have ag2 : (Value.slice Ac k capc).ownBlock ≠ some b2 := fun h => by have := (C6.out b2 h).1; omega
          have C1 := Lib.hid ((World.ownsRow.alloc hoc.out (.cells #[.int .u8 ((y.toNat : Nat) : Int)] 5)).drew)
          have C2 := Lib.hid (World.news_of_block (w := (wr.alloc (.cells #[.int .u8 ((y.toNat : Nat) : Int)] 5)).drew) (cs := #[.int .u8 ((y.toNat : Nat) : Int)]) (t := 5) (fr := (0, 0)) (heap_alloc_new wr _))
          have C4 := Lib.hid (show k + 1 ≤ maxLen by unfold maxLen; omega)
          have C5 := Lib.hid (show w.heap.size ≤ ((wr.alloc (.cells #[.int .u8 ((y.toNat : Nat) : Int)] 5)).drew).heap.size by have := D0.out; simp; omega)
          have C7 := Lib.hid (show ((wr.alloc (.cells #[.int .u8 ((y.toNat : Nat) : Int)] 5)).drew).heap.size = wr.heap.size + 1 by simp)
          have C8 := Lib.hid (show (k + 1) * 1 ≤ 140737488355328 by omega)
          go_wp2_with fail
          go_region_held3 (fun w' => w'.cell? ⟨b1, f1 + k, none⟩ = some (.int .u8 (x1 : Int)) ∧ w'.cell? ⟨b2, f2 + k, none⟩ = some (.int .u8 (x2 : Int))) (first
            | go_keep
            | (go_split_ands
               refine ⟨?_, ?_⟩
               · (rw [hgrow.cell_far _ (by simp; omega) (Ne.symm ag1)]; assumption)
               · (rw [hgrow.cell_far _ (by simp; omega) (Ne.symm ag2)]; assumption))) ((refine step_append_lies _ (by rfl) _ _ _ (by rfl) w.heap.size 5 i0 _ 1 1 Tryd.underlying25 hi0 hz0 hz1 hz2 rfl (by omega) (.slice Ac k capc) k (bv (Crc.xors (l1.take k) (l2.take k))) (by rfl) C1.out ⟨wr.heap.size, 0, none⟩ 1 1 [.int .u8 ((y.toNat : Nat) : Int)] (by rfl) (by rfl) C2.out (by simp [Value.oneCell']) (by omega) C4.out C8.out C5.out (wr.heap.size + 1) C7.out ?_; intro gg capg w1 hown1 hgrow hat hlt1))
          have hoc1 : Hid (Own8 w1 w.heap.size (some ⟨gg, 0, none⟩) (k + 1) capg (Crc.xors (l1.take (k + 1)) (l2.take (k + 1)))) := Lib.hid (by unfold Own8; rw [HX.out, bv_append]; exact hown1)
          have hoz1 : Hid (Own8 w1 w.heap.size Az k capz (List.replicate k 0)) := Lib.hid (kept_far ((World.ownsRow.alloc hoz.out (.cells #[.int .u8 ((y.toNat : Nat) : Int)] 5)).drew) hgrow hap.out)
          have hb3 : Hid (Below w.heap.size w w1) := Lib.hid (((hbw.out.alloc D0.out (.cells #[.int .u8 ((y.toNat : Nat) : Int)] 5)).drew).grown hgrow C5.out (fun j hj => (C6.out j hj).1))
          have hap1 : Hid (Apart2 (.slice (some ⟨gg, 0, none⟩) (k + 1) capg) (.slice Az k capz)) := Lib.hid (fun j hj hz => by
            have hj' : gg = j := by simpa [Value.ownBlock] using hj
            rcases hat with h | h
            · exact hap.out gg h (by rw [hj']; exact hz)
            · have := (World.ownsRow.lt hoz.out j hz).2
              omega)
          have hlt1' := Lib.hid hlt1
          clear hown1 hgrow hat hap hoz hoc hbw C1 C2 C5 C6 C7 ag1 ag2 lt1 lt2 D0 HX hlt1 hx1 hx2 hxy
          have D1 := Lib.hid hb3.out.size
          have E1 := Lib.hid (World.ownsRow.alloc hoz1.out (.cells #[.int .u8 0] 5))
          have E2 := Lib.hid (cell_one_new w1 (.int .u8 0) 5)
          have E3 := Lib.hid (hb3.out.alloc D1.out (.cells #[.int .u8 0] 5))
          have E5 := Lib.hid (show w.heap.size ≤ (w1.alloc (.cells #[.int .u8 0] 5)).heap.size by have := D1.out; simp; omega)
          have E6 := Lib.hid (World.ownsRow.lt hoz1.out)
          have E7 := Lib.hid (show (w1.alloc (.cells #[.int .u8 0] 5)).heap.size = w1.heap.size + 1 by simp)
          go_wp2_with (at_builtin; refine wpList_append_lies _ rfl (.tmp 40) (.tmp 41) 25 rfl w.heap.size 5 i0 _ 1 1 Tryd.underlying25 hi0 hz0 hz1 hz2 rfl (by omega) (.slice Az k capz) k (bv (List.replicate k 0)) rfl E1.out ⟨w1.heap.size, 0, none⟩ 1 1 [.int .u8 0] rfl rfl E2.out (by simp [Value.oneCell']) (by omega) C4.out C8.out E5.out (w1.heap.size + 1) E7.out ?_)
          intro gz capz2 w2 hown2 hgrow2 hat2 _
          have hoz2 : Hid (Own8 w2 w.heap.size (some ⟨gz, 0, none⟩) (k + 1) capz2 (List.replicate (k + 1) 0)) := Lib.hid (by unfold Own8; rw [List.replicate_succ', bv_append]; exact hown2)
          have hoc2 : Hid (Own8 w2 w.heap.size (some ⟨gg, 0, none⟩) (k + 1) capg (Crc.xors (l1.take (k + 1)) (l2.take (k + 1)))) := Lib.hid (kept_far (World.ownsRow.alloc hoc1.out (.cells #[.int .u8 0] 5)) hgrow2 (fun j hj hc => hap1.out j hc hj))
          have hb4 : Hid (Below w.heap.size w w2) := Lib.hid (E3.out.grown hgrow2 E5.out (fun j hj => (E6.out j hj).1))
          have hap2 : Hid (Apart2 (.slice (some ⟨gg, 0, none⟩) (k + 1) capg) (.slice (some ⟨gz, 0, none⟩) (k + 1) capz2)) := Lib.hid (fun j hj hz => by
            have hz' : gz = j := by simpa [Value.ownBlock] using hz
            rcases hat2 with h | h
            · exact hap1.out j hj (by rw [h, hz'])
            · have := (World.ownsRow.lt hoc1.out j hj).2
              omega)
          clear hown2 hgrow2 hat2 hap1 hoz1 hoc1 hb3 E1 E2 E3 E5 E6 E7 C4 C8 D1
          go_wp2
          go_roundw
          case rel => exact ⟨k + 1, _, capg, _, capz2, by omega, by go_num, rfl, rfl, hoc2, hoz2, hap2, hb4⟩
          case measure => simp [intOf]; omega
        · have hkn : k = n := by omega
          have hcB : Hid (Bytes wr wr.heap.size Ac (Crc.xors (l1.take k) (l2.take k))) := Lib.hid hoc.out.bytes
          have hzB : Hid (Bytes wr wr.heap.size Az (List.replicate k 0)) := Lib.hid hoz.out.bytes
          have hB1 : Hid (Bytes wr wr.heap.size A1 (l1.take k)) := Lib.hid (((H1.out.below hbw.out).more hbw.out.size).front k)
          have hB2 : Hid (Bytes wr wr.heap.size A2 (l2.take k)) := Lib.hid (((H2.out.below hbw.out).more hbw.out.size).front k)
          have hT3 : Hid (Tab wr) := Lib.hid (HT.out.below HT.out.pos hbw.out)
          clear hoc hoz hap hT2 hb2
          obtain rfl : n = k := hkn.symm
          have LC := Lib.hid (xors_len l1 l2 n (by rw [HN1.out]; omega) (by rw [HN2.out]; omega))
          have LA := Lib.hid (show (l1.take n).length = n by rw [List.length_take, HN1.out]; omega)
          have LB := Lib.hid (show (l2.take n).length = n by rw [List.length_take, HN2.out]; omega)
          have LZ := Lib.hid (show (List.replicate n (0 : UInt8)).length = n by simp)
          have HC0 := Lib.hid (Crc.crc_xors (l1.take n) (l2.take n) (by rw [LA.out, LB.out]))
          rw [LA.out] at HC0
          have m1 : (0 : Int) ≤ (n : Int) := by omega
          have m2 : (n : Int) ≤ (cap1 : Int) := by omega
          have m3 : (n : Int) ≤ (cap2 : Int) := by omega
          go_wp2_with fail
          refine region_steps (n := 65) (XG (.slice Ac n capc) (.slice Az n capz) (.slice A1 n1 cap1) (.slice A1 n cap1) (.slice A2 n2 cap2) (.slice A2 n cap2) n ((Crc.crc (l1.take n) ^^^ Crc.crc (l2.take n)) ^^^ Crc.crc (List.replicate n 0)) (Crc.crc (l1.take n)) (Crc.crc (l2.take n)) (Crc.crc (List.replicate n 0)) (Crc.crc (l1.take n) ^^^ Crc.crc (l2.take n))) (by kernel_rfl) (by kernel_rfl) rfl (fun _ _ _ _ hb h => XG.mono hb h) ?_ ?_
          · refine And.intro ?_ (And.intro ?_ (And.intro ?_ (And.intro ?_ (And.intro ?_ (And.intro ?_ (And.intro ?_ (And.intro ?_ (And.intro ?_ (And.intro ?_ (And.intro ?_ (And.intro ?_ (And.intro ?_ (And.intro ?_ (And.intro ?_ (And.intro ?_ (And.intro ?_ (And.intro ?_ (And.intro ?_ (And.intro ?_ (And.intro ?_ (And.intro ?_ (And.intro ?_ True.intro))))))))))))))))))))))
            · intro listed a' w' hw hd K hK
              refine step_free rfl ?_
              apply wp_move
              exact hK _ _ (Below.refl _ _) (fun s hs => by cases hs; exact hw.kept 6 (by kernel_rfl))
            · intro listed a' w' hw hd K hK
              refine step_free rfl ?_
              have hv := (hw.at_ 0 43 rfl (hd ⟨0, .data⟩ (by simp) rfl))
              have hv1 : a'.tmps.getD 43 undef = .slice Ac n capc := hv
              have hv2 : a'.tmps[43]?.getD undef = .slice Ac n capc := by simpa using hv1
              unfold Oper.wp
              simp only [execOp, Act.eval]
              go_simp
              exact hK _ _ ((Below.refl _ _).alloc (Nat.le_refl _) _) (fun s hs => by cases hs; exact Arr1.new _ _)
            · intro listed a' w' hw hd K hK
              refine step_free rfl ?_
              obtain ⟨g, hv, hc, hg⟩ : Arr1 (.slice Ac n capc) w' (a'.tmps.getD 44 undef) := (hw.at_ 1 44 rfl (hd ⟨1, .data⟩ (by simp) rfl))
              have hT := Lib.hid (hT3.out.below (w' := w') hT3.out.pos (Below.drew_left hw.below))
              have hB := Lib.hid ((hcB.out.below (w' := w') (Below.drew_left hw.below)).more (Below.drew_left hw.below).size)
              have HC := Lib.hid hc
              clear hc
              unfold Oper.wp
              simp only [execOp]
              go_simp
              refine (of_oneC g 1 (Ac) (n) (capc) (Crc.xors (l1.take n) (l2.take n)) w' hT.out LC.out HC.out hB.out (by omega)).mono ?_
              rintro e w2 ⟨rfl, rfl⟩
              exact hK _ _ (Below.refl _ _) (fun s hs => by cases hs; exact by rw [HC0.out]; rfl)
            · intro listed a' w' hw hd K hK
              refine step_free rfl ?_
              apply wp_move
              exact hK _ _ (Below.refl _ _) (fun s hs => by cases hs; exact hw.kept 0 (by kernel_rfl))
            · intro listed a' w' hw hd K hK
              refine step_free rfl ?_
              apply wp_move
              exact hK _ _ (Below.refl _ _) (fun s hs => by cases hs; exact hw.kept 5 (by kernel_rfl))
            · intro listed a' w' hw hd K hK
              refine step_free rfl ?_
              have hv : a'.tmps.getD 46 undef = .slice A1 n1 cap1 := (hw.at_ 3 46 rfl (hd ⟨3, .data⟩ (by simp) rfl))
              have hu : a'.tmps.getD 47 undef = .int .i64 (n : Int) := (hw.at_ 4 47 rfl (hd ⟨4, .data⟩ (by simp) rfl))
              unfold Oper.wp
              simp only [execOp, Act.eval, hv]
              go_simp
              exact hK _ _ (Below.refl _ _) (fun s hs => by cases hs; rfl)
            · intro listed a' w' hw hd K hK
              refine step_free rfl ?_
              have hv := (hw.at_ 5 48 rfl (hd ⟨5, .data⟩ (by simp) rfl))
              have hv1 : a'.tmps.getD 48 undef = .slice A1 n cap1 := hv
              have hv2 : a'.tmps[48]?.getD undef = .slice A1 n cap1 := by simpa using hv1
              unfold Oper.wp
              simp only [execOp, Act.eval]
              go_simp
              exact hK _ _ ((Below.refl _ _).alloc (Nat.le_refl _) _) (fun s hs => by cases hs; exact Arr1.new _ _)
            · intro listed a' w' hw hd K hK
              refine step_free rfl ?_
              obtain ⟨g, hv, hc, hg⟩ : Arr1 (.slice A1 n cap1) w' (a'.tmps.getD 49 undef) := (hw.at_ 6 49 rfl (hd ⟨6, .data⟩ (by simp) rfl))
              have hT := Lib.hid (hT3.out.below (w' := w') hT3.out.pos (Below.drew_left hw.below))
              have hB := Lib.hid ((hB1.out.below (w' := w') (Below.drew_left hw.below)).more (Below.drew_left hw.below).size)
              have HC := Lib.hid hc
              clear hc
              unfold Oper.wp
              simp only [execOp]
              go_simp
              refine (of_oneC g 1 (A1) (n) (cap1) (l1.take n) w' hT.out LA.out HC.out hB.out (by omega)).mono ?_
              rintro e w2 ⟨rfl, rfl⟩
              exact hK _ _ (Below.refl _ _) (fun s hs => by cases hs; exact rfl)
            · intro listed a' w' hw hd K hK
              refine step_free rfl ?_
              apply wp_move
              exact hK _ _ (Below.refl _ _) (fun s hs => by cases hs; exact hw.kept 1 (by kernel_rfl))
            · intro listed a' w' hw hd K hK
              refine step_free rfl ?_
              apply wp_move
              exact hK _ _ (Below.refl _ _) (fun s hs => by cases hs; exact hw.kept 5 (by kernel_rfl))
            · intro listed a' w' hw hd K hK
              refine step_free rfl ?_
              have hv : a'.tmps.getD 51 undef = .slice A2 n2 cap2 := (hw.at_ 8 51 rfl (hd ⟨8, .data⟩ (by simp) rfl))
              have hu : a'.tmps.getD 52 undef = .int .i64 (n : Int) := (hw.at_ 9 52 rfl (hd ⟨9, .data⟩ (by simp) rfl))
              unfold Oper.wp
              simp only [execOp, Act.eval, hv]
              go_simp
              exact hK _ _ (Below.refl _ _) (fun s hs => by cases hs; rfl)
            · intro listed a' w' hw hd K hK
              refine step_free rfl ?_
              have hv := (hw.at_ 10 53 rfl (hd ⟨10, .data⟩ (by simp) rfl))
              have hv1 : a'.tmps.getD 53 undef = .slice A2 n cap2 := hv
              have hv2 : a'.tmps[53]?.getD undef = .slice A2 n cap2 := by simpa using hv1
              unfold Oper.wp
              simp only [execOp, Act.eval]
              go_simp
              exact hK _ _ ((Below.refl _ _).alloc (Nat.le_refl _) _) (fun s hs => by cases hs; exact Arr1.new _ _)
            · intro listed a' w' hw hd K hK
              refine step_free rfl ?_
              obtain ⟨g, hv, hc, hg⟩ : Arr1 (.slice A2 n cap2) w' (a'.tmps.getD 54 undef) := (hw.at_ 11 54 rfl (hd ⟨11, .data⟩ (by simp) rfl))
              have hT := Lib.hid (hT3.out.below (w' := w') hT3.out.pos (Below.drew_left hw.below))
              have hB := Lib.hid ((hB2.out.below (w' := w') (Below.drew_left hw.below)).more (Below.drew_left hw.below).size)
              have HC := Lib.hid hc
              clear hc
              unfold Oper.wp
              simp only [execOp]
              go_simp
              refine (of_oneC g 1 (A2) (n) (cap2) (l2.take n) w' hT.out LB.out HC.out hB.out (by omega)).mono ?_
              rintro e w2 ⟨rfl, rfl⟩
              exact hK _ _ (Below.refl _ _) (fun s hs => by cases hs; exact rfl)
            · intro listed a' w' hw hd K hK
              refine step_free rfl ?_
              have hv : a'.tmps.getD 50 undef = .int .u32 ((Crc.crc (l1.take n) : Nat) : Int) := (hw.at_ 7 50 rfl (hd ⟨7, .data⟩ (by simp) rfl))
              have hu : a'.tmps.getD 55 undef = .int .u32 ((Crc.crc (l2.take n) : Nat) : Int) := (hw.at_ 12 55 rfl (hd ⟨12, .data⟩ (by simp) rfl))
              have he := u32_xor_nat (Crc.crc (l1.take n)) (Crc.crc (l2.take n)) (Crc.crc_lt _) (Crc.crc_lt _)
              unfold Oper.wp
              simp only [execOp, Act.eval, hv, hu]
              go_simp
              exact hK _ _ (Below.refl _ _) (fun s hs => by cases hs; rfl)
            · intro listed a' w' hw hd K hK
              refine step_free rfl ?_
              apply wp_move
              exact hK _ _ (Below.refl _ _) (fun s hs => by cases hs; exact hw.kept 7 (by kernel_rfl))
            · intro listed a' w' hw hd K hK
              refine step_free rfl ?_
              have hv := (hw.at_ 14 57 rfl (hd ⟨14, .data⟩ (by simp) rfl))
              have hv1 : a'.tmps.getD 57 undef = .slice Az n capz := hv
              have hv2 : a'.tmps[57]?.getD undef = .slice Az n capz := by simpa using hv1
              unfold Oper.wp
              simp only [execOp, Act.eval]
              go_simp
              exact hK _ _ ((Below.refl _ _).alloc (Nat.le_refl _) _) (fun s hs => by cases hs; exact Arr1.new _ _)
            · intro listed a' w' hw hd K hK
              refine step_free rfl ?_
              obtain ⟨g, hv, hc, hg⟩ : Arr1 (.slice Az n capz) w' (a'.tmps.getD 58 undef) := (hw.at_ 15 58 rfl (hd ⟨15, .data⟩ (by simp) rfl))
              have hT := Lib.hid (hT3.out.below (w' := w') hT3.out.pos (Below.drew_left hw.below))
              have hB := Lib.hid ((hzB.out.below (w' := w') (Below.drew_left hw.below)).more (Below.drew_left hw.below).size)
              have HC := Lib.hid hc
              clear hc
              unfold Oper.wp
              simp only [execOp]
              go_simp
              refine (of_oneC g 1 (Az) (n) (capz) (List.replicate n 0) w' hT.out LZ.out HC.out hB.out (by omega)).mono ?_
              rintro e w2 ⟨rfl, rfl⟩
              exact hK _ _ (Below.refl _ _) (fun s hs => by cases hs; exact rfl)
            · intro listed a' w' hw hd K hK
              refine step_free rfl ?_
              have hv : a'.tmps.getD 56 undef = .int .u32 ((Crc.crc (l1.take n) ^^^ Crc.crc (l2.take n) : Nat) : Int) := (hw.at_ 13 56 rfl (hd ⟨13, .data⟩ (by simp) rfl))
              have hu : a'.tmps.getD 59 undef = .int .u32 ((Crc.crc (List.replicate n 0) : Nat) : Int) := (hw.at_ 16 59 rfl (hd ⟨16, .data⟩ (by simp) rfl))
              have he := u32_xor_nat (Crc.crc (l1.take n) ^^^ Crc.crc (l2.take n)) (Crc.crc (List.replicate n 0)) (Nat.xor_lt_two_pow (n := 32) (Crc.crc_lt _) (Crc.crc_lt _)) (Crc.crc_lt _)
              unfold Oper.wp
              simp only [execOp, Act.eval, hv, hu]
              go_simp
              exact hK _ _ (Below.refl _ _) (fun s hs => by cases hs; rfl)
            · intro listed a' w' hw hd K hK
              refine step_free rfl ?_
              have hv : a'.tmps.getD 45 undef = .int .u32 (((Crc.crc (l1.take n) ^^^ Crc.crc (l2.take n)) ^^^ Crc.crc (List.replicate n 0) : Nat) : Int) := (hw.at_ 2 45 rfl (hd ⟨2, .data⟩ (by simp) rfl))
              have hu : a'.tmps.getD 60 undef = .int .u32 (((Crc.crc (l1.take n) ^^^ Crc.crc (l2.take n)) ^^^ Crc.crc (List.replicate n 0) : Nat) : Int) := (hw.at_ 17 60 rfl (hd ⟨17, .data⟩ (by simp) rfl))
              unfold Oper.wp
              simp only [execOp, Act.eval, hv, hu]
              go_simp
              exact hK _ _ (Below.refl _ _) (fun s hs => by cases hs; rfl)
            · intro listed a' w' hw hd K hK
              refine step_free rfl ?_
              apply wp_move
              exact hK _ _ (Below.refl _ _) (fun s hs => by cases hs; exact (hw.at_ 18 61 rfl (hd ⟨18, .data⟩ (by simp) rfl)))
            · intro listed a' w' hw hd K hK
              have hv : a'.tmps.getD 62 undef = .bool true := (hw.at_ 19 62 rfl (hd ⟨19, .guard⟩ (by simp) rfl))
              have hT := Lib.hid (hT3.out.below (w' := w') hT3.out.pos (Below.drew_left hw.below))
              refine step_guarded (j := 19) (b := true) (s := 62) rfl rfl (by rw [hw.size]; exact Nat.lt_of_lt_of_eq (show 62 < 65 by omega) rfl) hv ?_
              unfold Oper.wp
              simp only [execOp]
              go_simp
              refine (awake_any w' hT.out).mono ?_
              rintro e w2 ⟨rfl, hb⟩
              exact hK _ _ hb.out (fun s hs => by cases hs; rfl)
            · intro listed a' w' hw hd K hK
              refine step_free rfl ?_
              have hv : a'.tmps.getD 62 undef = .bool true := (hw.at_ 19 62 rfl (hd ⟨19, .data⟩ (by simp) rfl))
              have hu : a'.tmps.getD 63 undef = .bool true := (hw.at_ 20 63 rfl (hd ⟨20, .data⟩ (by simp) rfl))
              unfold Oper.wp
              simp only [execOp, Act.eval, hv, hu]
              go_simp
              exact hK _ _ (Below.refl _ _) (fun s hs => by cases hs; rfl)
            · intro listed a' w' hw hd K hK
              refine step_free rfl ?_
              apply wp_assign
              exact hK _ _ (Below.refl _ _) (fun s hs => by cases hs; exact (hw.at_ 21 64 rfl (hd ⟨21, .data⟩ (by simp) rfl)))
          · intro listed a' w' hw hall
            have h4 : a'.tmps.getD 4 undef = .bool true := hw.at_ 22 4 rfl (hall 22 (Nat.lt_of_lt_of_eq (show 22 < 23 by omega) rfl))
            have hdf : a'.defers = [] := hw.defers
            have hbF : Hid (Below w.heap.size w w') := Lib.hid (hbw.out.trans ((Below.drew_left hw.below).mono hbw.out.size))
            clear hw hall
            go_wp2
            have hr := results_tmp (fn := Tryd.f10) (t := 4) rfl a'.tmps Tryd.prog w'
            rw [h4] at hr
            exact bodyPost_ret hr hdf ⟨rfl, hbF⟩
end Go.Proofs.YthobaicphdhflaaDoor
