/-
  What the document's own answers for a seal and for opening do, and its copy: each makes what it answers in memory of the call's own, and leaves all else as it was. For at most 2^40 bytes.
-/
import Derived.Test.YtelbhlkojpnmgaaDoorSrefof
import Derived.Test.YtelbhlkojpnmgaaDoorSopen
import Derived.Test.YtelbhlkojpnmgaaDoorSsame
import Derived.Laws.AppendOwnNone
namespace Go.Proofs.YtelbhlkojpnmgaaDoor
open Go.RowKit

theorem own8_base {w : World} {base base' n cap : Nat} {A : Option Addr} {l : List UInt8} (h : Own8 w base A n cap l) (hb : base' ≤ base) : Own8 w base' A n cap l := by
  refine ⟨h.1, ?_⟩
  rcases h.2 with h1 | ⟨g, c, cur, hv, hg, hrest⟩
  · exact .inl h1
  · exact .inr ⟨g, c, cur, hv, Nat.le_trans hb hg, hrest⟩

def CopyEnds (w : World) (l : List UInt8) (n : Nat) (e : Ending) (w' : World) : Prop :=
  ∃ A cap, e = .returned (.slice A n cap) ∧ Hid (Own8 w' w.heap.size A n cap l) ∧ Hid (Below w.heap.size w w')

set_option maxHeartbeats 400000 in
theorem copy_any (A : Option Addr) (l : List UInt8) (n cap B : Nat) (w : World) (hn : l.length = n) (hA : A = none → cap = 0) (hb : Bytes w B A l) (hB : B ≤ w.heap.size) (hl : n ≤ 1099511627776) :
    Calls Tryd.prog 50 #[.slice A n cap] w (CopyEnds w l n) := by
  obtain ⟨i0, hi0, hz0, hz1, hz2⟩ := info_parts Tryd.infoU8
  have C1 := Lib.hid (World.ownsRow_made (base := w.heap.size) (e := 5) (size := 1) w #[] 0 (Nat.le_refl _) (by unfold maxLen; omega) rfl)
  have C2 := Lib.hid ((Below.refl w.heap.size w).alloc (Nat.le_refl _) (.cells #[] 5))
  rcases A with _ | ad
  · obtain rfl := hA rfl
    have hl0 : l = [] := by
      rcases Nat.eq_zero_or_pos l.length with h0 | h0
      · exact List.eq_nil_of_length_eq_zero h0
      · obtain ⟨_, _, e, _⟩ := hb h0; cases e
    subst hl0
    obtain rfl : n = 0 := by simpa using hn.symm
    clear hb hn hA
    go_enter Tryd.func50, Tryd.ntmps50
    go_wp2_with (at_builtin; refine wpList_append_own_none rfl (.tmp 3) (.tmp 4) 23 rfl w.heap.size 5 i0 1 Tryd.underlying23 hi0 (.slice (some ⟨w.heap.size, 0, none⟩) 0 0) 0 [] rfl C1.out rfl ?_)
    go_ret
    exact ⟨_, _, rfl, C1.out, C2.out⟩
  · have C3 := Lib.hid (hb.alloc hB (.cells #[] 5))
    have C4 := Lib.hid (fun (h : 0 < (bv l).length) => C3.out.src h)
    have HN := Lib.hid hn
    have C5 := Lib.hid (show ∀ j u, (bv l)[j]? = some u → (w.alloc (.cells #[] 5)).cell? (ad.add j) = some u from fun j u hu => by
      obtain ⟨ad', e, h⟩ := C4.out (by have := (List.getElem?_eq_some_iff.1 hu).1; omega)
      cases e
      exact h j u hu)
    have C6 := Lib.hid (show (bv l).length = n * 1 by rw [bv_length, hn]; omega)
    have C7 := Lib.hid (show 0 + n ≤ maxLen by unfold maxLen; omega)
    clear hb hn hA
    go_enter Tryd.func50, Tryd.ntmps50
    go_wp2_with (at_builtin; refine wpList_append_own_at _ rfl (.tmp 3) (.tmp 4) 23 rfl w.heap.size 5 i0 _ 1 1 Tryd.underlying23 hi0 hz0 hz1 hz2 rfl (by omega) (.slice (some ⟨w.heap.size, 0, none⟩) 0 0) 0 [] rfl C1.out ad n cap (bv l) rfl C6.out C5.out (bv_one l) C7.out (by omega) (by simp) ?_)
    intro v' w1 hown hg hnil hat
    have hb1 : Hid (Below w.heap.size w w1) := Lib.hid (C2.out.grown hg (by simp) (fun k hk => by simp [Value.ownBlock] at hk; omega))
    obtain ⟨A', cap', rfl⟩ := own_value hown
    have ho : Hid (Own8 w1 w.heap.size A' n cap' l) := hown
    clear hown hg hnil hat C1 C2 C3 C4 C5 C6 C7
    go_wp2
    go_ret
    exact ⟨A', cap', rfl, ho.out, hb1.out⟩

theorem le4at_div (c k : Nat) (hk : k < 4) : (le4at c k).toNat = c / 256 ^ k % 256 := by
  have : k = 0 ∨ k = 1 ∨ k = 2 ∨ k = 3 := by omega
  rcases this with rfl | rfl | rfl | rfl <;> simp [le4at, Crc.le4, UInt8.toNat_ofNat']
theorem le4_take (c k : Nat) (hk : k < 4) : (Crc.le4 c).take (k + 1) = (Crc.le4 c).take k ++ [le4at c k] := by
  have : k = 0 ∨ k = 1 ∨ k = 2 ∨ k = 3 := by omega
  rcases this with rfl | rfl | rfl | rfl <;> rfl
theorem div_pow_succ (c k : Nat) : c / 256 ^ (k + 1) = c / 256 ^ k / 256 := by rw [Nat.pow_succ, Nat.div_div_eq_div_mul]

def RefSealEnds (w : World) (l : List UInt8) (n : Nat) (e : Ending) (w' : World) : Prop :=
  ∃ A cap, e = .returned (.slice A (n + 4) cap) ∧ Hid (Own8 w' w.heap.size A (n + 4) cap (Crc.seal_ l)) ∧ Hid (Below w.heap.size w w')
def RefSealRel (w : World) (l : List UInt8) (n c : Nat) (s v i : Value) (wr : World) : Prop :=
  ∃ k A cap, k ≤ 4 ∧ i = .int .i64 (k : Nat) ∧ s = .int .u32 ((c / 256 ^ k : Nat) : Int) ∧ v = .slice A (n + k) cap ∧ Hid (Own8 wr w.heap.size A (n + k) cap (l ++ (Crc.le4 c).take k)) ∧ Hid (Below w.heap.size w wr)

set_option maxHeartbeats 800000 in
theorem refSeal_any (A : Option Addr) (l : List UInt8) (n cap : Nat) (w : World) (hn : l.length = n) (hA : A = none → cap = 0) (hb : Bytes w w.heap.size A l) (hl : n ≤ 1048576) :
    Calls Tryd.prog 33 #[.slice A n cap] w (RefSealEnds w l n) := by
  obtain ⟨i0, hi0, hz0, hz1, hz2⟩ := info_parts Tryd.infoU8
  have HN := Lib.hid hn
  have HA := Lib.hid hA
  have HB := Lib.hid hb
  clear hb hn hA
  go_enter Tryd.func33, Tryd.ntmps33
  go_wp2_with fail
  refine (refOf_any A l n cap w.heap.size w HN.out HB.out (by unfold maxLen; omega)).mono ?_
  rintro e w' ⟨rfl, rfl⟩
  go_wp2_with fail
  refine (copy_any A l n cap w.heap.size w HN.out HA.out HB.out (Nat.le_refl _) (by omega)).mono ?_
  rintro e W1 ⟨A1, cap1, rfl, ho, hb1⟩
  have hcl := Crc.crc_lt l
  generalize hcc : Crc.crc l = c at hcl
  have HC := Lib.hid hcc
  clear hcc HB HA
  go_wp2_with fail
  go_loopw [3, 4, 5] (fun s v i wr => RefSealRel w l n c s v i wr) (fun _ _ i _ => 4 - (intOf i).toNat)
  case atStart => exact ⟨0, A1, cap1, by omega, rfl, by simp, rfl, by simpa using ho, hb1⟩
  case round =>
    obtain ⟨k, A2, cap2, hk, rfl, rfl, rfl, ho2, hb2⟩ := hrel
    by_cases hlt : k < 4
    · have HD := Lib.hid (div_pow_succ c k)
      have hS : c / 256 ^ k < 4294967296 := Nat.lt_of_le_of_lt (Nat.div_le_self _ _) hcl
      have HL := Lib.hid (le4at_div c k hlt)
      have HT := Lib.hid (le4_take c k hlt)
      generalize c / 256 ^ k = S at hS HD HL
      have s0 : (0 : Int) ≤ (S : Int) := by omega
      have e1 : (S : Int) % 256 % 256 = (((le4at c k).toNat : Nat) : Int) := by rw [HL.out]; omega
      have e2 : (S : Int) % 256 = (((le4at c k).toNat : Nat) : Int) := by rw [HL.out]; omega
      have e3 : (((le4at c k).toNat : Nat) : Int) % 256 = (((le4at c k).toNat : Nat) : Int) := by rw [HL.out]; omega
      have C1 := Lib.hid (ho2.out.alloc (.cells #[.int .u8 (((le4at c k).toNat : Nat) : Int)] 5))
      have C2 := Lib.hid (cell_one_new wr (.int .u8 (((le4at c k).toNat : Nat) : Int)) 5)
      have C3 := Lib.hid (hb2.out.alloc hb2.out.size (.cells #[.int .u8 (((le4at c k).toNat : Nat) : Int)] 5))
      have C4 := Lib.hid (show n + k + 1 ≤ maxLen by unfold maxLen; omega)
      have C5 := Lib.hid (show w.heap.size ≤ (wr.alloc (.cells #[.int .u8 (((le4at c k).toNat : Nat) : Int)] 5)).heap.size by have := hb2.out.size; simp; omega)
      have C6 := Lib.hid (World.ownsRow.lt (show World.ownsRow _ _ _ _ _ _ _ from ho2.out))
      clear HL
      generalize le4at c k = x at e1 e2 e3 HT C1 C2 C3 C5
      go_wp2_with (at_builtin; refine wpList_append_own_at _ rfl (.tmp 14) (.tmp 18) 23 rfl w.heap.size 5 i0 _ 1 1 Tryd.underlying23 hi0 hz0 hz1 hz2 rfl (by omega) (.slice A2 (n + k) cap2) (n + k) (bv (l ++ (Crc.le4 c).take k)) rfl C1.out ⟨wr.heap.size, 0, none⟩ 1 1 [.int .u8 ((x.toNat : Nat) : Int)] rfl rfl C2.out (by simp [Value.oneCell']) C4.out (by omega) C5.out ?_)
      intro v' w1 hown hg _ _
      have hb3 : Hid (Below w.heap.size w w1) := Lib.hid (C3.out.grown hg C5.out (fun j hj => (C6.out j hj).1))
      obtain ⟨A3, cap3, rfl⟩ := own_value hown
      have ho3 : Hid (Own8 w1 w.heap.size A3 (n + (k + 1)) cap3 (l ++ (Crc.le4 c).take (k + 1))) := Lib.hid (by rw [HT.out, ← List.append_assoc]; unfold Own8; rw [bv_append]; exact hown)
      clear hown hg C1 C2 C3 C4 C5 C6 e1
      go_wp2
      go_roundw
      case rel => exact ⟨k + 1, A3, cap3, by omega, by go_num, by rw [HD.out]; rfl, rfl, ho3, hb3⟩
      case measure => simp [intOf]; omega
    · obtain rfl : k = 4 := by omega
      go_wp2
      go_ret
      exact ⟨A2, cap2, rfl, Lib.hid (by unfold Crc.seal_; rw [HC.out]; exact ho2.out), hb2⟩
end Go.Proofs.YtelbhlkojpnmgaaDoor
