/-
  The statement SumBursts: a sealed text of which bits are turned that lie within 32 side by side is opened no more. No condition but the row's own: the package's table lies as the program's text lays it.
-/
import Derived.Test.YthobaicphdhflaaDoorSpoilt
import Derived.Laws.AppendOwnNone
namespace Go.Proofs.YthobaicphdhflaaDoor
open Go.RowKit

theorem Tryd.infoInt : (Tryd.prog.info? 3).map (fun i => (i.zero, i.size, i.bytes)) = some (some (.int .i64 0), 1, 8) := by kernel_rfl
def iv (l : List Nat) : List Value := l.map fun n => .int .i64 ((n : Nat) : Int)
@[simp] theorem iv_length (l : List Nat) : (iv l).length = l.length := by simp [iv]
theorem iv_snoc (l : List Nat) (n : Nat) : iv (l ++ [n]) = iv l ++ [.int .i64 ((n : Nat) : Int)] := by simp [iv]
def OwnI (w : World) (base : Nat) (A : Option Addr) (n cap : Nat) (l : List Nat) : Prop := w.ownsRow base 3 1 (.slice A n cap) n (iv l)
theorem ownI_value {w : World} {base n : Nat} {v : Value} {xs : List Value} (h : w.ownsRow base 3 1 v n xs) : ∃ A cap, v = .slice A n cap := by
  rcases h.2 with ⟨hv, hx⟩ | ⟨g, c, cur, hv, _⟩
  · rw [hx]; exact ⟨none, 0, hv⟩
  · exact ⟨_, _, hv⟩
theorem OwnI.ints {w : World} {base n cap g : Nat} {A : Option Addr} {l : List Nat} (h : OwnI w base A n cap l) (hg : g < base) : Ints w g A (l.map fun n => ((n : Nat) : Int)) := fun hn => by
  have hl : l.length = n := by have := h.1; simpa using this
  rcases h.2 with ⟨hv, hx⟩ | ⟨g', c, cur, hv, hb, hh, _⟩
  · rw [hx] at hl; simp at hn; omega
  · have hv' : A = some ⟨g', 0, none⟩ ∧ cap = c := by simpa using hv
    obtain ⟨rfl, rfl⟩ := hv'
    refine ⟨g', 0, rfl, by omega, fun k hk => ?_⟩
    have hk' : k < l.length := by simpa using hk
    have hc := h.cells (g := g') rfl k (.int .i64 ((l[k] : Nat) : Int)) (by simp [iv, hk'])
    rw [add_mk] at hc
    rw [hc]
    simp [List.getD, hk']
theorem places_stop {p b N k : Nat} (h : N ≤ p + k) : ∀ m, k ≤ m → Crc.places p b N m = Crc.places p b N k := by
  intro m
  induction m with
  | zero => intro hm; obtain rfl : k = 0 := by omega
            rfl
  | succ m ih =>
    intro hm
    rcases Nat.lt_or_ge k (m + 1) with h1 | h1
    · rw [Crc.places, if_neg (by omega), List.append_nil, ih (by omega)]
    · obtain rfl : k = m + 1 := by omega
      rfl
theorem places_len (p b N n : Nat) : (Crc.places p b N n).length ≤ n := by
  induction n with
  | zero => simp [Crc.places]
  | succ n ih => rw [Crc.places, List.length_append]; split <;> simp <;> omega
theorem bit_of (b k : Nat) (hb : b < 4294967296) : bits .and .u32 ((b : Int) / 2 ^ k) 1 = ((b / 2 ^ k % 2 : Nat) : Int) := by
  have h1 : b / 2 ^ k < 4294967296 := Nat.lt_of_le_of_lt (Nat.div_le_self _ _) hb
  have := u32_and_nat (b / 2 ^ k) 1 h1 (by omega)
  rw [Nat.and_one_is_mod] at this
  rw [← this]
  congr 1
theorem map_back (l : List Nat) : (l.map fun n => ((n : Nat) : Int)).map Int.toNat = l := by
  rw [List.map_map]
  conv => rhs; rw [← List.map_id l]
  apply List.map_congr_left
  intro a _
  simp
theorem burst_spoilt {l : List UInt8} {n p b : Nat} (hn : l.length = n) (hp : p < 8 * n + 32) (h : Crc.places p b (8 * (n + 4)) 32 ≠ []) : Crc.sealed (Crc.flips (Crc.seal_ l) (Crc.places p b (8 * (n + 4)) 32)) = false := by
  subst hn
  exact Crc.spoilt _ _ (fun j hj => (Crc.places_mem hj).2.2) (Crc.burst_seen p b _ (by omega) h)

def BurstRel (W2 : World) (p b N : Nat) (v i : Value) (wr : World) : Prop :=
  ∃ (k m : Nat) (A : Option Addr) (cap : Nat), k ≤ 32 ∧ i = .int .i64 (k : Nat) ∧ v = .slice A m cap ∧ Hid (m = (Crc.places p b N k).length) ∧ Hid (OwnI wr W2.heap.size A m cap (Crc.places p b N k)) ∧ Hid (Below W2.heap.size W2 wr)

set_option maxHeartbeats 1600000 in
theorem bursts_walk (A : Option Addr) (l : List UInt8) (cap : Nat) (p : Int) (b : Nat) (w : World) (ht : Tab w) (hb : Bytes w w.heap.size A l) (hc : l.length ≤ cap) (hr : cap ≤ 140737488351232) (hbit : b < 4294967296) :
    Calls Tryd.prog 9 #[.slice A l.length cap, .int .i64 p, .int .u32 (b : Int)] w fun e w' => e = .returned (.bool true) ∧ Hid (Below w.heap.size w w') := by
  have HT := Lib.hid ht
  have HB := Lib.hid hb
  obtain ⟨i0, hi0, hz0, hz1, hz2⟩ := info_parts Tryd.infoInt
  clear ht hb
  generalize hn : l.length = n at hc ⊢
  have HN := Lib.hid hn
  clear hn
  go_enter Tryd.func9, Tryd.ntmps9
  go_wp2_with fail
  refine (long_one A l n cap w HN.out HB.out (by omega)).mono ?_
  rintro e W1 ⟨rfl, hW⟩
  have hT1 : Hid (Tab W1) := by rw [← hW]; exact HT.out.alloc _
  have hb1 : Hid (Below w.heap.size w W1) := by rw [← hW]; exact (Below.refl _ _).alloc (Nat.le_refl _) _
  clear hW
  by_cases hok : n ≤ 65532 ∧ 0 ≤ p ∧ p < 8 * (n : Int) + 32
  · obtain ⟨o1, o2, o3⟩ := hok
    have hd : decide (65536 < n) = false := decide_eq_false (by omega)
    have q1 : ¬ (65532 : Int) < (n : Int) := by omega
    have q2 : ¬ p < 0 := by omega
    have q3 : ¬ 8 * (n : Int) + 32 ≤ p := by omega
    obtain ⟨pn, rfl⟩ := Int.eq_ofNat_of_zero_le o2
    have hB1 : Hid (Bytes W1 W1.heap.size A l) := Lib.hid ((HB.out.below hb1.out).more hb1.out.size)
    go_wp2_with fail
    refine (seal_n A l n cap W1 hT1.out hB1.out HN.out (by omega)).mono ?_
    rintro e W2 ⟨g, rfl, hg, hk2, hb2⟩
    have hT2 : Hid (Tab W2) := Lib.hid (hT1.out.below hT1.out.pos hb2.out)
    have HG := Lib.hid hg
    have HG2 := Lib.hid hk2.out.lt
    have L4 := Lib.hid (show (Crc.seal_ l).length = n + 4 by rw [Crc.seal_length, HN.out])
    have hb3 : Hid (Below w.heap.size w W2) := Lib.hid (hb1.out.trans (hb2.out.mono hb1.out.size))
    have HW := Lib.hid hb1.out.size
    clear hg hB1 hb1 hT1
    go_wp2_with fail
    go_loopw [8, 9] (fun v i wr => BurstRel W2 pn b (8 * (n + 4)) v i wr) (fun _ i _ => 32 - (intOf i).toNat)
    case atStart => exact ⟨0, 0, none, 0, by omega, rfl, rfl, Lib.hid rfl, Lib.hid (World.ownsRow_nil _ _ _ _), Lib.hid (Below.refl _ _)⟩
    case round =>
      obtain ⟨k, m, A2, cap2, hk, rfl, rfl, hml, ho, hbw⟩ := hrel
      have w0 := Lib.hid hbw.out.size
      by_cases hin : k < 32 ∧ pn + k < 8 * (n + 4)
      · obtain ⟨h32, hN⟩ := hin
        have z1 : (k : Int) < 32 := by omega
        have z2 : (pn : Int) + (k : Int) < 8 * ((n : Int) + 4) := by omega
        have hbk := bit_of b k hbit
        by_cases hone : b / 2 ^ k % 2 = 1
        · have HP := Lib.hid (show Crc.places pn b (8 * (n + 4)) (k + 1) = Crc.places pn b (8 * (n + 4)) k ++ [pn + k] by rw [Crc.places, if_pos ⟨hone, hN⟩])
          rw [hone] at hbk
          have hm32 := Lib.hid (show m ≤ 32 by rw [hml.out]; exact Nat.le_trans (places_len _ _ _ _) hk)
          have C1 := Lib.hid (World.ownsRow.alloc ho.out (.cells #[.int .i64 ((pn : Int) + (k : Int))] 3))
          have C2 := Lib.hid (cell_one_new wr (.int .i64 ((pn : Int) + (k : Int))) 3)
          have C3 := Lib.hid (hbw.out.alloc hbw.out.size (.cells #[.int .i64 ((pn : Int) + (k : Int))] 3))
          have C4 := Lib.hid (show m + 1 ≤ maxLen by have := hm32.out; unfold maxLen; omega)
          have C5 := Lib.hid (show W2.heap.size ≤ (wr.alloc (.cells #[.int .i64 ((pn : Int) + (k : Int))] 3)).heap.size by have := hbw.out.size; simp; omega)
          have C6 := Lib.hid (World.ownsRow.lt ho.out)
          have C7 := Lib.hid (show (m + 1) * 8 ≤ 140737488355328 by have := hm32.out; omega)
          clear hone
          go_wp2_with (at_builtin; refine wpList_append_own_at _ rfl (.tmp 59) (.tmp 63) 36 rfl W2.heap.size 3 i0 _ 1 8 Tryd.underlying36 hi0 hz0 hz1 hz2 rfl (by omega) (.slice A2 m cap2) m (iv (Crc.places pn b (8 * (n + 4)) k)) rfl C1.out ⟨wr.heap.size, 0, none⟩ 1 1 [.int .i64 ((pn : Int) + (k : Int))] rfl rfl C2.out (by simp [Value.oneCell']) C4.out C7.out C5.out ?_)
          intro v' w1 hown hg _ _
          have hb4 : Hid (Below W2.heap.size W2 w1) := Lib.hid (C3.out.grown hg C5.out (fun j hj => (C6.out j hj).1))
          obtain ⟨A3, cap3, rfl⟩ := ownI_value hown
          have ho3 : Hid (OwnI w1 W2.heap.size A3 (m + 1) cap3 (Crc.places pn b (8 * (n + 4)) (k + 1))) := Lib.hid (by rw [HP.out]; unfold OwnI; rw [iv_snoc]; simpa using hown)
          have hm3 := Lib.hid (show m + 1 = (Crc.places pn b (8 * (n + 4)) (k + 1)).length by rw [HP.out, List.length_append, ← hml.out]; rfl)
          clear hown hg C1 C2 C3 C4 C5 C6 C7 HP ho hml hm32
          go_wp2
          go_roundw
          case rel => exact ⟨k + 1, m + 1, A3, cap3, by omega, by go_num, rfl, hm3, ho3, hb4⟩
          case measure => simp [intOf]; omega
        · have HP := Lib.hid (show Crc.places pn b (8 * (n + 4)) (k + 1) = Crc.places pn b (8 * (n + 4)) k by rw [Crc.places, if_neg (fun h => hone h.1), List.append_nil])
          have hz : b / 2 ^ k % 2 = 0 := by omega
          rw [hz] at hbk
          clear hone hz
          go_wp2
          go_roundw
          case rel => exact ⟨k + 1, m, A2, cap2, by omega, by go_num, rfl, Lib.hid (by rw [HP.out]; exact hml.out), Lib.hid (by rw [HP.out]; exact ho.out), hbw⟩
          case measure => simp [intOf]; omega
      · have HP := Lib.hid (show Crc.places pn b (8 * (n + 4)) 32 = Crc.places pn b (8 * (n + 4)) k by
          rcases Nat.lt_or_ge k 32 with h | h
          · exact places_stop (by omega) 32 hk
          · rw [show k = 32 by omega])
        have hT3 : Hid (Tab wr) := Lib.hid (hT2.out.below hT2.out.pos hbw.out)
        have hb4 : Hid (Below w.heap.size w wr) := Lib.hid (hb3.out.trans (hbw.out.mono hb3.out.size))
        have hk3 : Hid (Blk8 wr g (Crc.seal_ l)) := Lib.hid (hk2.out.below hbw.out HG2.out)
        have hJ3 : Hid (Ints wr g A2 ((Crc.places pn b (8 * (n + 4)) k).map fun n => ((n : Nat) : Int))) := Lib.hid (OwnI.ints ho.out HG2.out)
        have hm32 := Lib.hid (show m ≤ 32 by rw [hml.out]; exact Nat.le_trans (places_len _ _ _ _) hk)
        have HMM := Lib.hid (show ((Crc.places pn b (8 * (n + 4)) k).map fun n => ((n : Nat) : Int)).length = m by rw [List.length_map]; exact hml.out.symm)
        have HK := Lib.hid hk
        have HIN := Lib.hid hin
        clear ho hbw hb3 hT2 hk2 hml hin hk
        have hw := Lib.hid (fun (h : ¬ k < 32 ∨ (k < 32 ∧ ¬ pn + k < 8 * (n + 4))) => h)
        have hcase : ¬ (k : Int) < 32 ∨ ((k : Int) < 32 ∧ ¬ (pn : Int) + (k : Int) < 8 * ((n : Int) + 4)) := by have := HIN.out; omega
        clear hw
        by_cases hm0 : m = 0
        · have hmb : ((m : Int) == 0) = true := by simpa using hm0
          clear hm0
          rcases hcase with z1 | ⟨z1, z2⟩
          all_goals
            go_wp2_with fail
            refine (awake_any wr hT3.out).mono ?_
            rintro e W5 ⟨rfl, hb5⟩
            have hb6 : Hid (Below w.heap.size w W5) := Lib.hid (hb4.out.trans (hb5.out.mono hb4.out.size))
            clear hb4 hb5
            go_wp2
            go_ret
            exact ⟨rfl, hb6⟩
        · have hmb : ((m : Int) == 0) = false := by simpa using hm0
          have hne := Lib.hid (show Crc.places pn b (8 * (n + 4)) 32 ≠ [] by
            intro h
            rw [HP.out] at h
            have := HMM.out
            rw [h] at this
            simp at this
            exact hm0 this.symm)
          have HS := Lib.hid (burst_spoilt HN.out (by omega) hne.out)
          clear hm0
          rcases hcase with z1 | ⟨z1, z2⟩
          all_goals
            go_wp2_with fail
            refine (turn_any g (n + 4) (Crc.seal_ l) A2 _ m (n + 4) cap2 wr L4.out (by omega) hk3.out HMM.out (by have := hm32.out; unfold maxLen; omega) hJ3.out).mono ?_
            rintro e W4 ⟨hgr, hres⟩
            have hb5 : Hid (Below w.heap.size w W4) := Lib.hid (hb4.out.grown hgr hb4.out.size (fun j hj => by injection hj with hj; rw [← hj]; exact Nat.le_trans (HW.out) HG.out))
            have hT4 : Hid (Tab W4) := Lib.hid (HT.out.below HT.out.pos hb5.out)
            clear hgr hb4 hT3 hJ3 hk3
            rcases hres with rfl | ⟨rfl, _, hk4⟩
            · go_wp2_with fail
              refine (awake_any W4 hT4.out).mono ?_
              rintro e W5 ⟨rfl, hb6⟩
              have hb7 : Hid (Below w.heap.size w W5) := Lib.hid (hb5.out.trans (hb6.out.mono hb5.out.size))
              clear hb5 hb6
              go_wp2
              go_ret
              exact ⟨rfl, hb7⟩
            · rw [map_back, ← HP.out] at hk4
              have HK4 := Lib.hid hk4
              have L5 := Lib.hid (show (Crc.flips (Crc.seal_ l) (Crc.places pn b (8 * (n + 4)) 32)).length = n + 4 by rw [Crc.flips_length, L4.out])
              clear hk4
              go_wp2_with fail
              refine (open_spoilt g _ (n + 4) (n + 4) W4 hT4.out HK4.out L5.out (Nat.le_refl _) (by omega) HS.out).mono ?_
              rintro e W5 ⟨rfl, hb6⟩
              have hb7 : Hid (Below w.heap.size w W5) := Lib.hid (hb5.out.trans (hb6.out.mono hb5.out.size))
              have hT5 : Hid (Tab W5) := Lib.hid (hT4.out.below hT4.out.pos hb6.out)
              clear hb5 hb6
              go_wp2_with fail
              refine (awake_any W5 hT5.out).mono ?_
              rintro e W6 ⟨rfl, hb8⟩
              have hb9 : Hid (Below w.heap.size w W6) := Lib.hid (hb7.out.trans (hb8.out.mono hb7.out.size))
              clear hb7 hb8
              go_wp2
              go_ret
              exact ⟨rfl, hb9⟩
  · by_cases hlong : 65536 < n
    · have hd : decide (65536 < n) = true := decide_eq_true hlong
      go_wp2_with fail
      refine (awake_any W1 hT1.out).mono ?_
      rintro e W2 ⟨rfl, hb2⟩
      have hb3 : Hid (Below w.heap.size w W2) := Lib.hid (hb1.out.trans (hb2.out.mono hb1.out.size))
      clear hb1 hb2
      go_wp2
      go_ret
      exact ⟨rfl, hb3⟩
    · have hd : decide (65536 < n) = false := decide_eq_false hlong
      have hcase : (65532 : Int) < (n : Int) ∨ (¬ (65532 : Int) < (n : Int) ∧ p < 0) ∨ (¬ (65532 : Int) < (n : Int) ∧ ¬ p < 0 ∧ 8 * (n : Int) + 32 ≤ p) := by omega
      clear hok hlong
      rcases hcase with q1 | ⟨q1, q2⟩ | ⟨q1, q2, q3⟩
      all_goals
        go_wp2_with fail
        refine (awake_any W1 hT1.out).mono ?_
        rintro e W2 ⟨rfl, hb2⟩
        have hb3 : Hid (Below w.heap.size w W2) := Lib.hid (hb1.out.trans (hb2.out.mono hb1.out.size))
        clear hb1 hb2
        go_wp2
        go_ret
        exact ⟨rfl, hb3⟩
end Go.Proofs.YthobaicphdhflaaDoor
