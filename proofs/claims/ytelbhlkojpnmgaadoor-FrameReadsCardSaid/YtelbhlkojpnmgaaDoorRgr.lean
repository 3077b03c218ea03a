/-
  The document's own Reader: how many bytes the short number in front has. No condition.
-/
import Derived.Test.YtelbhlkojpnmgaaDoorRnum
import Derived.Test.YtelbhlkojpnmgaaDoorGa
namespace Go.Proofs.YtelbhlkojpnmgaaDoor
set_option maxRecDepth 20000
open Go.RowKit

abbrev RfT : TypeId := 60
set_option maxHeartbeats 2000000 in
theorem groups_any (q : Nat) (d : Option Nat) (l : List UInt8) (bad : Bool) (w : World) (h : Rd RfT w q d l bad) :
    Calls Tryd.prog 59 #[.pointer (some ⟨q, 0, none⟩)] w fun e w' => e = .returned (.int .i64 (((parse l).2 : Nat) : Int)) ∧ w = w' := by
  obtain ⟨A, cap, h1, h2, h3⟩ := h
  have HC : w.cell? ⟨q, 0, none⟩ = some (.slice A l.length cap) := by simpa using cell_plain h1 0
  have HB := Lib.hid h2.bytes
  have HM := Lib.hid h2.1
  have HM2 := h2.2.1
  unfold maxLen at HM2
  clear h1 h2 h3
  generalize hr : (parse l).2 = r at *
  have HR := Lib.hid hr
  generalize hn : l.length = n at *
  have HN := Lib.hid hn
  have hnc := HM.out
  clear hr hn HM
  go_enter Tryd.func59, Tryd.ntmps59
  go_wp2
  go_loopw [3] (fun i wr => ∃ k : Nat, k ≤ n ∧ k ≤ 10 ∧ i = .int .i64 ((k : Int) + 1) ∧ wr = w ∧ Hid (Goes l k)) (fun i _ => 12 - (intOf i).toNat)
  case atStart => exact ⟨0, Nat.zero_le _, Nat.zero_le _, by simp, rfl, Lib.hid (Goes.zero l)⟩
  case round =>
    obtain ⟨k, hk, hk10, rfl, rfl, hg⟩ := hrel
    by_cases hlt : k < n
    · have g1 : (k : Int) + 1 ≤ (n : Int) := by omega
      by_cases h10 : k < 10
      · have g2 : (k : Int) + 1 ≤ 10 := by omega
        obtain ⟨b, off, rfl, hb, hc⟩ := HB.out (by rw [HN.out]; omega)
        have hcell := hc k (by rw [HN.out]; exact hlt)
        have hb8 := at8_lt l k
        have k0 : (0 : Int) ≤ (k : Int) := by omega
        have k1 : (k : Int) < (n : Int) := by omega
        by_cases h128 : at8 l k < 128
        · have HE := Lib.hid (hg.out.ends (by rw [HN.out]; exact hlt) h10 h128)
          rw [HR.out] at HE
          have g3 : ((at8 l k : Nat) : Int) < 128 := by omega
          by_cases h9 : k = 9
          · subst h9
            generalize at8 l 9 = x at *
            by_cases hx0 : x = 0
            · subst hx0
              have hr0 := HE.out
              simp at hr0
              subst hr0
              clear hc HE HB HR
              go_wp2
              go_ret
              exact ⟨rfl, rfl⟩
            · by_cases hx1 : 1 < x
              · have hr0 := HE.out
                rw [if_pos (.inr ⟨rfl, hx1⟩)] at hr0
                subst hr0
                have g5 : ¬ (x : Int) = 0 := by omega
                have g6 : (1 : Int) < (x : Int) := by omega
                have g7 : (9 : Int) < (n : Int) := by omega
                clear hc HE HB HR
                go_wp2
                go_ret
                exact ⟨rfl, rfl⟩
              · have hr0 := HE.out
                rw [if_neg (by omega)] at hr0
                subst hr0
                have g5 : ¬ (x : Int) = 0 := by omega
                have g6 : ¬ (1 : Int) < (x : Int) := by omega
                have g7 : (9 : Int) < (n : Int) := by omega
                clear hc HE HB HR
                go_wp2
                go_ret
                exact ⟨rfl, rfl⟩
          · have g4 : ¬ (k : Int) + 1 = 10 := by omega
            generalize at8 l k = x at *
            by_cases hk0 : 0 < k
            · have g8 : (1 : Int) < (k : Int) + 1 := by omega
              by_cases hx0 : x = 0
              · subst hx0
                have hr0 := HE.out
                rw [if_pos (.inl ⟨hk0, rfl⟩)] at hr0
                subst hr0
                clear hc HE HB HR
                go_wp2
                go_ret
                exact ⟨rfl, rfl⟩
              · have hr0 := HE.out
                rw [if_neg (by omega)] at hr0
                subst hr0
                have g5 : ¬ (x : Int) = 0 := by omega
                clear hc HE HB HR
                go_wp2
                go_ret
                exact ⟨rfl, rfl⟩
            · have g8 : ¬ (1 : Int) < (k : Int) + 1 := by omega
              have hr0 := HE.out
              rw [if_neg (by omega)] at hr0
              subst hr0
              clear hc HE HB HR
              go_wp2
              go_ret
              exact ⟨rfl, rfl⟩
        · have hgn := Lib.hid (hg.out.next (by rw [HN.out]; exact hlt) h10 (by omega))
          have g3 : ¬ ((at8 l k : Nat) : Int) < 128 := by omega
          generalize at8 l k = x at *
          go_wp2
          go_roundw
          case rel => exact ⟨k + 1, by omega, by omega, by go_num, trivial, hgn⟩
          case measure => simp [intOf]; omega
      · have g2 : ¬ (k : Int) + 1 ≤ 10 := by omega
        have hr0 := hg.out.none_ (.inr (by omega))
        rw [HR.out] at hr0
        subst hr0
        go_wp2
        go_ret
        exact ⟨rfl, rfl⟩
    · have g1 : ¬ (k : Int) + 1 ≤ (n : Int) := by omega
      have hr0 := hg.out.none_ (.inl (by rw [HN.out]; omega))
      rw [HR.out] at hr0
      subst hr0
      go_wp2
      go_ret
      exact ⟨rfl, rfl⟩
end Go.Proofs.YtelbhlkojpnmgaaDoor
