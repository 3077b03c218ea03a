/-
  A side's right: it answers true where what was taken is a beginning of what was pushed. No condition.
-/
import Derived.Test.YtmkkhknbokfciaaQside
import Derived.BigQuiet
import Derived.Deep.QuietTactic
namespace Go.Proofs.Ytmkkhknbokfciaa
set_option maxRecDepth 20000
open Go.RowKit

theorem str_pos {A : Option Addr} {T : TypeId} {w : World} {base n cap : Nat} {ps : List (List UInt8)} (h : GR T 1 w base A n cap (ps.map strV)) {k : Nat} (hk : k < n) : ∃ b, A = some ⟨b, 0, none⟩ ∧ w.cell? ⟨b, 0 + k * 1, none⟩ = some (strV (bodK ps k)) ∧ w.cell? ⟨b, k, none⟩ = some (strV (bodK ps k)) := by
  have hl : ps.length = n := by have := h.len; simpa using this
  rcases h.form with ⟨_, h0, _⟩ | ⟨g, rfl, _, _⟩
  · omega
  · have := ((h.cells rfl).2 k _ (strs_get (by omega))).1
    exact ⟨g, rfl, by simpa using this, this⟩
set_option maxHeartbeats 8000000 in
theorem right7_any (G B : Nat) (bs : List (List UInt8)) (s : Sd) (w : World) (hs : Side G B s w) (hv : Inv7 bs s) :
    Calls Try.prog 25 #[.pointer (some ⟨G, 0, none⟩)] w fun e w' => e = .returned (.bool true) ∧ Hid (Below w.heap.size w w') := by
  obtain ⟨A, c, P, cp, T, ct, Y, cy, hm⟩ := hs
  have HM := Lib.hid hm
  have p1 := hv.small
  have p2 := hv.base
  have p3 := hv.got
  have p4 := hv.le
  have p5 := hv.lb
  have HE := Lib.hid (show ∀ i, i < s.ts.length → bodK s.ts i = bodK s.ps i from fun i hi => by
    have := hv.ts
    rw [this]
    exact bodK_take (by omega))
  clear hm hv
  generalize hn : s.ls.length = n at *
  generalize hnp : s.ps.length = np at *
  generalize hnt : s.ts.length = nt at *
  generalize s.ys.length = ny at *
  generalize hsg : s.g = gg at *
  subst p3
  go_enter Try.func25, Try.ntmps25
  obtain ⟨k0, k1, k2, k3, k4, k5⟩ := HM.out.cell
  rw [hsg] at k2
  generalize hb : s.b = b at *
  have g1 : ¬ (np : Int) < (nt : Int) := by omega
  have e2 : IntKind.u64.wrap (nt : Int) = (nt : Int) := wrapU (by omega) (by omega)
  have g2 : ¬ (nt : Int) < (b : Int) := by omega
  have e3 : IntKind.u64.wrap (n : Int) = (n : Int) := wrapU (by omega) (by omega)
  have e4 : IntKind.u64.wrap ((b : Int) + (n : Int)) = (np : Int) := by rw [wrapU (by omega) (by omega)]; omega
  have e5 : IntKind.u64.wrap (np : Int) = (np : Int) := wrapU (by omega) (by omega)
  go_wp2_with fail
  go_quiet (fail)
  go_wp2_with fail
  clear k0 k1 k2 k3 k4 k5 g1 g2 e2 e3 e4 e5
  have hB0 : ∀ j, Below w.heap.size w (w.drewN j) := fun j => ⟨rfl, rfl, rfl, Nat.le_refl _, fun _ _ => rfl⟩
  have HB0 := Lib.hid hB0
  clear hB0
  go_loopw [3] (fun i wr => ∃ k, k ≤ nt ∧ i = .int .i64 (k : Nat) ∧ Hid (Below w.heap.size w wr)) (fun i _ => nt - (intOf i).toNat)
  case atStart => exact ⟨0, Nat.zero_le _, rfl, Lib.hid (HB0.out _)⟩
  case round =>
    obtain ⟨k, hk, rfl, HB⟩ := hrel
    have HM2 := Lib.hid (HM.out.on HB.out)
    obtain ⟨k0, k1, k2, k3, k4, k5⟩ := HM2.out.cell
    by_cases hlt : k < nt
    · have g5 : (k : Int) < (nt : Int) := by omega
      have g6 : (k : Int) < (np : Int) := by omega
      obtain ⟨tb, rfl, t1, t2⟩ := str_pos HM2.out.taken hlt
      obtain ⟨pb, rfl, q1, q2⟩ := str_pos HM2.out.pushed (show k < np by omega)
      rw [HE.out k hlt] at t1 t2
      have hne : (strV (bodK s.ps k)) = .string ⟨(bodK s.ps k).toArray⟩ := rfl
      rw [hne] at t1 t2 q1 q2
      have ct : ((⟨(bodK s.ps k).toArray⟩ : ByteArray).toList == (⟨(bodK s.ps k).toArray⟩ : ByteArray).toList) = true := by simp
      clear hne k0 k1 k2 k5
      generalize (⟨(bodK s.ps k).toArray⟩ : ByteArray) = tx at *
      have HB1 := Lib.hid (fun j => (HB.out.trans (show Below w.heap.size wr (wr.drewN j) from ⟨rfl, rfl, rfl, Nat.le_refl _, fun _ _ => rfl⟩)))
      go_wp2_with fail
      go_quiet (fail)
      go_wp2_with fail
      go_roundw
      case rel => exact ⟨k + 1, by omega, by go_num, Lib.hid (HB1.out _)⟩
      case measure => simp [intOf]; omega
    · obtain rfl : k = nt := by omega
      have g5 : ¬ (k : Int) < (k : Int) := by omega
      go_wp2
      go_ret
      exact ⟨rfl, HB⟩
end Go.Proofs.Ytmkkhknbokfciaa
