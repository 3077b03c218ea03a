/-
  The document's own Reader: Raw, Wide, Uint, End. For at most 2^46 bytes.
-/
import Derived.Test.YtelbhlkojpnmgaaDoorRgr
import Derived.Test.YtelbhlkojpnmgaaDoorRworth
namespace Go.Proofs.YtelbhlkojpnmgaaDoor
set_option maxRecDepth 20000
open Go.RowKit

def RawF (w : World) (q : Nat) (d : Option Nat) (s : RS) (n : Int) (e : Ending) (w' : World) : Prop :=
  ∃ A cap, e = .returned (.slice A (rRaw s n).1.length cap) ∧ Hid (Rd RfT w' q d (rRaw s n).2.l (rRaw s n).2.bad) ∧ Hid (Bytes w' w'.heap.size A (rRaw s n).1) ∧ Hid ((A = none → cap = 0) ∧ (rRaw s n).1.length ≤ cap ∧ cap ≤ maxLen) ∧ Hid (Only (fun k => k = q) w w')
theorem RawF.fault {w w' : World} {q : Nat} {d : Option Nat} {s : RS} {n : Int} {v : Value} {e : Ending} (hR : rRaw s n = ([], ⟨s.l, true⟩)) (h : FaultE RfT w q d s.l v e w') (hv : v = .slice none 0 0) : RawF w q d s n e w' := by
  obtain ⟨rfl, h1, h2⟩ := h
  subst hv
  exact ⟨none, 0, by rw [hR]; rfl, by rw [hR]; exact h1, by rw [hR]; exact Lib.hid Bytes.nil_, Lib.hid ⟨fun _ => rfl, by rw [hR]; exact Nat.le_refl _, by unfold maxLen; omega⟩, h2⟩
theorem raw_fin {w : World} {q k m cap : Nat} {d : Option Nat} {s : RS} {A : Option Addr} (V : Value) (hV : Value.slice (behind A cap k) (m - k) (cap - k) = V) (hT : TookE RfT w q d s.l false k (.returned (.slice A k k)) (w.setCell ⟨q, 0, none⟩ (.slice (behind A cap k) (m - k) (cap - k))))
    (hR : rRaw s (k : Int) = (s.l.take k, ⟨s.l.drop k, false⟩)) (hML : (s.l.take k).length = k) :
    Hid (Own8 ((w.setCell ⟨q, 0, none⟩ V).alloc (.cells #[] 5)) 0 (some ⟨w.heap.size, 0, none⟩) 0 0 []) ∧ Hid (Bytes ((w.setCell ⟨q, 0, none⟩ V).alloc (.cells #[] 5)) w.heap.size A (s.l.take k)) ∧
    Hid (∀ A6 c6 W6, Hid (Own8 W6 0 A6 k c6 (s.l.take k)) → Hid (Only (fun j => blockOf (some ⟨w.heap.size, 0, none⟩) = some j) ((w.setCell ⟨q, 0, none⟩ V).alloc (.cells #[] 5)) W6) → RawF w q d s (k : Int) (.returned (.slice A6 k c6)) W6) := by
  rw [hV] at hT
  have hsz : (w.setCell ⟨q, 0, none⟩ V).heap.size = w.heap.size := by simp
  generalize w.setCell ⟨q, 0, none⟩ V = W1 at *
  obtain ⟨A2, e2, t1, t2, t3, t4⟩ := hT
  obtain rfl : A = A2 := by simpa using e2
  rw [← hsz]
  have B1 := (Below.refl W1.heap.size W1).alloc (Nat.le_refl _) (.cells #[] 5)
  refine ⟨Lib.hid (World.ownsRow_made (base := 0) (e := 5) (size := 1) W1 #[] 0 (Nat.zero_le _) (by unfold maxLen; omega) rfl), Lib.hid (t2.out.bytes.alloc (Nat.le_refl _) (.cells #[] 5)), Lib.hid fun A6 c6 W6 e1 e2 => ?_⟩
  have ho : Only (fun j => j = q) W1 W6 := (Only.ofBelow (S := fun j => j = q) B1).trans e2.out (fun j hj e => by cases e; exact absurd hj (Nat.lt_irrefl _))
  have hb6 : Below W1.heap.size W1 W6 := e2.out.below B1 (fun j e => by cases e; exact Nat.le_refl _) B1.size
  exact ⟨A6, c6, by rw [hR]; simp only [hML], Lib.hid (by rw [hR]; exact t1.out.keep (S := fun _ => False) (Only.ofBelow hb6) (fun h => h) (fun _ _ h => h)), Lib.hid (by rw [hR]; exact e1.out.bytes), Lib.hid ⟨fun e => e1.out.none_cap e, by rw [hR]; simp only [hML]; exact e1.out.cap_le, e1.out.cap_max⟩, Lib.hid (t4.out.trans ho fun _ _ h => h)⟩
set_option maxHeartbeats 1000000 in
theorem fraw_any (q : Nat) (d : Option Nat) (s : RS) (n : Int) (w : World) (h : Rd RfT w q d s.l s.bad) (hr : s.l.length ≤ 70368744177664) :
    Calls Tryd.prog 61 #[.pointer (some ⟨q, 0, none⟩), .int .i64 n] w (RawF w q d s n) := by
  obtain ⟨A, cap, h1, h2, h3⟩ := h
  have HC : w.cell? ⟨q, 0, none⟩ = some (.slice A s.l.length cap) := by simpa using cell_plain h1 0
  have HB : w.cell? ⟨q, 1, none⟩ = some (.bool s.bad) := by simpa using cell_plain h1 1
  have HF := frozen_plain h1 1
  have HF0 := frozen_plain h1 0
  have HT := Lib.hid (fault_of (by decide) h1 h2 h3 (.slice none 0 0))
  have H1 := Lib.hid h1
  have H2 := Lib.hid h2
  have H3 := Lib.hid h3
  have hc := h2.1
  have hm := h2.2.1
  unfold maxLen at hm
  clear h1 h2 h3
  by_cases hbn : s.bad = true ∨ n < 0 ∨ (s.l.length : Int) < n
  · have HR := Lib.hid (show rRaw s n = ([], ⟨s.l, true⟩) from if_pos hbn)
    have HT2 := Lib.hid (RawF.fault HR.out HT.out rfl)
    clear HT H1 H2 H3
    generalize s.l.length = m at *
    cases hb : s.bad with
    | true =>
      rw [hb] at HB
      clear hbn hb
      go_enter Tryd.func61, Tryd.ntmps61
      go_wp2
      go_ret
      exact HT2.out
    | false =>
      rw [hb] at HB hbn
      clear hb
      by_cases h0 : n < 0
      · clear hbn
        go_enter Tryd.func61, Tryd.ntmps61
        go_wp2
        go_ret
        exact HT2.out
      · have hlt : (m : Int) < n := by
          rcases hbn with e | e | e
          · cases e
          · exact absurd e h0
          · exact e
        clear hbn
        go_enter Tryd.func61, Tryd.ntmps61
        go_wp2
        go_ret
        exact HT2.out
  · have HR := Lib.hid (show rRaw s n = (s.l.take n.toNat, ⟨s.l.drop n.toNat, false⟩) from if_neg hbn)
    have hbad : s.bad = false := by cases hb : s.bad with | false => rfl | true => exact absurd (.inl hb) hbn
    obtain ⟨k, rfl⟩ : ∃ k : Nat, n = k := ⟨n.toNat, by omega⟩
    have hn : k ≤ s.l.length := by omega
    rw [Int.toNat_natCast] at HR
    have HML := Lib.hid (show (s.l.take k).length = k by rw [List.length_take]; omega)
    rw [hbad] at HB H1
    generalize hl : s.l.length = m at *
    have HT3 := Lib.hid (took_of (by decide) k H1.out H2.out H3.out hl hn)
    have g0 : ¬ (k : Int) < 0 := by omega
    have g1 : ¬ (m : Int) < (k : Int) := by omega
    have HF2 := H2.out.2.2
    have hnc := H2.out.1
    rw [hl] at hnc
    clear HT H1 H2 H3 hbn hbad hl
    rcases HF2 with ⟨rfl, rfl⟩ | ⟨b, off, cur, rfl, _⟩
    · obtain rfl : m = 0 := by omega
      obtain rfl : k = 0 := by omega
      obtain ⟨C1, t5, FIN⟩ := raw_fin (.slice none 0 0) (by simp [behind]) HT3.out HR.out HML.out
      clear HT3
      go_enter Tryd.func61, Tryd.ntmps61
      go_wp2_with (at_builtin; refine wpList_append8 rfl _ _ rfl (some ⟨w.heap.size, 0, none⟩) 0 0 [] rfl C1.out none 0 0 _ (s.l.take 0) rfl HML.out (fun _ => rfl) t5.out (by omega) ?_)
      intro A6 c6 W6 e1 e2 e3
      go_wp2
      go_ret
      exact FIN.out A6 c6 W6 (by simpa using e1) e2
    · by_cases hcn : cap = k
      · subst hcn
        obtain rfl : cap = m := by omega
        obtain ⟨C1, t5, FIN⟩ := raw_fin (.slice (some ⟨b, off, none⟩) 0 0) (by simp [behind]) HT3.out HR.out HML.out
        clear HT3
        go_enter Tryd.func61, Tryd.ntmps61
        go_wp2_with (at_builtin; refine wpList_append8 rfl _ _ rfl (some ⟨w.heap.size, 0, none⟩) 0 0 [] rfl C1.out (some ⟨b, off, none⟩) cap cap _ (s.l.take cap) rfl HML.out (fun e => by cases e) t5.out (by omega) ?_)
        intro A6 c6 W6 e1 e2 e3
        go_wp2
        go_ret
        exact FIN.out A6 c6 W6 (by simpa using e1) e2
      · by_cases h0 : k = 0
        · subst h0
          obtain ⟨C1, t5, FIN⟩ := raw_fin (.slice (some ⟨b, off, none⟩) m cap) (by simp [behind, Addr.add]) HT3.out HR.out HML.out
          clear HT3
          go_enter Tryd.func61, Tryd.ntmps61
          go_wp2_with (at_builtin; refine wpList_append8 rfl _ _ rfl (some ⟨w.heap.size, 0, none⟩) 0 0 [] rfl C1.out (some ⟨b, off, none⟩) 0 cap _ (s.l.take 0) rfl HML.out (fun e => by cases e) t5.out (by omega) ?_)
          intro A6 c6 W6 e1 e2 e3
          go_wp2
          go_ret
          exact FIN.out A6 c6 W6 (by simpa using e1) e2
        · obtain ⟨C1, t5, FIN⟩ := raw_fin (.slice (some ⟨b, off + k, none⟩) (m - k) (cap - k)) (by simp [behind, Addr.add, hcn, h0]) HT3.out HR.out HML.out
          clear HT3
          go_enter Tryd.func61, Tryd.ntmps61
          go_wp2_with (at_builtin; refine wpList_append8 rfl _ _ rfl (some ⟨w.heap.size, 0, none⟩) 0 0 [] rfl C1.out (some ⟨b, off, none⟩) k cap _ (s.l.take k) rfl HML.out (fun e => by cases e) t5.out (by omega) ?_)
          intro A6 c6 W6 e1 e2 e3
          go_wp2
          go_ret
          exact FIN.out A6 c6 W6 (by simpa using e1) e2
end Go.Proofs.YtelbhlkojpnmgaaDoor
