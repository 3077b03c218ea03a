/-
  The document's own reading (caucusref03.In): a byte, a short number, a text. For at most 2^46 bytes.
-/
import Derived.Test.YtlcddfkhklmieaaGa
namespace Go.Proofs.Ytlcddfkhklmieaa
set_option maxRecDepth 20000
open Go.RowKit

abbrev InT : TypeId := 73
/-- An In under way: where there was a fault nobody asks what is left. -/
def InR (w : World) (q : Nat) (d : Option Nat) (s : RS) : Prop := ∃ l, Rd InT w q d l s.bad ∧ (s.bad = false → l = s.l)
section
variable {w w' : World} {q : Nat} {d : Option Nat} {s : RS}
theorem InR.lt (h : InR w q d s) : q < w.heap.size := by obtain ⟨l, h, _⟩ := h; exact h.lt
theorem InR.dlt (h : InR w q d s) : ∀ k, d = some k → k < w.heap.size := by obtain ⟨l, h, _⟩ := h; exact h.dlt
theorem InR.keep {S : Nat → Prop} (h : InR w q d s) (ho : Only S w w') (h1 : ¬ S q) (h2 : ∀ k, d = some k → ¬ S k) : InR w' q d s := by
  obtain ⟨l, h, e⟩ := h
  exact ⟨l, h.keep ho h1 h2, e⟩
theorem InR.bad_cell (h : InR w q d s) : w.cell? ⟨q, 1, none⟩ = some (.bool s.bad) := by
  obtain ⟨l, ⟨A, cap, h1, _⟩, _⟩ := h
  simpa using cell_plain h1 1
theorem InR.thaw (h : InR w q d s) (k : Nat) : w.frozen? ⟨q, k, none⟩ = false := by
  obtain ⟨l, ⟨A, cap, h1, _⟩, _⟩ := h
  exact frozen_plain h1 k
/-- The fault is laid: whatever is left. -/
theorem InR.fail (h : InR w q d s) (l : List UInt8) : InR (w.setCell ⟨q, 1, none⟩ (.bool true)) q d ⟨l, true⟩ := by
  obtain ⟨l', hr, _⟩ := h
  have hne := hr.ne (by decide)
  obtain ⟨A, cap, h1, h2, h3⟩ := hr
  exact ⟨l', ⟨A, cap, block_set2' h1, h2.keep ((Only.refl (fun k => k = q) w).setCell (p := ⟨q, 1, none⟩) (.inl rfl) _) (fun k hk e => hne (by rw [← h3, hk, e])), h3⟩, fun h => by cases h⟩
theorem only_q (w : World) (q k : Nat) (v : Value) : Only (fun j => j = q) w (w.setCell ⟨q, k, none⟩ v) := (Only.refl (fun j => j = q) w).setCell (p := ⟨q, k, none⟩) (.inl rfl) _
end
theorem wpList_sliceK {ops : Array Oper} {rest : List Oper} {o : Oper} {a : Act} {w : World} {Q : Exit → Act → World → Prop} (hgd : o.guard = none) (x y : Operand)
    (ho : o.op = .slice 26 x (some y) none none) (k : Nat) (kk : IntKind) (hy : a.eval y = .int kk (k : Int)) (A A3 : Option Addr) (n m cap C3 : Nat) (hx : a.eval x = .slice A n cap) (hk : k ≤ n) (hm : n - k = m) (hA : behind A cap k = A3) (hC : cap - k = C3)
    (h : wpList Try.prog ops Q rest (a.put o.dst (.slice A3 m C3)) w) : wpList Try.prog ops Q (o :: rest) a w := by
  subst hA hC hm
  refine wpList_plain hgd fun K hK => ?_
  have e : (Instr.sliceAt 26 (.slice A n cap) (some (.int kk (k : Int))) none none).run Try.prog w = .ok (.slice (behind A cap k) (n - k) (cap - k)) w := by
    rw [run_sliceAt_slice _ 26 _ _ _ _ Try.underlying26, run_slice_l _ 26 A n cap Try.underlying26 kk (k : Int) (by omega) (by omega)]
    rw [show (sizeOf (Try.prog.elem 26)).run Try.prog w = .ok 1 w from by kernel_rfl]
    simp [Result.andThen, sliced, behind]
  unfold Oper.wp
  simp only [execOp, ho]
  rw [hx]
  simp only [Option.map_some, Option.map_none, hy]
  simp only [Sem.run_bind, e, Result.andThen_ok, Sem.run_pure]
  exact hK _ _ h
/-- What U8 takes. -/
theorem rWide_cons (x : UInt8) (r : List UInt8) : rWide ⟨x :: r, false⟩ 1 = (x.toNat, ⟨r, false⟩) := by
  unfold rWide
  rw [if_neg (by simp)]
  simp [numLE]
theorem rWide_fault (s : RS) (h : s.bad = true ∨ s.l = []) : rWide s 1 = (0, ⟨s.l, true⟩) := by
  unfold rWide
  rw [if_pos]
  rcases h with h | h
  · exact .inl h
  · exact .inr (by rw [h]; simp)
def IU8 (q : Nat) (d : Option Nat) (s : RS) (w : World) (e : Ending) (w' : World) : Prop :=
  e = .returned (.int .i64 ((rWide s 1).1 : Nat)) ∧ Hid (InR w' q d (rWide s 1).2) ∧ Hid (Only (fun k => k = q) w w')
set_option maxHeartbeats 1000000 in
theorem iu8_any (q : Nat) (d : Option Nat) (s : RS) (w : World) (h : InR w q d s) :
    Calls Try.prog 40 #[.pointer (some ⟨q, 0, none⟩)] w (IU8 q d s w) := by
  have H := Lib.hid h
  have c1 := h.bad_cell
  have f1 := h.thaw 1
  have f0 := h.thaw 0
  obtain ⟨l, hr, hl⟩ := h
  obtain ⟨A, cap, hb1, hb2, hb3⟩ := id hr
  have c0 : w.cell? ⟨q, 0, none⟩ = some (.slice A l.length cap) := by simpa using cell_plain hb1 0
  have hne := hr.ne (by decide)
  have HO := Lib.hid (fun (v : Value) k => only_q w q k v)
  cases hbad : s.bad with
  | true =>
    have HR := Lib.hid (H.out.fail s.l)
    have HE := Lib.hid (rWide_fault s (.inl hbad))
    rw [hbad] at c1
    clear H hr hl hb1 hb2 hb3 hne
    generalize l.length = m at c0
    go_enter Try.func40, Try.ntmps40
    go_wp2
    go_ret
    exact ⟨by rw [HE.out]; rfl, by rw [HE.out]; exact HR, Lib.hid (HO.out _ 1)⟩
  | false =>
    obtain rfl := hl hbad
    rw [hbad] at c1
    obtain ⟨sl, sb⟩ := s
    simp only at hbad
    subst hbad
    cases sl with
    | nil =>
      have HR := Lib.hid (H.out.fail [])
      have HE := Lib.hid (rWide_fault ⟨[], false⟩ (.inr rfl))
      have c0' : w.cell? ⟨q, 0, none⟩ = some (.slice A 0 cap) := c0
      clear H hr hl hb1 hb2 hb3 hne c0
      go_enter Try.func40, Try.ntmps40
      go_wp2
      go_ret
      exact ⟨by rw [HE.out]; rfl, by rw [HE.out]; exact HR, Lib.hid (HO.out _ 1)⟩
    | cons x r =>
      have HE := Lib.hid (rWide_cons x r)
      have c0' : w.cell? ⟨q, 0, none⟩ = some (.slice A (r.length + 1) cap) := c0
      obtain ⟨b, off, rfl, _, hc⟩ := hb2.bytes (by simp)
      have hx := hc 0 (by simp)
      rw [Nat.add_zero] at hx
      have hx' : w.cell? ⟨b, off, none⟩ = some (.int .u8 ((x.toNat : Nat) : Int)) := hx
      have hle : r.length + 1 ≤ cap := hb2.1
      obtain ⟨A3, hA3⟩ : ∃ A3, behind (some ⟨b, off, none⟩) cap 1 = A3 := ⟨_, rfl⟩
      obtain ⟨C3, hC3⟩ : ∃ C3, cap - 1 = C3 := ⟨_, rfl⟩
      have HA3 := Lib.hid hA3
      have HC3 := Lib.hid hC3
      have HR : Hid (InR (w.setCell ⟨q, 0, none⟩ (.slice A3 r.length C3)) q d ⟨r, false⟩) := Lib.hid ⟨r, ⟨A3, C3, block_set2 hb1, by
        have h := (hb2.back 1 (by simp)).keep (only_q w q 0 (.slice A3 r.length C3)) (fun k hk e => hne (by rw [← hb3, ← behind_block (cap := cap) (n := 1), hk, e]))
        rw [hA3, hC3] at h
        exact h, by rw [← hA3, behind_block]; exact hb3⟩, fun _ => rfl⟩
      have hxx : wrap64 ((x.toNat : Nat) : Int) = ((x.toNat : Nat) : Int) := by have := x.toNat_lt; unfold wrap64; omega
      have hx256 := x.toNat_lt
      clear H hr hl hb1 hb2 hb3 hne c0 hc hx hA3 hC3
      generalize r.length = m at c0' hle HR
      generalize x.toNat = xn at hx' hxx HE hx256
      go_enter Try.func40, Try.ntmps40
      go_wp2_with (refine wpList_sliceK rfl (.tmp 30) (.const (.int .i64 1)) rfl 1 .i64 rfl (some ⟨b, off, none⟩) A3 (m + 1) m cap C3 rfl (by omega) (by omega) HA3.out HC3.out ?_)
      go_ret
      exact ⟨by rw [HE.out]; rfl, by rw [HE.out]; exact HR, Lib.hid (HO.out _ 0)⟩
theorem scan_ten : ∀ (l : List UInt8) (k y : Nat), 10 ≤ k → scan l k y = none
  | [], _, _, _ => rfl
  | b :: r, k, y, h => by
    rw [scan]
    split
    · rfl
    · rename_i hf
      have h1 : (2 : Nat) ^ 70 ≤ 2 ^ (7 * k) := Nat.pow_le_pow_right (by omega) (by omega)
      have h2 : (18446744073709551616 : Nat) ≤ 2 ^ 70 := by omega
      have h0 : b.toNat % 128 = 0 := by
        rcases Nat.eq_zero_or_pos (b.toNat % 128) with h0 | h0
        · exact h0
        · have h3 : 1 * 2 ^ (7 * k) ≤ b.toNat % 128 * 2 ^ (7 * k) := Nat.mul_le_mul_right _ h0
          omega
      split
      · exact scan_ten r (k + 1) _ (by omega)
      · rw [if_pos (by omega)]
def IUi (q : Nat) (d : Option Nat) (s : RS) (w : World) (e : Ending) (w' : World) : Prop :=
  e = .returned (.int .u64 ((rUint s).1 : Nat)) ∧ Hid (InR w' q d (rUint s).2) ∧ Hid (Only (fun k => k = q) w w')
/-- So many bytes of a short number have been taken. -/
def IuRel (q : Nat) (d : Option Nat) (l : List UInt8) (w : World) (x i : Value) (wr : World) : Prop :=
  ∃ k y : Nat, k ≤ 10 ∧ i = .int .i64 (k : Nat) ∧ x = .int .u64 ((y : Nat) : Int) ∧ Hid (scan l 0 0 = scan (l.drop k) k y) ∧ Hid (y < 2 ^ (7 * k) ∧ y < 18446744073709551616) ∧ Hid (InR wr q d ⟨l.drop k, false⟩) ∧ Hid (Only (fun j => j = q) w wr)
theorem uint_no {l : List UInt8} (h : scan l 0 0 = none) : rUint ⟨l, false⟩ = (0, ⟨l, true⟩) := by
  unfold rUint parse
  rw [h]
  exact if_pos (.inr rfl)
theorem uint_yes {l : List UInt8} {y k : Nat} (h : scan l 0 0 = some (y, k + 1)) : rUint ⟨l, false⟩ = (y, ⟨l.drop (k + 1), false⟩) := by
  unfold rUint parse
  rw [h]
  exact if_neg (by simp)
theorem fits_nine {c k : Nat} (hc : c < 256) (hk : k < 10) (h9 : k = 9 → c ≤ 1) : c % 128 * 2 ^ (7 * k) < 18446744073709551616 := by
  by_cases h : k = 9
  · subst h
    have : c % 128 ≤ 1 := by have := h9 rfl; omega
    have h1 : c % 128 * 2 ^ (7 * 9) ≤ 1 * 2 ^ (7 * 9) := Nat.mul_le_mul_right _ this
    have h2 : (1 : Nat) * 2 ^ (7 * 9) < 18446744073709551616 := by omega
    exact Nat.lt_of_le_of_lt h1 h2
  · have h1 : (2 : Nat) ^ (7 * k) ≤ 2 ^ 56 := Nat.pow_le_pow_right (by omega) (by omega)
    have h2 : c % 128 * 2 ^ (7 * k) ≤ 127 * 2 ^ 56 := Nat.mul_le_mul (by omega) h1
    have h3 : (127 : Nat) * 2 ^ 56 < 18446744073709551616 := by omega
    omega
theorem scan_over {c : UInt8} {r : List UInt8} {y : Nat} (h : 1 < c.toNat) : scan (c :: r) 9 y = none := by
  rw [scan]
  split
  · rfl
  · rename_i hf
    have h2 : (2 : Nat) ^ (7 * 9) = 9223372036854775808 := by omega
    rw [h2] at hf
    have h3 := c.toNat_lt
    have : 128 ≤ c.toNat := by omega
    rw [if_pos this]
    exact scan_ten _ _ _ (by omega)
theorem only_two {a b c : World} {q : Nat} (h : Only (fun k => k = q) a b) (k : Only (fun k => k = q) b c) : Only (fun k => k = q) a c := h.trans k fun _ _ h => h
set_option maxHeartbeats 4000000 in
theorem iuint_any (q : Nat) (d : Option Nat) (s : RS) (w : World) (h : InR w q d s) :
    Calls Try.prog 42 #[.pointer (some ⟨q, 0, none⟩)] w (IUi q d s w) := by
  obtain ⟨l, b⟩ := s
  cases b with
  | true =>
    have HU := Lib.hid (iu8_any q d ⟨l, true⟩ w h)
    have HE := Lib.hid (rWide_fault ⟨l, true⟩ (.inl rfl))
    have HR := Lib.hid (show rUint ⟨l, true⟩ = (0, ⟨l, true⟩) from if_pos (.inl rfl))
    clear h
    go_enter Try.func42, Try.ntmps42
    go_wp2
    go_loopw [3, 4] (fun x i wr => i = .int .i64 0 ∧ x = .int .u64 0 ∧ wr = w) (fun _ i _ => 10 - (intOf i).toNat)
    case atStart => exact ⟨rfl, rfl, rfl⟩
    case round =>
      obtain ⟨rfl, rfl, rfl⟩ := hrel
      go_wp2_with fail
      refine HU.out.mono ?_
      rintro e w1 ⟨rfl, h1, h2⟩
      rw [HE.out] at h1 ⊢
      have hb := h1.out.bad_cell
      go_wp2
      go_ret
      exact ⟨by rw [HR.out]; rfl, by rw [HR.out]; exact h1, h2⟩
  | false =>
    have H := Lib.hid h
    clear h
    go_enter Try.func42, Try.ntmps42
    go_wp2
    go_loopw [3, 4] (fun x i wr => IuRel q d l w x i wr) (fun _ i _ => 10 - (intOf i).toNat)
    case atStart => exact ⟨0, 0, by omega, rfl, rfl, Lib.hid rfl, Lib.hid (by decide), H, Lib.hid (Only.refl _ _)⟩
    case round =>
      obtain ⟨k, y, hk10, rfl, rfl, hsc, hy, hin, hon⟩ := hrel
      have HD := Lib.hid (show (l.drop k).tail = l.drop (k + 1) from List.tail_drop)
      by_cases hk : k < 10
      · generalize l.drop k = l' at hsc hin HD
        go_wp2_with fail
        refine (iu8_any q d ⟨l', false⟩ wr hin.out).mono ?_
        rintro e w1 ⟨rfl, h1, h2⟩
        have hon1 := Lib.hid (only_two hon.out h2.out)
        clear hon h2 hin
        cases l' with
        | nil =>
          have HR := Lib.hid (uint_no (l := l) (by rw [hsc.out]; rfl))
          have HE := Lib.hid (rWide_fault ⟨[], false⟩ (.inr rfl))
          rw [HE.out] at h1 ⊢
          have hb := h1.out.bad_cell
          have h1' : Hid (InR w1 q d ⟨l, true⟩) := Lib.hid (by obtain ⟨l2, hr, _⟩ := h1.out; exact ⟨l2, hr, fun h => by cases h⟩)
          clear HD hsc hy h1 HE
          go_wp2
          go_ret
          exact ⟨by rw [HR.out]; rfl, by rw [HR.out]; exact h1', hon1⟩
        | cons c r =>
          have HE := Lib.hid (rWide_cons c r)
          rw [HE.out] at h1 ⊢
          clear HE
          have hb := h1.out.bad_cell
          have f1 := h1.out.thaw 1
          have hc256 : c.toNat < 256 := c.toNat_lt
          have HF := Lib.hid (h1.out.fail l)
          have HO := Lib.hid (only_two hon1.out (only_q w1 q 1 (.bool true)))
          have hr : r = l.drop (k + 1) := HD.out
          have hsc' := Lib.hid (show scan l 0 0 = _ by rw [hsc.out, scan])
          have HN9 := Lib.hid (fun (h : k = 9) (hc : 1 < c.toNat) => uint_no (l := l) (by rw [hsc.out]; subst h; exact scan_over hc))
          clear HD hsc
          generalize c.toNat = cn at hc256 hsc' HN9 ⊢
          have e0 : IntKind.u64.wrap (cn : Int) = (cn : Int) := IntWalk.u64_in _ (by omega)
          have k0 : (0 : Int) ≤ (k : Int) := by omega
          have kt : (k : Int) < 10 := by omega
          by_cases hbr : k = 9 ∧ 1 < cn
          · have HR := Lib.hid (HN9.out hbr.1 hbr.2)
            obtain ⟨rfl, h1c⟩ := hbr
            have g1 : (1 : Int) < (cn : Int) := by omega
            clear hsc' HN9 hy hr h1
            go_wp2
            go_ret
            exact ⟨by rw [HR.out]; rfl, by rw [HR.out]; exact HF, HO⟩
          · have hf := fits_nine hc256 hk (fun h => by omega)
            obtain ⟨f1', -⟩ := fits_yes (cn % 128) k hf
            have F4 := Lib.hid (or_bound (g := cn % 128) hy.out.1 (Nat.mod_lt _ (by omega)) hy.out.2 hf)
            rw [if_neg (by omega)] at hsc'
            have e2 : (cn : Int).tmod 128 = ((cn % 128 : Nat) : Int) := by rw [Int.tmod_eq_emod_of_nonneg (by omega)]; omega
            have e3 : (cn : Int) % 128 = ((cn % 128 : Nat) : Int) := by omega
            by_cases h9 : k = 9
            · have h9b : ((k : Int) == 9) = true := by simp [h9]
              have h9c : decide ((1 : Int) < (cn : Int)) = false := decide_eq_false (by omega)
              have H9 := Lib.hid h9
              clear h9 hbr
              have hp : ((cn % 128 : Nat) : Int) * 2 ^ (7 * k) = ((cn % 128 * 2 ^ (7 * k) : Nat) : Int) := by simp
              have HP := Lib.hid hp
              clear hp
              generalize cn % 128 = g at *
              generalize g * 2 ^ (7 * k) = N at *
              have e5 : IntKind.u64.wrap ((g : Int) * 2 ^ (7 * k)) = (N : Int) := by rw [HP.out]; exact IntWalk.u64_in _ (by omega)
              have e6 : IntKind.u64.wrap ((y : Int) + (N : Int)) = ((y + N : Nat) : Int) := by rw [IntWalk.u64_in _ (by have := F4.out.2; omega)]; simp
              have hz64 : (y : Int) + (N : Int) < 18446744073709551616 := by have := F4.out.2; omega
              by_cases hm : 128 ≤ cn
              · have hm' : decide ((cn : Int) < 128) = false := decide_eq_false (by omega)
                have HS2 := Lib.hid (show scan l 0 0 = scan (l.drop (k + 1)) (k + 1) (y + N) by rw [← hr, hsc'.out, if_pos hm])
                rw [hr] at h1
                clear hm hsc' HN9 hr HF HO
                go_wp2
                go_roundw
                case rel => exact ⟨k + 1, y + N, by omega, by go_num, by go_num, HS2, F4, h1, hon1⟩
                case measure => simp [intOf]; omega
              · have hm' : decide ((cn : Int) < 128) = true := decide_eq_true (by omega)
                by_cases hc0 : cn = 0
                · have hg0 : g = 0 := by omega
                  have hN0 : N = 0 := by have h := HP.out; rw [hg0] at h; simpa using h.symm
                  clear e0 e2 e3 e5 e6 hm' f1' hz64 hf HP
                  subst hg0 hN0 hc0
                  rw [show ((0 : Nat) : Int) = 0 from rfl]
                  by_cases hkz : 0 < k
                  · have HR := Lib.hid (uint_no (l := l) (by rw [hsc'.out, if_neg hm, if_pos ⟨rfl, hkz⟩]))
                    clear hm hsc' HN9 hr h1
                    go_wp2
                    go_ret
                    exact ⟨by rw [HR.out]; rfl, by rw [HR.out]; exact HF, HO⟩
                  · have HR := Lib.hid (uint_yes (l := l) (y := y) (k := k) (by rw [hsc'.out, if_neg hm, if_neg (fun h => hkz h.2), Nat.add_zero]))
                    have hy64 := hy.out.2
                    rw [hr] at h1
                    clear hm hsc' HN9 hr HF HO
                    go_wp2
                    go_ret
                    exact ⟨by rw [HR.out]; rfl, by rw [HR.out]; exact h1, hon1⟩
                · have hc0b : ((cn : Int) == 0) = false := by rw [beq_eq_false_iff_ne]; omega
                  have HR := Lib.hid (uint_yes (l := l) (y := y + N) (k := k) (by rw [hsc'.out, if_neg hm, if_neg (fun h => hc0 h.1)]))
                  rw [hr] at h1
                  clear hm hsc' HN9 hr HF HO hc0
                  go_wp2
                  go_ret
                  exact ⟨by rw [HR.out]; rfl, by rw [HR.out]; exact h1, hon1⟩
            · have h9b : ((k : Int) == 9) = false := by rw [beq_eq_false_iff_ne]; omega
              clear hbr
              have hp : ((cn % 128 : Nat) : Int) * 2 ^ (7 * k) = ((cn % 128 * 2 ^ (7 * k) : Nat) : Int) := by simp
              have HP := Lib.hid hp
              clear hp
              generalize cn % 128 = g at *
              generalize g * 2 ^ (7 * k) = N at *
              have e5 : IntKind.u64.wrap ((g : Int) * 2 ^ (7 * k)) = (N : Int) := by rw [HP.out]; exact IntWalk.u64_in _ (by omega)
              have e6 : IntKind.u64.wrap ((y : Int) + (N : Int)) = ((y + N : Nat) : Int) := by rw [IntWalk.u64_in _ (by have := F4.out.2; omega)]; simp
              have hz64 : (y : Int) + (N : Int) < 18446744073709551616 := by have := F4.out.2; omega
              by_cases hm : 128 ≤ cn
              · have hm' : decide ((cn : Int) < 128) = false := decide_eq_false (by omega)
                have HS2 := Lib.hid (show scan l 0 0 = scan (l.drop (k + 1)) (k + 1) (y + N) by rw [← hr, hsc'.out, if_pos hm])
                rw [hr] at h1
                clear hm hsc' HN9 hr HF HO
                go_wp2
                go_roundw
                case rel => exact ⟨k + 1, y + N, by omega, by go_num, by go_num, HS2, F4, h1, hon1⟩
                case measure => simp [intOf]; omega
              · have hm' : decide ((cn : Int) < 128) = true := decide_eq_true (by omega)
                by_cases hc0 : cn = 0
                · have hg0 : g = 0 := by omega
                  have hN0 : N = 0 := by have h := HP.out; rw [hg0] at h; simpa using h.symm
                  clear e0 e2 e3 e5 e6 hm' f1' hz64 hf HP
                  subst hg0 hN0 hc0
                  rw [show ((0 : Nat) : Int) = 0 from rfl]
                  by_cases hkz : 0 < k
                  · have HR := Lib.hid (uint_no (l := l) (by rw [hsc'.out, if_neg hm, if_pos ⟨rfl, hkz⟩]))
                    clear hm hsc' HN9 hr h1
                    go_wp2
                    go_ret
                    exact ⟨by rw [HR.out]; rfl, by rw [HR.out]; exact HF, HO⟩
                  · have HR := Lib.hid (uint_yes (l := l) (y := y) (k := k) (by rw [hsc'.out, if_neg hm, if_neg (fun h => hkz h.2), Nat.add_zero]))
                    have hy64 := hy.out.2
                    rw [hr] at h1
                    clear hm hsc' HN9 hr HF HO
                    go_wp2
                    go_ret
                    exact ⟨by rw [HR.out]; rfl, by rw [HR.out]; exact h1, hon1⟩
                · have hc0b : ((cn : Int) == 0) = false := by rw [beq_eq_false_iff_ne]; omega
                  have HR := Lib.hid (uint_yes (l := l) (y := y + N) (k := k) (by rw [hsc'.out, if_neg hm, if_neg (fun h => hc0 h.1)]))
                  rw [hr] at h1
                  clear hm hsc' HN9 hr HF HO hc0
                  go_wp2
                  go_ret
                  exact ⟨by rw [HR.out]; rfl, by rw [HR.out]; exact h1, hon1⟩
      · obtain rfl : k = 10 := by omega
        have HR := Lib.hid (uint_no (l := l) (by rw [hsc.out]; exact scan_ten _ _ _ (by omega)))
        have hb := hin.out.bad_cell
        have f1 := hin.out.thaw 1
        have HF := Lib.hid (hin.out.fail l)
        have HO := Lib.hid (only_two hon.out (only_q wr q 1 (.bool true)))
        clear HD hsc hy hin hon
        go_wp2
        go_ret
        exact ⟨by rw [HR.out]; rfl, by rw [HR.out]; exact HF, HO⟩
end Go.Proofs.Ytlcddfkhklmieaa
