/-
  The document's own reading (caucusref03.In): a text. For at most 2^46 bytes.
-/
import Derived.Test.YtlcddfkhklmieaaIn
import Derived.Test.YtlcddfkhklmieaaGa
import Derived.Test.YtlcddfkhklmieaaGb
namespace Go.Proofs.Ytlcddfkhklmieaa
set_option maxRecDepth 20000
open Go.RowKit

theorem rText_uint (s : RS) (m : Nat) : rText s (m : Int) = if (rUint s).2.bad = true ∨ m < (rUint s).1 ∨ (rUint s).2.l.length < (rUint s).1 then ([], ⟨s.l, true⟩) else ((rUint s).2.l.take (rUint s).1, ⟨(rUint s).2.l.drop (rUint s).1, false⟩) := by
  unfold rText rUint
  have hp := parse_le s.l
  by_cases h0 : s.bad = true ∨ (parse s.l).2 = 0
  · rw [if_pos h0, if_pos (by rcases h0 with h | h; exact .inl h; exact .inr (.inl h)), if_pos (.inl rfl)]
  · rw [if_neg h0]
    simp only [List.length_drop, List.drop_drop]
    by_cases h1 : m < (parse s.l).1 ∨ s.l.length - (parse s.l).2 < (parse s.l).1
    · rw [if_pos (show s.bad = true ∨ (parse s.l).2 = 0 ∨ (m : Int) < 0 ∨ (m : Int) < ((parse s.l).1 : Int) ∨ s.l.length < (parse s.l).2 + (parse s.l).1 from .inr (.inr (.inr (by rcases h1 with h | h; exact .inl (by omega); exact .inr (by omega))))), if_pos (.inr h1)]
    · have h1a : ¬ m < (parse s.l).1 := fun h => h1 (.inl h)
      have h1b : ¬ s.l.length - (parse s.l).2 < (parse s.l).1 := fun h => h1 (.inr h)
      have h2 : ¬ (s.bad = true ∨ (parse s.l).2 = 0 ∨ (m : Int) < 0 ∨ (m : Int) < ((parse s.l).1 : Int) ∨ s.l.length < (parse s.l).2 + (parse s.l).1) := by
        intro h
        rcases h with h | h | h | h | h
        · exact h0 (.inl h)
        · exact h0 (.inr h)
        · omega
        · omega
        · omega
      have h3 : ¬ (false = true ∨ m < (parse s.l).1 ∨ s.l.length - (parse s.l).2 < (parse s.l).1) := by
        intro h
        rcases h with h | h | h
        · exact Bool.false_ne_true h
        · exact h1a h
        · exact h1b h
      rw [if_neg h2, if_neg h3]
theorem wpList_sliceTo {ops : Array Oper} {rest : List Oper} {o : Oper} {a : Act} {w : World} {Q : Exit → Act → World → Prop} (hgd : o.guard = none) (x y : Operand)
    (ho : o.op = .slice 26 x none (some y) none) (k : Nat) (kk : IntKind) (hy : a.eval y = .int kk (k : Int)) (A : Option Addr) (n cap : Nat) (hx : a.eval x = .slice A n cap) (hk : k ≤ cap)
    (h : wpList Try.prog ops Q rest (a.put o.dst (.slice A k cap)) w) : wpList Try.prog ops Q (o :: rest) a w := by
  refine wpList_plain hgd fun K hK => ?_
  have e : (Instr.sliceAt 26 (.slice A n cap) none (some (.int kk (k : Int))) none).run Try.prog w = .ok (.slice A k cap) w := by
    rw [run_sliceAt_slice _ 26 _ _ _ _ Try.underlying26, run_slice_h _ 26 A n cap Try.underlying26 kk (k : Int) (by omega) (by omega)]
    rw [show (sizeOf (Try.prog.elem 26)).run Try.prog w = .ok 1 w from by kernel_rfl]
    cases A <;> simp [Result.andThen, sliced, Addr.add]
  unfold Oper.wp
  simp only [execOp, ho]
  rw [hx]
  simp only [Option.map_some, Option.map_none, hy]
  simp only [Sem.run_bind, e, Result.andThen_ok, Sem.run_pure]
  exact hK _ _ h
def ITe (q : Nat) (d : Option Nat) (s : RS) (m : Nat) (w : World) (e : Ending) (w' : World) : Prop :=
  ∃ A cap, e = .returned (.slice A (rText s (m : Int)).1.length cap) ∧ Hid (Own8 w' w.heap.size A (rText s (m : Int)).1.length cap (rText s (m : Int)).1) ∧ Hid (InR w' q d (rText s (m : Int)).2) ∧ Hid (Only (fun k => k = q) w w')
theorem ite_none {q : Nat} {d : Option Nat} {s : RS} {m : Nat} {w w' : World} (h : rText s (m : Int) = ([], ⟨s.l, true⟩)) (h1 : Hid (InR w' q d ⟨s.l, true⟩)) (h2 : Hid (Only (fun k => k = q) w w')) : ITe q d s m w (.returned (.slice none 0 0)) w' := by
  refine ⟨none, 0, by rw [h]; rfl, ?_, by rw [h]; exact h1, h2⟩
  rw [h]
  exact Lib.hid Own8.nil_
set_option maxHeartbeats 4000000 in
theorem itext_any (q : Nat) (d : Option Nat) (s : RS) (m : Nat) (hm : m ≤ 1048576) (w : World) (h : InR w q d s) (hr : s.l.length ≤ 70368744177664) :
    Calls Try.prog 44 #[.pointer (some ⟨q, 0, none⟩), .int .i64 (m : Int)] w (ITe q d s m w) := by
  have HU := Lib.hid (iuint_any q d s w h)
  have HT := Lib.hid (rText_uint s m)
  have hq := h.lt
  have HDL := Lib.hid h.dlt
  have hx64 : (rUint s).1 < 18446744073709551616 := by unfold rUint; split; simp; exact parse_lt _
  have hll : (rUint s).2.l.length ≤ s.l.length := by unfold rUint; split; exact Nat.le_refl _; simp
  unfold IUi at HU
  obtain ⟨x, s1, hx⟩ : ∃ x s1, rUint s = (x, s1) := ⟨_, _, rfl⟩
  rw [hx] at HU HT hx64 hll
  simp only at HU HT hx64 hll
  clear hx h
  have em : IntKind.u64.wrap (m : Int) = (m : Int) := IntWalk.u64_in _ (by omega)
  go_enter Try.func44, Try.ntmps44
  go_wp2_with fail
  refine HU.out.mono ?_
  rintro e w1 ⟨rfl, h1, h2⟩
  clear HU
  have c1 := h1.out.bad_cell
  have f1 := h1.out.thaw 1
  have f0 := h1.out.thaw 0
  have HF := Lib.hid (h1.out.fail s.l)
  have HO := Lib.hid (only_two h2.out (only_q w1 q 1 (.bool true)))
  have hz1 := h2.out.size
  cases hb : s1.bad with
  | true =>
    have HN := Lib.hid (show rText s (m : Int) = ([], ⟨s.l, true⟩) from by rw [HT.out, if_pos (.inl hb)])
    rw [hb] at c1
    clear HT h1 h2 hb
    go_wp2
    go_ret
    exact ite_none HN.out HF HO
  | false =>
    rw [hb] at c1
    obtain ⟨l1, hrd, hl1⟩ := h1.out
    obtain rfl := hl1 hb
    have hne := hrd.ne (by decide)
    obtain ⟨A, cap, hb1, hb2, hb3⟩ := id hrd
    have c0 : w1.cell? ⟨q, 0, none⟩ = some (.slice A s1.l.length cap) := by simpa using cell_plain hb1 0
    have hcl := hb2.1
    obtain ⟨sl, sb⟩ := s1
    simp only at hb hll hcl c0 hb2 hb1 HT
    subst hb
    have hn64 : sl.length < 18446744073709551616 := by omega
    have en : IntKind.u64.wrap (sl.length : Int) = (sl.length : Int) := IntWalk.u64_in _ (by omega)
    by_cases hmx : m < x
    · have HN := Lib.hid (show rText s (m : Int) = ([], ⟨s.l, true⟩) from by rw [HT.out, if_pos (.inr (.inl hmx))])
      clear HT h1 h2 hb1 hb2 hb3 hrd hne
      generalize sl.length = n1 at *
      go_wp2
      go_ret
      exact ite_none HN.out HF HO
    · by_cases hlx : sl.length < x
      · have HN := Lib.hid (show rText s (m : Int) = ([], ⟨s.l, true⟩) from by rw [HT.out, if_pos (.inr (.inr hlx))])
        clear HT h1 h2 hb1 hb2 hb3 hrd hne
        generalize sl.length = n1 at *
        go_wp2
        go_ret
        exact ite_none HN.out HF HO
      · have HN := Lib.hid (show rText s (m : Int) = (sl.take x, ⟨sl.drop x, false⟩) from by rw [HT.out, if_neg (by rintro (h | h | h); cases h; exact hmx h; exact hlx h)])
        have HL := Lib.hid (show (sl.take x).length = x from by rw [List.length_take]; omega)
        have o1 : Only (fun _ => False) w1 (w1.alloc (.cells #[] 5)) := (Only.refl (fun _ => False) w1).alloc _
        have O := World.ownsRow_made (base := 0) (e := 5) (size := 1) w1 #[] 0 (Nat.zero_le _) (by unfold maxLen; omega) rfl
        have HOW : Hid (Own8 (w1.alloc (.cells #[] 5)) 0 (some ⟨w1.heap.size, 0, none⟩) 0 0 []) := Lib.hid O
        have HR2 := Lib.hid (hrd.keep o1 (fun h => h) (fun _ _ h => h))
        have HON := Lib.hid (h2.out.trans o1 fun _ _ h => h.elim)
        have hzz : (w1.alloc (.cells #[] 5)).heap.size = w1.heap.size + 1 := by simp
        have hdl1 := hrd.dlt
        have hql := hrd.lt
        have BX := (Below.refl w1.heap.size w1).alloc (Nat.le_refl _) (.cells #[] 5)
        have d0 : (w1.alloc (.cells #[] 5)).cell? ⟨q, 0, none⟩ = some (.slice A sl.length cap) := (BX.cell (p := ⟨q, 0, none⟩) hql).trans c0
        have hb6 := hb2.keep o1 (fun _ _ h => h)
        have hle := hb6.1
        have HBX := Lib.hid (hb6.front x (by omega)).bytes
        have HNC := Lib.hid hb6.none_cap
        have HB2 := Lib.hid hb6
        have HB1 : Hid ((w1.alloc (.cells #[] 5)).heap[q]? = some (.cells #[.slice A sl.length cap, .bool false] InT (0, 0))) := Lib.hid ((BX.block q hql).trans hb1)
        have HB3 := Lib.hid hb3
        have HNE := Lib.hid hne
        clear O HT h1 h2 hb1 hb2 hb3 hb6 hne HF HO o1 hrd f0 f1 BX
        obtain ⟨A3, hA3⟩ : ∃ A3, behind A cap x = A3 := ⟨_, rfl⟩
        obtain ⟨C3, hC3⟩ : ∃ C3, cap - x = C3 := ⟨_, rfl⟩
        have HA3 := Lib.hid hA3
        have HC3 := Lib.hid hC3
        clear hA3 hC3
        generalize hn1 : sl.length = n1 at *
        have HN1 := Lib.hid hn1
        clear hn1
        go_wp2_with (first
          | (refine wpList_sliceTo rfl (.tmp 36) (.tmp 37) rfl x .u64 rfl A n1 cap rfl (by omega) ?_)
          | (at_builtin; refine wpList_append8 rfl (.tmp 32) (.tmp 38) rfl (some ⟨w1.heap.size, 0, none⟩) 0 0 [] rfl HOW.out A x cap _ (sl.take x) rfl HL.out HNC.out HBX.out (by omega) ?_))
        intro A9 c9 w9 hO9 ho9 hn9
        generalize w1.alloc (.cells #[] 5) = w2 at *
        have hq2 : ¬ blockOf (some (⟨w1.heap.size, 0, none⟩ : Addr)) = some q := fun e => by have : w1.heap.size = q := Option.some.inj e; omega
        have HQ9 := Lib.hid ((ho9.out.block q (by omega) hq2).trans HB1.out)
        have HBT9 := Lib.hid (HB2.out.keep ho9.out (fun k hk e => by
          have h1 : w1.heap.size = k := Option.some.inj e
          have h2 := hdl1 k (by rw [← HB3.out]; exact hk)
          omega))
        have k0 : w9.cell? ⟨q, 0, none⟩ = some (.slice A n1 cap) := by simpa using cell_plain HQ9.out 0
        have g0 := frozen_plain HQ9.out 0
        have hg9 : ∀ j, blockOf A9 = some j → w.heap.size ≤ j := hn9.out.ge (by omega) (fun j hj => by have : w1.heap.size = j := Option.some.inj hj; omega)
        have HG9 := Lib.hid hg9
        have hO9' := Lib.hid (((hO9.out.raise hg9).keep (only_q w9 q 0 (.slice A3 (n1 - x) C3)) (fun j hj e => by have := hg9 j hj; omega)))
        have HON9 := Lib.hid ((HON.out.trans ho9.out fun j hj e => by have : w1.heap.size = j := Option.some.inj e; omega).trans (only_q w9 q 0 (.slice A3 (n1 - x) C3)) fun _ _ h => h)
        have HI9 : Hid (InR (w9.setCell ⟨q, 0, none⟩ (.slice A3 (n1 - x) C3)) q d ⟨sl.drop x, false⟩) := Lib.hid ⟨sl.drop x, ⟨A3, C3, by
          have h := block_set2 (u := .slice A3 (n1 - x) C3) HQ9.out
          rw [List.length_drop, HN1.out]
          exact h, by
          have h := (HBT9.out.back x (by rw [HN1.out]; omega)).keep (only_q w9 q 0 (.slice A3 (n1 - x) C3)) (fun k hk e => HNE.out (by rw [← HB3.out, ← behind_block (cap := cap) (n := x), hk, e]))
          rw [HA3.out, HC3.out] at h
          exact h, by rw [← HA3.out, behind_block]; exact HB3.out⟩, fun _ => rfl⟩
        clear hO9 ho9 hn9 HB1 HB2 HBT9 HON HR2 HOW HBX hg9 hzz hdl1
        go_wp2_with (refine wpList_sliceK rfl (.tmp 44) (.tmp 45) rfl x .u64 rfl A A3 n1 (n1 - x) cap C3 rfl (by omega) rfl HA3.out HC3.out ?_)
        go_ret
        refine ⟨A9, c9, ?_, ?_, ?_, HON9⟩
        · rw [HN.out]
          simp only [HL.out]
          rfl
        · rw [HN.out]
          simp only [HL.out]
          exact hO9'
        · rw [HN.out]
          exact HI9
end Go.Proofs.Ytlcddfkhklmieaa
