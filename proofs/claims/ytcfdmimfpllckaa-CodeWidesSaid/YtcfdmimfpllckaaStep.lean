/-
  The append of bytes as one step of a region that draws its order. No condition.
-/
import Derived.Test.YtcfdmimfpllckaaMem
import Derived.Deep.RegionLaw
namespace Go.Proofs.Ytcfdmimfpllckaa
open Go.RowKit

/-- 'append(out, xs...)' as one step of a region that draws its order: for 'go_region_law (refine step_append8 rfl rfl ..)'. -/
theorem step_append8 {P : Program} {ops : Array Oper} {o : Oper} {a : Act} {w : World} {K : Act → World → Prop} {Q : Exit → Act → World → Prop} {E : Prop} (hP : P = Try.prog) (hgd : o.guard = none) (s x : Operand)
    (ho : o.op = .call { callee := .builtin .append, args := #[s, x], argTypes := #[27, 27] })
    (A : Option Addr) (n cap : Nat) (l : List UInt8) (hs : a.eval s = .slice A n cap) (hown : Own8 w 0 A n cap l)
    (A1 : Option Addr) (m c B : Nat) (xs : List UInt8) (hx : a.eval x = .slice A1 m c) (hl : xs.length = m) (hA : A1 = none → c = 0) (hb : Bytes w B A1 xs)
    (hbytes : n + m ≤ 140737488355328)
    (h : ∀ A' cap' w', Hid (Own8 w' 0 A' (n + m) cap' (l ++ xs)) → Hid (Only (fun k => blockOf A = some k) w w') → Hid (NewOr w (blockOf A) (blockOf A')) → K (a.put o.dst (.slice A' (n + m) cap')) w') :
    if Region.wanted o (yielded ops a.tmps) = true then Oper.wp P o a w K Q else E := by
  subst hP
  have hw : Region.wanted o (yielded ops a.tmps) = true := by simp [Region.wanted, hgd]
  rw [if_pos hw]
  obtain ⟨i0, hi0, hz0, hz1, hz2⟩ := info_parts Try.infoU8
  rcases A1 with _ | ad
  · have hc := hA rfl
    subst hc
    have hxs := hb.none_
    subst hxs
    obtain rfl : m = 0 := by simpa using hl.symm
    have hrun := run_append_owned_none (P := Try.prog) (w := w) 0 27 o.type 5 i0 1 Try.underlying27 hi0 (.slice A n cap) n (bv l) hown
    have h1 := h A cap w (by rw [List.append_nil, Nat.add_zero]; exact hown) (Only.refl _ _) (NewOr.refl _ _)
    rw [Nat.add_zero] at h1
    unfold Oper.wp
    simp [execOp, ho, resolve, invoke, builtin, hs, hx, hrun, Result.andThen]
    exact h1
  · obtain ⟨v', w', hr, h2, h3, _, h5⟩ := run_append_own_at (P := Try.prog) w 0 27 o.type 5 i0 (.int .u8 0) 1 1 Try.underlying27 hi0 hz0 hz1 hz2 rfl (by omega) (.slice A n cap) n (bv l) hown ad m c (bv xs) (by simp [hl]) (fun j u hu => by
      obtain ⟨ad', e, h'⟩ := hb.src (by have := (List.getElem?_eq_some_iff.1 hu).1; omega)
      cases e
      exact h' j u hu) (bv_one xs) (by unfold maxLen; omega) (by omega) (Nat.zero_le _)
    unfold Oper.wp execOp
    simp only [ho, resolve, invoke, builtin, Sem.run_bind, Sem.run_pure, Result.andThen_ok, List.map_toArray, List.map_cons, List.map_nil, hs, hx, hr]
    obtain ⟨A', cap', rfl⟩ := own_value h2
    rw [ownBlock_slice, ownBlock_slice] at h5
    rw [ownBlock_slice] at h3
    refine h A' cap' w' (by unfold Own8; rw [bv_append]; exact h2) (Only.ofGrown h3) ?_
    rcases h5 with e | e
    · exact .inl e
    · exact .inr ⟨_, e, Nat.le_refl _⟩
end Go.Proofs.Ytcfdmimfpllckaa
