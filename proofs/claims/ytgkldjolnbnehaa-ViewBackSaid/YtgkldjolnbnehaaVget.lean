/-
  The program's GetId and Get: a name, and a view, are taken. For Readers of at most 2^46 bytes.
-/
import Derived.Test.YtgkldjolnbnehaaVread
import Derived.Test.YtgkldjolnbnehaaVcopy
import Derived.Test.YtgkldjolnbnehaaGe
import Derived.Deep.RegionLaw
namespace Go.Proofs.Ytgkldjolnbnehaa
set_option maxRecDepth 20000
open Go.RowKit
open Go.Sort (grow)

theorem set_three {W : World} {B : Nat} {a1 a2 a3 : Value} {t : TypeId} (h : W.heap[B]? = some (.cells #[a1, a2, a3] t (0, 0))) (v1 v2 v3 : Value) : (((W.setCell ⟨B, 0, none⟩ v1).setCell ⟨B, 1, none⟩ v2).setCell ⟨B, 2, none⟩ v3).heap[B]? = some (.cells #[v1, v2, v3] t (0, 0)) := by
  simp [World.setCell, Array.getElem?_modify, h]
theorem only_three (W : World) (B : Nat) (v1 v2 v3 : Value) : Only (fun k => k = B) W (((W.setCell ⟨B, 0, none⟩ v1).setCell ⟨B, 1, none⟩ v2).setCell ⟨B, 2, none⟩ v3) :=
  (((Only.refl (fun k => k = B) W).setCell (p := ⟨B, 0, none⟩) (.inl rfl) v1).setCell (p := ⟨B, 1, none⟩) (.inl rfl) v2).setCell (p := ⟨B, 2, none⟩) (.inl rfl) v3
set_option maxHeartbeats 4000000 in
theorem getid_any (q : Nat) (d : Option Nat) (s : RS) (w : World) (h : Rd RdT w q d s.l s.bad) (hr : s.l.length ≤ 70368744177664) :
    Calls Try.prog 66 #[.pointer (some ⟨q, 0, none⟩)] w fun e w' => e = .returned (nmV (getIdL s).1) ∧ Hid (Rd RdT w' q d (getIdL s).2.l (getIdL s).2.bad) ∧ Hid (Only (fun k => k = q) w w') := by
  have B0 := Lib.hid (below_box w (.cells #[.int .u64 0, .int .i64 0, .int .u64 0] 26))
  have HQ := Lib.hid h.lt
  have h1 := Lib.hid (h.keep (S := fun _ => False) (Only.ofBelow B0.out) (fun h => h) (fun _ _ h => h))
  have HB0 := Lib.hid (show (w.alloc (.cells #[.int .u64 0, .int .i64 0, .int .u64 0] 26)).heap[w.heap.size]? = some (.cells #[.int .u64 0, .int .i64 0, .int .u64 0] 26 (0, 0)) from heap_alloc_new w _)
  have HDl := Lib.hid h.dlt
  have HSz := Lib.hid (show (w.alloc (.cells #[.int .u64 0, .int .i64 0, .int .u64 0] 26)).heap.size = w.heap.size + 1 by simp)
  have HRl := Lib.hid (Nat.le_trans (rUint_le s) hr)
  have HG := Lib.hid (show getIdL s = if mayNm (((rUint s).1 : Int), (gotL (rUint s).2).1) then ((((rUint s).1 : Int), (gotL (rUint s).2).1), (gotL (rUint s).2).2) else ((0, (0, 0)), ⟨(gotL (rUint s).2).2.l, true⟩) from rfl)
  generalize getIdL s = gs at *
  have HH := Lib.hid hr
  clear h hr
  go_enter Try.func66, Try.ntmps66
  go_wp2_with fail
  refine (uint_any q d s _ h1.out HH.out).mono ?_
  rintro e W1 ⟨rfl, r1, o1⟩
  generalize (rUint s).1 = a at *
  generalize (rUint s).2 = s1 at *
  clear h1 HH
  go_wp2_with fail
  refine (get_any q d s1 W1 r1.out HRl.out).mono ?_
  rintro e W2 ⟨rfl, r2, o2⟩
  have HU := Lib.hid (gotL_uns s1)
  generalize (gotL s1).1 = p at *
  generalize (gotL s1).2 = s2 at *
  obtain ⟨x, y⟩ := p
  generalize hB : w.heap.size = B at *
  have HB := Lib.hid hB
  have hqB : ¬ B = q := by have := HQ.out; omega
  have b1 := (o1.out.block B (by rw [HSz.out]; omega) hqB).trans HB0.out
  have b2 := Lib.hid ((o2.out.block B (lt_of_heap b1) hqB).trans b1)
  have oo := Lib.hid (show Only (fun k => k = q) w W2 from ((Only.ofBelow (S := fun k => k = q) (by rw [← hB] at B0; exact B0.out)).trans o1.out fun _ _ h => h).trans o2.out fun _ _ h => h)
  have HqB := Lib.hid hqB
  clear hB b1 o1 o2 r1 HB0 B0 HSz hqB HRl
  have NB := Lib.hid (nbox_new W2 (a : Int) x y 26)
  have B3 := Lib.hid (below_box W2 (.cells #[.int .u64 (a : Int), .int .i64 x, .int .u64 y] 26))
  have HMay := Lib.hid (fun W => mayid_any ((a : Int), (x, y)) HU.out.1 W)
  obtain ⟨x0, x1, x2⟩ := NB.out
  go_wp2_with fail
  generalize W2.alloc (.cells #[.int .u64 (a : Int), .int .i64 x, .int .u64 y] 26) = W3 at *
  generalize hG : W2.heap.size = G at NB x0 x1 x2 ⊢
  have HGG := Lib.hid hG
  clear hG x0 x1 x2
  refine (HMay.out W3).mono ?_
  rintro e W4 ⟨rfl, hb4⟩
  have B4 := Lib.hid (btr B3.out hb4.out)
  have N4 := Lib.hid (NB.out.below hb4.out)
  have b4 := Lib.hid ((B4.out.block B (lt_of_heap b2.out)).trans b2.out)
  have r4 := Lib.hid (r2.out.keep (S := fun _ => False) (Only.ofBelow B4.out) (fun h => h) (fun _ _ h => h))
  have o4 := Lib.hid (oo.out.trans (Only.ofBelow (S := fun k => k = q) B4.out) fun _ _ h => h)
  clear NB hb4 B3 B4 r2 oo b2 HMay
  by_cases hm : mayNm ((a : Int), (x, y))
  · have HG2 := HG.out
    rw [if_pos hm] at HG2
    subst HG2
    rw [decide_eq_true hm]
    obtain ⟨x0, x1, x2⟩ := N4.out
    have z0 : W4.cell? ⟨B, 0, none⟩ = some (.int .u64 0) := by simpa using cell_plain b4.out 0
    have z1 : W4.cell? ⟨B, 1, none⟩ = some (.int .i64 0) := by simpa using cell_plain b4.out 1
    have z2 : W4.cell? ⟨B, 2, none⟩ = some (.int .u64 0) := by simpa using cell_plain b4.out 2
    have f0 : W4.frozen? ⟨B, 0, none⟩ = false := frozen_plain b4.out 0
    have f1 : W4.frozen? ⟨B, 1, none⟩ = false := frozen_plain b4.out 1
    have f2 : W4.frozen? ⟨B, 2, none⟩ = false := frozen_plain b4.out 2
    have O5 := Lib.hid (only_three W4 B (.int .u64 (a : Int)) (.int .i64 x) (.int .u64 y))
    clear hm HG
    go_wp2
    have HF := set_three b4.out (.int .u64 (a : Int)) (.int .i64 x) (.int .u64 y)
    (try simp only [Exit.inBlock, Exit.then])
    refine bodyPost_ret (results_cell_row rfl _ _ B 26 #[.int .u64 (a : Int), .int .i64 x, .int .u64 y] (0, 0) _ rfl HF Try.underlying26 rfl (by kernel_rfl)) rfl ?_
    exact ⟨rfl, Lib.hid (r4.out.keep (S := fun k => k = B) O5.out (fun e => HqB.out e.symm) (fun k e e2 => by have := HDl.out k e; omega)), Lib.hid (o4.out.trans O5.out fun k hk e => by have := HB.out; omega)⟩
  · have HG2 := HG.out
    rw [if_neg hm] at HG2
    subst HG2
    rw [decide_eq_false hm]
    clear hm HG
    go_wp2_with fail
    refine (fail_any q d s2.l s2.bad W4 r4.out).mono ?_
    rintro e W5 ⟨rfl, r5, o5⟩
    have b5 := Lib.hid ((o5.out.block B (lt_of_heap b4.out) HqB.out).trans b4.out)
    have z0 : W5.cell? ⟨B, 0, none⟩ = some (.int .u64 0) := by simpa using cell_plain b5.out 0
    have z1 : W5.cell? ⟨B, 1, none⟩ = some (.int .i64 0) := by simpa using cell_plain b5.out 1
    have z2 : W5.cell? ⟨B, 2, none⟩ = some (.int .u64 0) := by simpa using cell_plain b5.out 2
    have f0 : W5.frozen? ⟨B, 0, none⟩ = false := frozen_plain b5.out 0
    have f1 : W5.frozen? ⟨B, 1, none⟩ = false := frozen_plain b5.out 1
    have f2 : W5.frozen? ⟨B, 2, none⟩ = false := frozen_plain b5.out 2
    have O5 := Lib.hid (only_three W5 B (.int .u64 0) (.int .i64 0) (.int .u64 0))
    go_wp2
    have HF := set_three b5.out (.int .u64 0) (.int .i64 0) (.int .u64 0)
    (try simp only [Exit.inBlock, Exit.then])
    refine bodyPost_ret (results_cell_row rfl _ _ B 26 #[.int .u64 0, .int .i64 0, .int .u64 0] (0, 0) _ rfl HF Try.underlying26 rfl (by kernel_rfl)) rfl ?_
    exact ⟨rfl, Lib.hid (r5.out.keep (S := fun k => k = B) O5.out (fun e => HqB.out e.symm) (fun k e e2 => by have := HDl.out k e; omega)), Lib.hid ((o4.out.trans o5.out fun _ _ h => h).trans O5.out fun k hk e => by have := HB.out; omega)⟩
/-! Numbers that the call itself made. -/
def OwnU (w : World) (base : Nat) (A : Option Addr) (n cap : Nat) (l : List Nat) : Prop := w.ownsRow base 22 1 (.slice A n cap) n (uv l)
section
variable {w w' : World} {base n cap : Nat} {A : Option Addr} {l : List Nat}
theorem OwnU.nil_ : OwnU w base none 0 0 [] := World.ownsRow_nil _ _ _ _
theorem OwnU.nums (h : OwnU w base A n cap l) : Nums w w.heap.size A l := own_nums h
theorem OwnU.len (h : OwnU w base A n cap l) : l.length = n := by
  have := h.1
  simpa [uv] using this
theorem OwnU.none_cap (h : OwnU w base A n cap l) : A = none → cap = 0 := by
  intro hA
  subst hA
  rcases h.2 with ⟨hv, _⟩ | ⟨g, c, cur, hv, _⟩
  · have hv' : n = 0 ∧ cap = 0 := by simpa using hv
    exact hv'.2
  · simp at hv
theorem OwnU.base' (h : OwnU w base A n cap l) : ∀ k, blockOf A = some k → base ≤ k := fun k e => by
  rcases h.2 with ⟨hv, _⟩ | ⟨g, c, cur, hv, hb, _⟩
  · have hv' : A = none ∧ n = 0 ∧ cap = 0 := by simpa using hv
    rw [hv'.1] at e; cases e
  · have hv' : A = some ⟨g, 0, none⟩ ∧ cap = c := by simpa using hv
    rw [hv'.1] at e
    obtain rfl : g = k := by simpa [blockOf] using e
    exact hb
theorem OwnU.keep (h : OwnU w base A n cap l) {S : Nat → Prop} (ho : Only S w w') (hn : ∀ k, blockOf A = some k → ¬ S k) : OwnU w' base A n cap l := by
  refine ⟨h.1, ?_⟩
  rcases h.2 with h1 | ⟨g, c, cur, hv, hg, hh, hrest⟩
  · exact .inl h1
  · have hv' : A = some ⟨g, 0, none⟩ := by
      have : A = some ⟨g, 0, none⟩ ∧ cap = c := by simpa using hv
      exact this.1
    exact .inr ⟨g, c, cur, hv, hg, (ho.block g (lt_of_heap hh) (hn g (by rw [hv']; rfl))).trans hh, hrest⟩
theorem OwnU.on (h : OwnU w base A n cap l) (hb : Below w.heap.size w w') : OwnU w' base A n cap l := h.keep (S := fun _ => False) (Only.ofBelow hb) (fun _ _ h => h)
end
theorem ownU_value {w : World} {base n : Nat} {v : Value} {xs : List Value} (h : w.ownsRow base 22 1 v n xs) : ∃ A cap, v = .slice A n cap := by
  rcases h.2 with ⟨hv, hx⟩ | ⟨g, c, cur, hv, _⟩
  · refine ⟨none, 0, ?_⟩
    rw [hx]
    exact hv
  · exact ⟨_, _, hv⟩
theorem uv_append (a b : List Nat) : uv (a ++ b) = uv a ++ uv b := by simp [uv]
theorem uv_one (l : List Nat) : ∀ v ∈ uv l, v.oneCell' = true := by
  intro v hv
  obtain ⟨c, _, rfl⟩ := List.mem_map.1 hv
  rfl
/-- 'append(out, x)' of numbers, as one step of a region that draws its order. -/
theorem step_appendU {P : Program} {ops : Array Oper} {o : Oper} {a : Act} {w : World} {K : Act → World → Prop} {Q : Exit → Act → World → Prop} {E : Prop} (hP : P = Try.prog) (hgd : o.guard = none) (s x : Operand) (ho : o.op = .call { callee := .builtin .append, args := #[s, x], argTypes := #[28, 28] })
    (base : Nat) (A : Option Addr) (n cap : Nat) (l : List Nat) (hs : a.eval s = .slice A n cap) (hbase : base ≤ w.heap.size) (hown : OwnU w base A n cap l)
    (b y : Nat) (hx : a.eval x = .slice (some ⟨b, 0, none⟩) 1 1) (hb : w.cell? ⟨b, 0, none⟩ = some (.int .u64 (y : Int))) (hbytes : n + 1 ≤ 1000000)
    (h : ∀ A' cap' w', Hid (OwnU w' base A' (n + 1) cap' (l ++ [y])) → Hid (Only (fun k => blockOf A = some k) w w') → Hid (NewOr w (blockOf A) (blockOf A')) → K (a.put o.dst (.slice A' (n + 1) cap')) w') :
    if Region.wanted o (yielded ops a.tmps) = true then Oper.wp P o a w K Q else E := by
  subst hP
  have hw : Region.wanted o (yielded ops a.tmps) = true := by simp [Region.wanted, hgd]
  rw [if_pos hw]
  obtain ⟨i0, hi0, hz0, hz1, hz2⟩ := info_parts Try.infoU
  obtain ⟨v', w', hr, h2, h3, _, h5⟩ := run_append_own_at (P := Try.prog) w base 28 o.type 22 i0 (.int .u64 0) 1 8 Try.underlying28 hi0 hz0 hz1 hz2 rfl (by omega) (.slice A n cap) n (uv l) hown ⟨b, 0, none⟩ 1 1 (uv [y]) (by simp [uv]) (fun j u hu => by
    have hj : j = 0 ∧ u = .int .u64 (y : Int) := by
      have hj := (List.getElem?_eq_some_iff.1 hu).1
      have hj0 : j = 0 := by simpa [uv] using hj
      subst hj0
      exact ⟨rfl, by simpa [uv] using hu.symm⟩
    obtain ⟨rfl, rfl⟩ := hj
    rw [add_mk]
    exact hb) (uv_one [y]) (by unfold maxLen; omega) (by omega) hbase
  unfold Oper.wp execOp
  simp only [ho, resolve, invoke, builtin, Sem.run_bind, Sem.run_pure, Result.andThen_ok, List.map_toArray, List.map_cons, List.map_nil, hs, hx, hr]
  obtain ⟨A', cap', rfl⟩ := ownU_value h2
  rw [ownBlock_slice, ownBlock_slice] at h5
  rw [ownBlock_slice] at h3
  refine h A' cap' w' (by unfold OwnU; rw [uv_append]; exact h2) (Only.ofGrown h3) ?_
  rcases h5 with e | e
  · exact .inl e
  · exact .inr ⟨_, e, Nat.le_refl _⟩
/-- Lives do not lie in a Reader's block. -/
theorem Lives.offq {w : World} {B q : Nat} {d : Option Nat} {A : Option Addr} {l : List Life} {r : List UInt8} {bad : Bool} (h : Lives w B A l) (hR : Rd RdT w q d r bad) (hl : 0 < l.length) : ∀ bk, blockOf A = some bk → bk ≠ q := fun bk e hq => by
  obtain ⟨b', o', e', _, hc⟩ := h hl
  subst e'
  obtain rfl : b' = bk := by simpa [blockOf] using e
  subst hq
  obtain ⟨A2, c2, h1, _⟩ := hR
  have h2 := (hc 0 hl).1
  rw [cell_of_row _ _ _ _ _ (0, 0) h1] at h2
  rcases Nat.lt_or_ge (o' + 0 * 2) 2 with hlt | hge
  · have : o' + 0 * 2 = 0 ∨ o' + 0 * 2 = 1 := by omega
    rcases this with e | e <;> (rw [e] at h2; simp at h2)
  · rw [Array.getElem?_eq_none (by simpa using hge)] at h2
    cases h2
def RowG (G : Nat) (r x y : Int) (A : Option Addr) (n c : Nat) (A' : Option Addr) (m c' : Nat) (w : World) : Prop := w.heap[G]? = some (.cells #[.int .u64 r, .int .i64 x, .int .u64 y, .slice A n c, .slice A' m c'] 30 (0, 0))
theorem RowG.vbox {G : Nat} {r x y : Int} {A : Option Addr} {n c : Nat} {A' : Option Addr} {m c' : Nat} {w : World} (h : RowG G r x y A n c A' m c' w) : VBox G r x y A n c A' m c' w :=
  ⟨by simpa using cell_plain h 0, by simpa using cell_plain h 1, by simpa using cell_plain h 2, by simpa using cell_plain h 3, by simpa using cell_plain h 4⟩
theorem RowG.set4 {G : Nat} {r x y : Int} {A : Option Addr} {n c : Nat} {A' : Option Addr} {m c' : Nat} {w : World} (h : RowG G r x y A n c A' m c' w) (D : Option Addr) (l d : Nat) : RowG G r x y A n c D l d (w.setCell ⟨G, 4, none⟩ (.slice D l d)) := by
  unfold RowG at *
  simp [World.setCell, Array.getElem?_modify, h]
theorem RowG.keep {G : Nat} {r x y : Int} {A : Option Addr} {n c : Nat} {A' : Option Addr} {m c' : Nat} {w w' : World} (h : RowG G r x y A n c A' m c' w) {S : Nat → Prop} (ho : Only S w w') (hn : ¬ S G) : RowG G r x y A n c A' m c' w' := (ho.block G (lt_of_heap h) hn).trans h
theorem noV_vm (w : World) : Vm w 1000 none noV.ms.length 0 none noV.ss.length 0 noV.ms noV.ss :=
  ⟨Lives.nil_, rfl, Nat.zero_le _, fun _ => rfl, (fun q hq => by cases hq), (fun h => absurd h (by simp [noV])), rfl, Nat.zero_le _, fun _ => rfl, (fun x hx => by cases hx)⟩
set_option maxHeartbeats 8000000 in
theorem vget_any (q : Nat) (d : Option Nat) (s : RS) (w : World) (h : Rd RdT w q d s.l s.bad) (hr : s.l.length ≤ 70368744177664) :
    Calls Try.prog 33 #[.pointer (some ⟨q, 0, none⟩)] w fun e w' => ∃ A c A' c', e = .returned (vwV (getL s).1.id A (getL s).1.ms.length c A' (getL s).1.ss.length c') ∧ Hid (Vm w' 1000 A (getL s).1.ms.length c A' (getL s).1.ss.length c' (getL s).1.ms (getL s).1.ss) ∧ Hid (Rd RdT w' q d (getL s).2.l (getL s).2.bad) ∧ Hid (Only (fun k => k = q) w w') := by
  have B0 := Lib.hid (below_box w (.cells #[.int .u64 0, .int .i64 0, .int .u64 0, .slice none 0 0, .slice none 0 0] 30))
  have HQ := Lib.hid h.lt
  have h1 := Lib.hid (h.keep (S := fun _ => False) (Only.ofBelow B0.out) (fun h => h) (fun _ _ h => h))
  have HR0 : Hid (RowG w.heap.size 0 0 0 none 0 0 none 0 0 (w.alloc (.cells #[.int .u64 0, .int .i64 0, .int .u64 0, .slice none 0 0, .slice none 0 0] 30))) := Lib.hid (heap_alloc_new w _)
  have HDl := Lib.hid h.dlt
  have HRl := Lib.hid (Nat.le_trans (getIdL_le s) hr)
  have HRl2 := Lib.hid (Nat.le_trans (getSetL_le (getIdL s).2 6) HRl.out)
  have HG := Lib.hid (show getL s = if (uints (getSetL (getIdL s).2 6).1.length (getSetL (getIdL s).2 6).2).2.bad = false ∧ mayV ⟨(getIdL s).1, (getSetL (getIdL s).2 6).1, (uints (getSetL (getIdL s).2 6).1.length (getSetL (getIdL s).2 6).2).1⟩ then (⟨(getIdL s).1, (getSetL (getIdL s).2 6).1, (uints (getSetL (getIdL s).2 6).1.length (getSetL (getIdL s).2 6).2).1⟩, (uints (getSetL (getIdL s).2 6).1.length (getSetL (getIdL s).2 6).2).2) else (noV, ⟨(uints (getSetL (getIdL s).2 6).1.length (getSetL (getIdL s).2 6).2).2.l, true⟩) from rfl)
  generalize getL s = gs at *
  have HIu := Lib.hid (getIdL_uns s)
  have HMu := Lib.hid (getSetL_uns (getIdL s).2 6)
  have HMl := Lib.hid (getSetL_lt (getIdL s).2 6)
  have HH := Lib.hid hr
  clear h hr
  go_enter Try.func33, Try.ntmps33
  go_wp2_with fail
  refine (getid_any q d s _ h1.out HH.out).mono ?_
  rintro e W1 ⟨rfl, r1, o1⟩
  generalize (getIdL s).1 = id at *
  generalize (getIdL s).2 = s1 at *
  clear h1 HH
  go_wp2_with fail
  refine (getset_new q d s1 6 W1 r1.out HRl.out).mono ?_
  rintro e W2 ⟨A, c, rfl, hl2, hA2, r2, o2, hnw⟩
  generalize (getSetL s1 6).1 = ms at *
  generalize (getSetL s1 6).2 = s2 at *
  obtain ⟨r, x, y⟩ := id
  generalize hB : w.heap.size = B at *
  have HB := Lib.hid hB
  have hqB : ¬ B = q := by have := HQ.out; omega
  have o0 : Only (fun k => k = q) w (w.alloc (.cells #[.int .u64 0, .int .i64 0, .int .u64 0, .slice none 0 0, .slice none 0 0] 30)) := Only.ofBelow (by rw [← hB] at B0; exact B0.out)
  have RB2 := Lib.hid ((HR0.out.keep o1.out hqB).keep o2.out hqB)
  have HnB := Lib.hid (show ∀ bk, blockOf A = some bk → bk ≠ B from fun bk e => by have := hnw.out bk e; have := lt_of_heap (HR0.out.keep o1.out hqB); omega)
  have OO := Lib.hid (show Only (fun k => k = q) w W2 from (o0.trans o1.out fun _ _ h => h).trans o2.out fun _ _ h => h)
  have HqB := Lib.hid hqB
  clear hB o0 o1 o2 r1 HR0 B0 hqB HRl hnw
  generalize hn : ms.length = n at *
  have HN := Lib.hid hn
  clear hn
  have RG := Lib.hid (show RowG W2.heap.size r x y A n c none 0 0 (W2.alloc (.cells #[.int .u64 r, .int .i64 x, .int .u64 y, .slice A n c, .slice none 0 0] 30)) from heap_alloc_new W2 _)
  have B3 := Lib.hid (below_box W2 (.cells #[.int .u64 r, .int .i64 x, .int .u64 y, .slice A n c, .slice none 0 0] 30))
  have hsz : (W2.alloc (.cells #[.int .u64 r, .int .i64 x, .int .u64 y, .slice A n c, .slice none 0 0] 30)).heap.size = W2.heap.size + 1 := by simp
  have HSz := Lib.hid hsz
  have HBG := Lib.hid (show B < W2.heap.size from lt_of_heap RB2.out)
  have HqG := Lib.hid (show q < W2.heap.size from r2.out.lt)
  have HdG := Lib.hid (show ∀ k, d = some k → k < W2.heap.size from r2.out.dlt)
  have HLq := Lib.hid (fun hp => hl2.out.offq r2.out hp)
  have HLb := Lib.hid (fun hp => hl2.out.blk hp)
  have r3 := Lib.hid (r2.out.keep (S := fun _ => False) (Only.ofBelow B3.out) (fun h => h) (fun _ _ h => h))
  have l3 := Lib.hid (hl2.out.on B3.out)
  have RB3 := Lib.hid (RB2.out.keep (S := fun _ => False) (Only.ofBelow B3.out) (fun h => h))
  have O3 := Lib.hid (OO.out.trans (Only.ofBelow (S := fun k => k = q) B3.out) fun _ _ h => h)
  clear r2 hl2 RB2 OO B3 hsz
  obtain ⟨k0, k1, k2, k3, k4⟩ := RG.out.vbox
  go_wp2_with fail
  generalize W2.alloc (.cells #[.int .u64 r, .int .i64 x, .int .u64 y, .slice A n c, .slice none 0 0] 30) = W3 at *
  generalize hG : W2.heap.size = G at *
  clear hG k0 k1 k2 k3 k4
  have HWu := Lib.hid (show w.heap.size ≤ W3.heap.size from O3.out.size)
  go_loopw [12] (fun i wr => ∃ k A0 c0, k ≤ n ∧ i = .int .i64 (k : Nat) ∧ Hid (RowG G r x y A n c A0 k c0 wr) ∧ Hid (OwnU wr (G + 1) A0 k c0 (uints k s2).1) ∧ Hid (Rd RdT wr q d (uints k s2).2.l (uints k s2).2.bad) ∧ Hid (Only (fun k => k = q ∨ k = G) W3 wr)) (fun i _ => n - (intOf i).toNat)
  case atStart => exact ⟨0, none, 0, Nat.zero_le _, rfl, RG, Lib.hid OwnU.nil_, r3, Lib.hid (Only.refl _ _)⟩
  case round =>
    obtain ⟨k, A0, c0, hk, rfl, HX, HU, HRd0, HO⟩ := hrel
    by_cases hlt : k < n
    · have g1 : (k : Int) < (n : Int) := by omega
      have HGk := Lib.hid (show uints (k + 1) s2 = ((uints k s2).1 ++ [(rUint (uints k s2).2).1], (rUint (uints k s2).2).2) from rfl)
      have HLe := Lib.hid (Nat.le_trans (uints_le k s2) HRl2.out)
      have hk4 : k + 1 ≤ 1000000 := by have := HMl.out; have := HN.out; omega
      have HRd : Hid (Rd RdT wr.drew q d (uints k s2).2.l (uints k s2).2.bad) := HRd0
      have HXd : Hid (RowG G r x y A n c A0 k c0 wr.drew) := HX
      have HUd : Hid (OwnU wr.drew (G + 1) A0 k c0 (uints k s2).1) := HU
      have HSd : Hid (G + 1 ≤ wr.drew.heap.size) := Lib.hid (show G + 1 ≤ wr.heap.size by rw [← HSz.out]; exact HO.out.size)
      have k4 := HXd.out.vbox.2.2.2.2
      generalize (uints k s2).1 = lk at *
      generalize (uints k s2).2 = sk at *
      go_wp2_with fail
      go_region_law (first
        | (refine step_free rfl ?_; unfold Oper.wp; simp only [execOp]; go_simp; go_at_call 68; refine (uint_any q d sk _ HRd.out HLe.out).mono ?_; rintro e V1 ⟨rfl, r1, o1⟩; have X1 := Lib.hid (HXd.out.keep o1.out (fun e => by have := HqG.out; omega)); have k41 := X1.out.vbox.2.2.2.2; have k42 := fun o => cell_at_old o k41; have U1 := Lib.hid (HUd.out.keep o1.out (fun k e e2 => by have := HUd.out.base' k e; have := HqG.out; omega)); have S1 := Lib.hid (Nat.le_trans HSd.out o1.out.size))
        | (refine step_appendU rfl rfl (.tmp 15) (.tmp 18) rfl (G + 1) A0 k c0 lk rfl (Nat.le_trans S1.out (below_box _ _).size) (U1.out.on (below_box _ _)) V1.heap.size (rUint sk).1 rfl (cell_at_new V1 #[.int .u64 ((rUint sk).1 : Int)] 22 0 _ rfl) hk4 ?_; intro A6 c6 V6 e61 e62 e63; have X6 := Lib.hid ((X1.out.keep (S := fun _ => False) (Only.ofBelow (below_box _ _)) (fun h => h)).keep e62.out (fun e => by have := U1.out.base' _ e; omega)); have z6 := X6.out.vbox.2.2.2.2; have f6 := frozen_plain X6.out 4))
      all_goals
        have O7 := Lib.hid (show Only (fun k => k = G) V6 (V6.setCell ⟨G, 4, none⟩ (.slice A6 (k + 1) c6)) from (Only.refl (fun k => k = G) V6).setCell (p := ⟨G, 4, none⟩) (.inl rfl) _)
        have X7 := Lib.hid (X6.out.set4 A6 (k + 1) c6)
        have U7 := Lib.hid (e61.out.keep O7.out (fun k e e2 => by have := e61.out.base' k e; omega))
        have R7 := Lib.hid (((r1.out.keep (S := fun _ => False) (Only.ofBelow (below_box V1 (.cells #[.int .u64 ((rUint sk).1 : Int)] 22))) (fun h => h) (fun _ _ h => h)).keep e62.out (fun e => by have := U1.out.base' _ e; have := HqG.out; omega) (fun k hk e => by have := U1.out.base' _ e; have := HdG.out k hk; omega)).keep O7.out (fun e => by have := HqG.out; omega) (fun k hk e => by have := HdG.out k hk; omega))
        have Q7 := Lib.hid (show Only (fun k => k = q ∨ k = G) W3 (V6.setCell ⟨G, 4, none⟩ (.slice A6 (k + 1) c6)) from by
          have t1 : Only (fun k => k = q ∨ k = G) W3 V1 := HO.out.trans (show Only (fun k => k = q) wr V1 from ⟨o1.out.os, o1.out.tape, o1.out.output, o1.out.size, o1.out.block⟩) fun _ _ h => .inl h
          have t2 := t1.trans (Only.ofBelow (S := fun k => k = q ∨ k = G) (below_box V1 (.cells #[.int .u64 ((rUint sk).1 : Int)] 22))) fun _ _ h => h
          have t3 := t2.trans e62.out fun k hk e => by have := U1.out.base' _ e; have := HSz.out; omega
          exact t3.trans O7.out fun _ _ h => .inr h)
        clear e61 e62 e63 X6 z6 f6 X1 k41 k42 U1 S1 o1 r1 O7
        go_wp2
        go_roundw
        case rel => exact ⟨k + 1, A6, c6, by omega, by go_num, X7, Lib.hid (by rw [HGk.out]; exact U7.out), Lib.hid (by rw [HGk.out]; exact R7.out), Q7⟩
        case measure => simp [intOf]; omega
    · obtain rfl : k = n := by omega
      have g1 : ¬ (k : Int) < (k : Int) := by omega
      have HG2 := HG.out
      have HU64 := Lib.hid (uints_u64 k s2)
      have HUl := Lib.hid (uints_length k s2)
      generalize (uints k s2).1 = ss at *
      generalize (uints k s2).2 = s3 at *
      have HG3 := Lib.hid HG2
      clear HG HG2
      have O8 := Lib.hid (show Only (fun k => k = q) w wr from O3.out.trans HO.out fun k hk e => by rcases e with e | e; exact e; have := HBG.out; have := HB.out; omega)
      have b8 := Lib.hid (RB3.out.keep HO.out (fun e => by rcases e with e | e; exact HqB.out e; have := HBG.out; omega))
      have l8 : Hid (Lives wr wr.heap.size A ms) := Lib.hid (fun hp => by
        obtain ⟨b', o', e', hlt, hc⟩ := l3.out hp
        have hq := HLq.out hp b' (by rw [e']; rfl)
        have hG2 := HLb.out hp b' (by rw [e']; rfl)
        exact ⟨b', o', e', Nat.lt_of_lt_of_le hlt HO.out.size, fun j hj => ⟨(HO.out.cell (p := ⟨b', o' + j * 2, none⟩) hlt (fun e => by rcases e with e | e; exact hq e; simp only at e; omega)).trans (hc j hj).1, (HO.out.cell (p := ⟨b', o' + j * 2 + 1, none⟩) hlt (fun e => by rcases e with e | e; exact hq e; simp only at e; omega)).trans (hc j hj).2⟩⟩)
      clear O3 RB3 l3 HO RG r3
      have HVm := Lib.hid (show Vm wr 1000 A k c A0 k c0 ms ss from ⟨l8.out, HN.out, by have := HMl.out; have := HN.out; omega, hA2.out, HMu.out, HU.out.nums, HUl.out, by have := HMl.out; have := HN.out; omega, HU.out.none_cap, HU64.out⟩)
      obtain ⟨k0, k1, k2, k3, k4⟩ := HX.out.vbox
      cases hbad : s3.bad with
      | true =>
        have hgs : gs = (noV, ⟨s3.l, true⟩) := by rw [HG3.out, if_neg (by rw [hbad]; simp)]
        have r8 : Hid (Rd RdT wr q d s3.l true) := Lib.hid (by rw [← hbad]; exact HRd0.out)
        subst hgs
        go_wp2_with fail
        refine (err_bad q d s3.l wr r8.out).mono ?_
        rintro e W8 ⟨rfl, rfl⟩
        go_wp2_with fail
        refine (fail_any q d s3.l s3.bad wr HRd0.out).mono ?_
        rintro e W9 ⟨rfl, r9, o9⟩
        have b9 := Lib.hid (b8.out.keep o9.out HqB.out)
        have z0 : W9.cell? ⟨B, 0, none⟩ = some (.int .u64 0) := by simpa using cell_plain b9.out 0
        have z1 : W9.cell? ⟨B, 1, none⟩ = some (.int .i64 0) := by simpa using cell_plain b9.out 1
        have z2 : W9.cell? ⟨B, 2, none⟩ = some (.int .u64 0) := by simpa using cell_plain b9.out 2
        have z3 : W9.cell? ⟨B, 3, none⟩ = some (.slice none 0 0) := by simpa using cell_plain b9.out 3
        have z4 : W9.cell? ⟨B, 4, none⟩ = some (.slice none 0 0) := by simpa using cell_plain b9.out 4
        have f0 : W9.frozen? ⟨B, 0, none⟩ = false := frozen_plain b9.out 0
        have f1 : W9.frozen? ⟨B, 1, none⟩ = false := frozen_plain b9.out 1
        have f2 : W9.frozen? ⟨B, 2, none⟩ = false := frozen_plain b9.out 2
        have f3 : W9.frozen? ⟨B, 3, none⟩ = false := frozen_plain b9.out 3
        have f4 : W9.frozen? ⟨B, 4, none⟩ = false := frozen_plain b9.out 4
        have O5 := Lib.hid (only_five W9 B (.int .u64 0) (.int .i64 0) (.int .u64 0) (.slice none 0 0) (.slice none 0 0))
        go_wp2
        have HF := set_five b9.out (.int .u64 0) (.int .i64 0) (.int .u64 0) (.slice none 0 0) (.slice none 0 0)
        (try simp only [Exit.inBlock, Exit.then])
        refine bodyPost_ret (results_cell_row rfl _ _ B 30 #[.int .u64 0, .int .i64 0, .int .u64 0, .slice none 0 0, .slice none 0 0] (0, 0) _ rfl HF Try.underlying30 rfl (by kernel_rfl)) rfl ?_
        exact ⟨none, 0, none, 0, rfl, Lib.hid (noV_vm _), Lib.hid (r9.out.keep (S := fun k => k = B) O5.out (fun e => HqB.out e.symm) (fun k e e2 => by have := HDl.out k e; have := HB.out; omega)), Lib.hid ((O8.out.trans o9.out fun _ _ h => h).trans O5.out fun k hk e => by have := HB.out; omega)⟩
      | false =>
        have r8 : Hid (Rd RdT wr q d s3.l false) := Lib.hid (by rw [← hbad]; exact HRd0.out)
        have HMay := Lib.hid (vmay_any (r, (x, y)) ⟨HIu.out.2.1, HIu.out.2.2⟩ A k c A0 k c0 ms ss wr HVm.out (by omega))
        go_wp2_with fail
        refine (err_ok q d s3.l wr r8.out).mono ?_
        rintro e W8 ⟨rfl, rfl⟩
        by_cases hm : mayV ⟨(r, (x, y)), ms, ss⟩
        · have hgs : gs = (⟨(r, (x, y)), ms, ss⟩, s3) := by rw [HG3.out, if_pos ⟨hbad, hm⟩]
          subst hgs
          rw [decide_eq_true hm] at HMay
          clear hm HG3
          go_wp2_with fail
          refine HMay.out.mono ?_
          rintro e W9 ⟨rfl, hb9⟩
          have b9 := Lib.hid (b8.out.keep (S := fun _ => False) (Only.ofBelow hb9.out) (fun h => h))
          have X9 := Lib.hid (HX.out.keep (S := fun _ => False) (Only.ofBelow hb9.out) (fun h => h))
          have V9 := Lib.hid (HVm.out.on hb9.out)
          have U9 := Lib.hid (HU.out.on hb9.out)
          have r9 := Lib.hid (HRd0.out.keep (S := fun _ => False) (Only.ofBelow hb9.out) (fun h => h) (fun _ _ h => h))
          have O9 := Lib.hid (O8.out.trans (Only.ofBelow (S := fun k => k = q) hb9.out) fun _ _ h => h)
          clear k0 k1 k2 k3 k4 HMay hb9 HX b8 HVm O8 HRd0 r8 l8
          obtain ⟨k0, k1, k2, k3, k4⟩ := X9.out.vbox
          have z0 : W9.cell? ⟨B, 0, none⟩ = some (.int .u64 0) := by simpa using cell_plain b9.out 0
          have z1 : W9.cell? ⟨B, 1, none⟩ = some (.int .i64 0) := by simpa using cell_plain b9.out 1
          have z2 : W9.cell? ⟨B, 2, none⟩ = some (.int .u64 0) := by simpa using cell_plain b9.out 2
          have z3 : W9.cell? ⟨B, 3, none⟩ = some (.slice none 0 0) := by simpa using cell_plain b9.out 3
          have z4 : W9.cell? ⟨B, 4, none⟩ = some (.slice none 0 0) := by simpa using cell_plain b9.out 4
          have f0 : W9.frozen? ⟨B, 0, none⟩ = false := frozen_plain b9.out 0
          have f1 : W9.frozen? ⟨B, 1, none⟩ = false := frozen_plain b9.out 1
          have f2 : W9.frozen? ⟨B, 2, none⟩ = false := frozen_plain b9.out 2
          have f3 : W9.frozen? ⟨B, 3, none⟩ = false := frozen_plain b9.out 3
          have f4 : W9.frozen? ⟨B, 4, none⟩ = false := frozen_plain b9.out 4
          have O5 := Lib.hid (only_five W9 B (.int .u64 r) (.int .i64 x) (.int .u64 y) (.slice A k c) (.slice A0 k c0))
          go_wp2
          have HF := set_five b9.out (.int .u64 r) (.int .i64 x) (.int .u64 y) (.slice A k c) (.slice A0 k c0)
          (try simp only [Exit.inBlock, Exit.then])
          refine bodyPost_ret (results_cell_row rfl _ _ B 30 #[.int .u64 r, .int .i64 x, .int .u64 y, .slice A k c, .slice A0 k c0] (0, 0) _ rfl HF Try.underlying30 rfl (by kernel_rfl)) rfl ?_
          have hUB := fun k e => U9.out.base' k e
          have r9f : Rd RdT W9 q d s3.l false := by rw [← hbad]; exact r9.out
          refine ⟨A, c, A0, c0, by simp only [HN.out, HUl.out], Lib.hid ?_, Lib.hid (r9f.keep (S := fun k => k = B) O5.out (fun e => HqB.out e.symm) (fun k e e2 => by have := HDl.out k e; have := HB.out; omega)), Lib.hid (O9.out.trans O5.out fun k hk e => by have := HB.out; omega)⟩
          simp only [HN.out, HUl.out]
          exact ⟨V9.out.lives.only2 O5.out (fun _ bk e => HnB.out bk e), V9.out.len, V9.out.le, V9.out.cap, V9.out.uns, V9.out.nums.only2 O5.out (fun _ bk e => by have := hUB bk e; have := HBG.out; omega), V9.out.slen, V9.out.sle, V9.out.scap, V9.out.u64⟩
        · have hgs : gs = (noV, ⟨s3.l, true⟩) := by rw [HG3.out, if_neg (fun h => hm h.2)]
          subst hgs
          rw [decide_eq_false hm] at HMay
          clear hm HG3
          go_wp2_with fail
          refine HMay.out.mono ?_
          rintro e W9 ⟨rfl, hb9⟩
          have b10 := Lib.hid (b8.out.keep (S := fun _ => False) (Only.ofBelow hb9.out) (fun h => h))
          have r10 := Lib.hid (HRd0.out.keep (S := fun _ => False) (Only.ofBelow hb9.out) (fun h => h) (fun _ _ h => h))
          have O10 := Lib.hid (O8.out.trans (Only.ofBelow (S := fun k => k = q) hb9.out) fun _ _ h => h)
          clear k0 k1 k2 k3 k4 HMay hb9 HX b8 HVm O8 HRd0 r8 l8
          rename World => W10
          go_wp2_with fail
          refine (fail_any q d s3.l s3.bad W10 r10.out).mono ?_
          rintro e W9 ⟨rfl, r9, o9⟩
          have b9 := Lib.hid (b10.out.keep o9.out HqB.out)
          have z0 : W9.cell? ⟨B, 0, none⟩ = some (.int .u64 0) := by simpa using cell_plain b9.out 0
          have z1 : W9.cell? ⟨B, 1, none⟩ = some (.int .i64 0) := by simpa using cell_plain b9.out 1
          have z2 : W9.cell? ⟨B, 2, none⟩ = some (.int .u64 0) := by simpa using cell_plain b9.out 2
          have z3 : W9.cell? ⟨B, 3, none⟩ = some (.slice none 0 0) := by simpa using cell_plain b9.out 3
          have z4 : W9.cell? ⟨B, 4, none⟩ = some (.slice none 0 0) := by simpa using cell_plain b9.out 4
          have f0 : W9.frozen? ⟨B, 0, none⟩ = false := frozen_plain b9.out 0
          have f1 : W9.frozen? ⟨B, 1, none⟩ = false := frozen_plain b9.out 1
          have f2 : W9.frozen? ⟨B, 2, none⟩ = false := frozen_plain b9.out 2
          have f3 : W9.frozen? ⟨B, 3, none⟩ = false := frozen_plain b9.out 3
          have f4 : W9.frozen? ⟨B, 4, none⟩ = false := frozen_plain b9.out 4
          have O5 := Lib.hid (only_five W9 B (.int .u64 0) (.int .i64 0) (.int .u64 0) (.slice none 0 0) (.slice none 0 0))
          go_wp2
          have HF := set_five b9.out (.int .u64 0) (.int .i64 0) (.int .u64 0) (.slice none 0 0) (.slice none 0 0)
          (try simp only [Exit.inBlock, Exit.then])
          refine bodyPost_ret (results_cell_row rfl _ _ B 30 #[.int .u64 0, .int .i64 0, .int .u64 0, .slice none 0 0, .slice none 0 0] (0, 0) _ rfl HF Try.underlying30 rfl (by kernel_rfl)) rfl ?_
          exact ⟨none, 0, none, 0, rfl, Lib.hid (noV_vm _), Lib.hid (r9.out.keep (S := fun k => k = B) O5.out (fun e => HqB.out e.symm) (fun k e e2 => by have := HDl.out k e; have := HB.out; omega)), Lib.hid ((O10.out.trans o9.out fun _ _ h => h).trans O5.out fun k hk e => by have := HB.out; omega)⟩
end Go.Proofs.Ytgkldjolnbnehaa
