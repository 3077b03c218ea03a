/-
  Views as values: names and their order, the first view, which names and views may be; nodes that are apart. No condition; nothing here speaks of a program.
-/
import Derived.Test.YtgkldjolnbnehaaGc
import Derived.Test.YtgkldjolnbnehaaGb
import Derived.Lib.QuietBelow
import Derived.Test.YtgkldjolnbnehaaGd
import Derived.Deep.Strs
namespace Go.Proofs.Ytgkldjolnbnehaa
open Go.RowKit

/-- A view's name: its round, and its life. -/
abbrev Nm := Int × Life
def cmpNm (i j : Nm) : Int := if cmpI i.1 j.1 = 0 then cmpL i.2 j.2 else cmpI i.1 j.1
def mayNm (i : Nm) : Prop := mayL i.2 ∧ (i.1 = 0 ∨ i.2.1 ≤ 4)
instance (i : Nm) : Decidable (mayNm i) := inferInstanceAs (Decidable (_ ∧ _))
/-- A view: its name, its members, their starts. -/
structure Vw where
  id : Nm
  ms : List Life
  ss : List Nat
  deriving DecidableEq
def firstV (p : Life) : Vw := ⟨(0, p), [p], [0]⟩
/-- No node twice. -/
def apart (l : List Life) : Prop := ∀ i, i < l.length → ∀ j, j < i → (atL l j).1 ≠ (atL l i).1
instance (l : List Life) : Decidable (apart l) := inferInstanceAs (Decidable (∀ i, i < l.length → ∀ j, j < i → _))
/-- A view that servers agreed on. -/
def agreed (v : Vw) : Prop := mayNm v.id ∧ 1 ≤ v.ms.length ∧ v.ms.length ≤ 6 ∧ isSet v.ms ∧ apart v.ms ∧ v.ss.length = v.ms.length ∧ 0 ∉ v.ss
instance (v : Vw) : Decidable (agreed v) := inferInstanceAs (Decidable (_ ∧ _ ∧ _ ∧ _ ∧ _ ∧ _ ∧ _))
def mayV (v : Vw) : Prop := if v.id.1 = 0 then mayL v.id.2 ∧ v = firstV v.id.2 else agreed v
instance (v : Vw) : Decidable (mayV v) := inferInstanceAs (Decidable (if v.id.1 = 0 then mayL v.id.2 ∧ v = firstV v.id.2 else agreed v))

theorem cmpI_zero (x y : Int) : cmpI x y = 0 ↔ x = y := by unfold cmpI; split <;> (try split) <;> omega
theorem cmpI_lt (x y : Int) : cmpI x y < 0 ↔ x < y := by unfold cmpI; split <;> (try split) <;> omega
theorem cmpI_neg (x y : Int) : cmpI y x = - cmpI x y := by unfold cmpI; split <;> split <;> (try split) <;> omega
theorem cmpI_range (x y : Int) : cmpI x y = -1 ∨ cmpI x y = 0 ∨ cmpI x y = 1 := by unfold cmpI; split <;> (try split) <;> omega
def beforeNm (i j : Nm) : Prop := i.1 < j.1 ∨ (i.1 = j.1 ∧ before i.2 j.2)
theorem cmpNm_lt (i j : Nm) : cmpNm i j < 0 ↔ beforeNm i j := by
  unfold cmpNm beforeNm
  split
  · rename_i h
    rw [cmpL_lt]
    have := (cmpI_zero _ _).1 h
    constructor
    · exact fun k => .inr ⟨this, k⟩
    · rintro (k | k)
      · omega
      · exact k.2
  · rename_i h
    rw [cmpI_lt]
    have : i.1 ≠ j.1 := fun e => h ((cmpI_zero _ _).2 e)
    constructor
    · exact fun k => .inl k
    · rintro (k | k)
      · exact k
      · exact absurd k.1 this
theorem cmpNm_zero (i j : Nm) : cmpNm i j = 0 ↔ i = j := by
  obtain ⟨i1, i2⟩ := i
  obtain ⟨j1, j2⟩ := j
  unfold cmpNm
  simp only
  split
  · rename_i h
    have := (cmpI_zero _ _).1 h
    rw [cmpL_zero]
    constructor
    · rintro rfl; rw [this]
    · intro k; exact (Prod.mk.inj k).2
  · rename_i h
    have : i1 ≠ j1 := fun e => h ((cmpI_zero _ _).2 e)
    rw [cmpI_zero]
    exact ⟨fun k => absurd k this, fun k => absurd (Prod.mk.inj k).1 this⟩
theorem cmpNm_neg (i j : Nm) : cmpNm j i = - cmpNm i j := by
  unfold cmpNm
  rw [cmpI_neg i.1 j.1, cmpL_neg i.2 j.2]
  split <;> split <;> omega
theorem cmpNm_range (i j : Nm) : cmpNm i j = -1 ∨ cmpNm i j = 0 ∨ cmpNm i j = 1 := by
  unfold cmpNm
  split
  · exact cmpL_range _ _
  · exact cmpI_range _ _
theorem beforeNm_trans {i j k : Nm} (h : beforeNm i j) (g : beforeNm j k) : beforeNm i k := by
  unfold beforeNm at *
  rcases h with h | ⟨h, h'⟩ <;> rcases g with g | ⟨g, g'⟩
  · exact .inl (by omega)
  · exact .inl (by omega)
  · exact .inl (by omega)
  · exact .inr ⟨by omega, before_trans h' g'⟩

/-! Nodes that are apart, of lists that are sets. -/
theorem rising_set {l : List Life} (h : isSet l) : Rising l := by
  have key : ∀ d i, i + d + 1 < l.length → before (atL l i) (atL l (i + d + 1)) := by
    intro d
    induction d with
    | zero => intro i hi; have := (h (i + 1) (by omega)).2 (by omega); simpa using this
    | succ d ih =>
      intro i hi
      have h1 := ih i (by omega)
      have h2 := (h (i + (d + 1) + 1) hi).2 (by omega)
      exact before_trans h1 (by simpa [Nat.add_assoc] using h2)
  refine List.pairwise_iff_getElem.2 fun i j hi hj hij => ?_
  have := key (j - i - 1) i (by omega)
  rw [show i + (j - i - 1) + 1 = j by omega, atL_lt hi, atL_lt hj] at this
  exact this
theorem nodes_length (l : List Life) (h : isSet l) : (nodesL l).length = l.length ↔ apart l := by
  have hs : setL l = l := setL_self (rising_set h)
  unfold nodesL
  rw [hs]
  have hd : ∀ k, k < l.length → (l.map (·.1)).toArray[k]! = (atL l k).1 := fun k hk => by
    rw [atL_lt hk]
    simp [hk]
  unfold Lib.compactUpTo
  rw [List.length_map]
  have hlen : (List.range l.length).length = l.length := List.length_range
  have e : ((List.range l.length).filter (Lib.keeps (l.map (·.1)).toArray)).length = l.length ↔ ∀ k, k < l.length → Lib.keeps (l.map (·.1)).toArray k = true := by
    have := @List.length_filter_eq_length_iff _ (Lib.keeps (l.map (·.1)).toArray) (List.range l.length)
    rw [hlen] at this
    rw [this]
    exact ⟨fun g k hk => g k (List.mem_range.2 hk), fun g k hk => g k (List.mem_range.1 hk)⟩
  rw [e]
  have hk : ∀ k, k < l.length → (Lib.keeps (l.map (·.1)).toArray k = true ↔ k = 0 ∨ (atL l k).1 ≠ (atL l (k - 1)).1) := fun k hk => by
    unfold Lib.keeps
    rw [decide_eq_true_iff, hd k hk, hd (k - 1) (by omega)]
  constructor
  · intro g
    have step : ∀ k, k + 1 < l.length → (atL l k).1 < (atL l (k + 1)).1 := fun k hk1 => by
      have h1 := (h (k + 1) hk1).2 (by omega)
      have h2 := (hk (k + 1) hk1).1 (g (k + 1) hk1)
      simp only [Nat.add_sub_cancel] at h1 h2
      unfold before at h1
      rcases h2 with h2 | h2
      · omega
      · omega
    have key : ∀ d i, i + d + 1 < l.length → (atL l i).1 < (atL l (i + d + 1)).1 := by
      intro d
      induction d with
      | zero => intro i hi; exact step i hi
      | succ d ih =>
        intro i hi
        have h1 := ih i (by omega)
        have h2 := step (i + d + 1) (by omega)
        rw [show i + (d + 1) + 1 = i + d + 1 + 1 by omega]
        omega
    intro i hi j hj
    have := key (i - j - 1) j (by omega)
    rw [show j + (i - j - 1) + 1 = i by omega] at this
    omega
  · intro g k hk1
    rw [hk k hk1]
    by_cases h0 : k = 0
    · exact .inl h0
    · exact .inr (g k hk1 (k - 1) (by omega)).symm
end Go.Proofs.Ytgkldjolnbnehaa
/-
  Views in memory: a view by value, a view in a box, the lists that it holds. No condition.
-/
namespace Go.Proofs.Ytgkldjolnbnehaa
set_option maxRecDepth 20000
open Go.RowKit

/-- A name's three cells. -/
abbrev nmC (i : Nm) : Array Value := #[.int .u64 i.1, .int .i64 i.2.1, .int .u64 i.2.2]
/-- A name, by value. -/
abbrev nmV (i : Nm) : Value := .agg (nmC i)
/-- A view's five cells. -/
abbrev vwC (i : Nm) (A : Option Addr) (n c : Nat) (A' : Option Addr) (m c' : Nat) : Array Value := #[.int .u64 i.1, .int .i64 i.2.1, .int .u64 i.2.2, .slice A n c, .slice A' m c']
/-- A view, by value. -/
abbrev vwV (i : Nm) (A : Option Addr) (n c : Nat) (A' : Option Addr) (m c' : Nat) : Value := .agg (vwC i A n c A' m c')
/-- A view in a block. -/
def VBox (b : Nat) (r x y : Int) (A : Option Addr) (n c : Nat) (A' : Option Addr) (m c' : Nat) (w : World) : Prop :=
  w.cell? ⟨b, 0, none⟩ = some (.int .u64 r) ∧ w.cell? ⟨b, 1, none⟩ = some (.int .i64 x) ∧ w.cell? ⟨b, 2, none⟩ = some (.int .u64 y) ∧ w.cell? ⟨b, 3, none⟩ = some (.slice A n c) ∧ w.cell? ⟨b, 4, none⟩ = some (.slice A' m c')
theorem VBox.below {b : Nat} {r x y : Int} {A : Option Addr} {n c : Nat} {A' : Option Addr} {m c' : Nat} {w w' : World} (h : VBox b r x y A n c A' m c' w) (hb : Below w.heap.size w w') : VBox b r x y A n c A' m c' w' :=
  ⟨cell_below h.1 hb, cell_below h.2.1 hb, cell_below h.2.2.1 hb, cell_below h.2.2.2.1 hb, cell_below h.2.2.2.2 hb⟩
theorem vbox_new (w : World) (r x y : Int) (A : Option Addr) (n c : Nat) (A' : Option Addr) (m c' : Nat) (t : TypeId) :
    VBox w.heap.size r x y A n c A' m c' (w.alloc (.cells #[.int .u64 r, .int .i64 x, .int .u64 y, .slice A n c, .slice A' m c'] t)) :=
  ⟨cell_at_new w _ _ 0 _ rfl, cell_at_new w _ _ 1 _ rfl, cell_at_new w _ _ 2 _ rfl, cell_at_new w _ _ 3 _ rfl, cell_at_new w _ _ 4 _ rfl⟩
/-- A name in a block. -/
def NBox (b : Nat) (r x y : Int) (w : World) : Prop := w.cell? ⟨b, 0, none⟩ = some (.int .u64 r) ∧ w.cell? ⟨b, 1, none⟩ = some (.int .i64 x) ∧ w.cell? ⟨b, 2, none⟩ = some (.int .u64 y)
theorem NBox.below {b : Nat} {r x y : Int} {w w' : World} (h : NBox b r x y w) (hb : Below w.heap.size w w') : NBox b r x y w' := ⟨cell_below h.1 hb, cell_below h.2.1 hb, cell_below h.2.2 hb⟩
theorem nbox_new (w : World) (r x y : Int) (t : TypeId) : NBox w.heap.size r x y (w.alloc (.cells #[.int .u64 r, .int .i64 x, .int .u64 y] t)) := ⟨cell_at_new w _ _ 0 _ rfl, cell_at_new w _ _ 1 _ rfl, cell_at_new w _ _ 2 _ rfl⟩
theorem VBox.nbox {b : Nat} {r x y : Int} {A : Option Addr} {n c : Nat} {A' : Option Addr} {m c' : Nat} {w : World} (h : VBox b r x y A n c A' m c' w) : NBox b r x y w := ⟨h.1, h.2.1, h.2.2.1⟩
theorem below_box (w : World) (o : Obj) : Below w.heap.size w (w.alloc o) := (Below.refl w.heap.size w).alloc (Nat.le_refl _) o
theorem drew_bl {w W : World} (h : Below w.heap.size w W) : Below w.heap.size w W.drew := ⟨h.os, h.tape, h.output, h.size, h.block⟩

/-- Members and starts that are there: at most N, with unsigned numbers. -/
structure Vm (W : World) (N : Nat) (A : Option Addr) (n c : Nat) (A' : Option Addr) (m c' : Nat) (ms : List Life) (ss : List Nat) : Prop where
  lives : Lives W W.heap.size A ms
  len : ms.length = n
  le : n ≤ N
  cap : A = none → c = 0
  uns : ∀ q ∈ ms, 0 ≤ q.2 ∧ q.2 < 18446744073709551616
  nums : Nums W W.heap.size A' ss
  slen : ss.length = m
  sle : m ≤ N
  scap : A' = none → c' = 0
  u64 : AllU64 ss
theorem Nums.on {w w' : World} {A : Option Addr} {ns : List Nat} (h : Nums w w.heap.size A ns) (hb : Below w.heap.size w w') : Nums w' w'.heap.size A ns := (h.below hb).more hb.size
theorem Vm.on {W W' : World} {N n c m c' : Nat} {A A' : Option Addr} {ms : List Life} {ss : List Nat} (h : Vm W N A n c A' m c' ms ss) (hb : Below W.heap.size W W') : Vm W' N A n c A' m c' ms ss :=
  ⟨h.lives.on hb, h.len, h.le, h.cap, h.uns, h.nums.on hb, h.slen, h.sle, h.scap, h.u64⟩
theorem Vm.more {W : World} {N N' n c m c' : Nat} {A A' : Option Addr} {ms : List Life} {ss : List Nat} (h : Vm W N A n c A' m c' ms ss) (hN : N ≤ N') : Vm W N' A n c A' m c' ms ss :=
  ⟨h.lives, h.len, Nat.le_trans h.le hN, h.cap, h.uns, h.nums, h.slen, Nat.le_trans h.sle hN, h.scap, h.u64⟩
theorem Vm.pos {W : World} {N n c m c' : Nat} {A A' : Option Addr} {ms : List Life} {ss : List Nat} (h : Vm W N A n c A' m c' ms ss) : ∀ q ∈ ms, 0 ≤ q.2 := fun q hq => (h.uns q hq).1
/-- A number in a block of its own. -/
theorem nums_one (w : World) (a : Nat) : Nums (w.alloc (.cells #[.int .u64 (a : Int)] 22)) (w.alloc (.cells #[.int .u64 (a : Int)] 22)).heap.size (some ⟨w.heap.size, 0, none⟩) [a] := fun _ => by
  refine ⟨_, 0, rfl, by simp, fun k hk => ?_⟩
  rw [cell_of_row _ _ _ _ _ (0, 0) (heap_alloc_new w _)]
  obtain rfl : k = 0 := by simpa using hk
  rfl
end Go.Proofs.Ytgkldjolnbnehaa
/-
  The program's '==' at two names, and '!='. No condition.
-/
namespace Go.Proofs.Ytgkldjolnbnehaa
set_option maxRecDepth 20000
open Go.RowKit Go.Sort

theorem eqN : EqlAt Try.prog 26 (fun x : Nm => nmV x) (fun x y => decide (x = y)) := by
  refine ⟨fun x y w => ?_, GuardAt.agg _ (by kernel_rfl)⟩
  have u3 := Try.underlying3
  have a3 := Try.isAgg3
  have z3 := Try.sizeOf3
  have u29 := Try.underlying22
  have a29 := Try.isAgg22
  have z29 := Try.sizeOf22
  have uP := Try.underlying24
  have aP := Try.isAgg24
  have zP := Try.sizeOf24
  have hS : Try.prog.underlying 26 = some (.struct (Try.prog.fieldsOf 26)) := by kernel_rfl
  have hp : Try.prog.stoodInHeld 26 = false := by kernel_rfl
  have hSP : Try.prog.underlying 24 = some (.struct (Try.prog.fieldsOf 24)) := by kernel_rfl
  have hpP : Try.prog.stoodInHeld 24 = false := by kernel_rfl
  obtain ⟨x0, x1, x2⟩ := x
  obtain ⟨y0, y1, y2⟩ := y
  rw [run_eql_struct, show (10000 : Nat) = 9999 + 1 from rfl, run_equalIn_agg w 9999 26 _ _ hS hp]
  simp only [Program.fieldsOf, Try.underlying26]
  go_simp
  by_cases h0 : x0 = y0 <;> by_cases h1 : x1 = y1 <;> by_cases h2 : x2 = y2 <;> simp [h0, h1, h2]
theorem neN : NeqAt Try.prog 26 (fun x : Nm => nmV x) (fun x y => decide (x = y)) := by
  refine ⟨fun x y w => ?_, GuardAt.agg _ (by kernel_rfl)⟩
  have h := eqN.1 x y w
  have hS : Try.prog.underlying 26 = some (.struct (Try.prog.fieldsOf 26)) := by kernel_rfl
  rw [run_eql_struct] at h
  rw [run_neq_struct]
  cases hr : (Op.equalIn 10000 26 (nmV x) (nmV y)).run Try.prog w with
  | ok b w' =>
    rw [hr] at h
    simp only [Result.andThen] at h ⊢
    obtain ⟨h1, rfl⟩ : b = decide (x = y) ∧ w' = w := by simpa using h
    rw [h1]
  | _ => rw [hr] at h; simp [Result.andThen] at h
theorem eqn_run (x0 x1 x2 y0 y1 y2 : Int) (w : World) : Sem.run Try.prog (binOp .eql 26 (.agg #[.int .u64 x0, .int .i64 x1, .int .u64 x2]) (.agg #[.int .u64 y0, .int .i64 y1, .int .u64 y2])) w = .ok (.bool (decide (((x0, (x1, x2)) : Nm) = (y0, (y1, y2))))) w := eqN.1 (x0, (x1, x2)) (y0, (y1, y2)) w
theorem nen_run (x0 x1 x2 y0 y1 y2 : Int) (w : World) : Sem.run Try.prog (binOp .neq 26 (.agg #[.int .u64 x0, .int .i64 x1, .int .u64 x2]) (.agg #[.int .u64 y0, .int .i64 y1, .int .u64 y2])) w = .ok (.bool (!decide (((x0, (x1, x2)) : Nm) = (y0, (y1, y2))))) w := neN.1 (x0, (x1, x2)) (y0, (y1, y2)) w
theorem guardn_run (op : BinOp) (a b : Operand) (x0 x1 x2 y0 y1 y2 : Int) (w : World) : Sem.run Try.prog (eqGuard op 26 a b (.agg #[.int .u64 x0, .int .i64 x1, .int .u64 x2]) (.agg #[.int .u64 y0, .int .i64 y1, .int .u64 y2])) w = .ok () w := eqN.2 op a b (x0, (x1, x2)) (y0, (y1, y2)) w
end Go.Proofs.Ytgkldjolnbnehaa
/-
  Names: whether one may be, and how two stand, by the program and by the document's answer. For names whose numbers are not below 0.
-/
namespace Go.Proofs.Ytgkldjolnbnehaa
set_option maxRecDepth 20000
open Go.RowKit

theorem mayNm_iff (r x y : Int) : mayNm (r, (x, y)) ↔ mayL (x, y) ∧ (r = 0 ∨ x ≤ 4) := Iff.rfl
set_option maxHeartbeats 2000000 in
theorem mayid_any (i : Nm) (hp : 0 ≤ i.2.2) (w : World) : Calls Try.prog 14 #[nmV i] w fun e w' => e = .returned (.bool (decide (mayNm i))) ∧ Hid (Below w.heap.size w w') := by
  obtain ⟨r, x, y⟩ := i
  simp only at hp
  have HM := Lib.hid (fun W => may_any (x, y) hp W)
  have HI := Lib.hid (mayNm_iff r x y)
  have HB := Lib.hid (nbox_new w r x y 26)
  have B1 := Lib.hid (below_box w (.cells #[.int .u64 r, .int .i64 x, .int .u64 y] 26))
  generalize hd : decide (mayNm (r, (x, y))) = d
  have HD := Lib.hid hd
  clear hd
  go_enter Try.func14, Try.ntmps14
  obtain ⟨k0, k1, k2⟩ := HB.out
  go_wp2_with fail
  generalize w.alloc (.cells #[.int .u64 r, .int .i64 x, .int .u64 y] 26) = W1 at *
  generalize hb : w.heap.size = b at k0 k1 k2 ⊢
  have HBB := Lib.hid hb
  clear hb
  refine (HM.out W1).mono ?_
  rintro e W2 ⟨rfl, hb2⟩
  have m0 := cell_below k0 hb2.out
  have m1 := cell_below k1 hb2.out
  have BW := Lib.hid (btr B1.out hb2.out)
  clear HB B1 hb2 k0 k1 k2 HM
  by_cases hm : mayL (x, y)
  · rw [decide_eq_true hm]
    by_cases h0 : r = 0
    · have : d = true := by rw [← HD.out]; exact decide_eq_true (HI.out.2 ⟨hm, .inl h0⟩)
      subst this h0
      clear hm HI HD
      go_wp2
      go_ret
      exact ⟨rfl, BW⟩
    · have h00 : (r == 0) = false := by simp [h0]
      by_cases h4 : x ≤ 4
      · have : d = true := by rw [← HD.out]; exact decide_eq_true (HI.out.2 ⟨hm, .inr h4⟩)
        subst this
        clear hm HI HD
        go_wp2
        go_ret
        exact ⟨rfl, BW⟩
      · have : d = false := by rw [← HD.out]; exact decide_eq_false (fun h => by rcases (HI.out.1 h).2 with h | h; exact h0 h; exact h4 h)
        subst this
        have h40 : decide (x ≤ 4) = false := decide_eq_false h4
        clear hm HI HD
        go_wp2
        go_ret
        exact ⟨by first | rfl | exact congrArg (fun b => Ending.returned (.bool b)) h40, BW⟩
  · rw [decide_eq_false hm]
    have : d = false := by rw [← HD.out]; exact decide_eq_false (fun h => hm (HI.out.1 h).1)
    subst this
    clear hm HI HD
    go_wp2
    go_ret
    exact ⟨rfl, BW⟩
set_option maxHeartbeats 2000000 in
theorem rmayid_any (i : Nm) (hp : 0 ≤ i.2.2) (w : World) : Calls Try.prog 15 #[nmV i] w fun e w' => e = .returned (.bool (decide (mayNm i))) ∧ Hid (Below w.heap.size w w') := by
  obtain ⟨r, x, y⟩ := i
  simp only at hp
  have HM := Lib.hid (fun W => rmay_any (x, y) hp W)
  have HI := Lib.hid (mayNm_iff r x y)
  have HB := Lib.hid (nbox_new w r x y 26)
  have B1 := Lib.hid (below_box w (.cells #[.int .u64 r, .int .i64 x, .int .u64 y] 26))
  generalize hd : decide (mayNm (r, (x, y))) = d
  have HD := Lib.hid hd
  clear hd
  go_enter Try.func15, Try.ntmps15
  obtain ⟨k0, k1, k2⟩ := HB.out
  go_wp2_with fail
  generalize w.alloc (.cells #[.int .u64 r, .int .i64 x, .int .u64 y] 26) = W1 at *
  generalize hb : w.heap.size = b at k0 k1 k2 ⊢
  have HBB := Lib.hid hb
  clear hb
  refine (HM.out W1).mono ?_
  rintro e W2 ⟨rfl, hb2⟩
  have m0 := cell_below k0 hb2.out
  have m1 := cell_below k1 hb2.out
  have BW := Lib.hid (btr B1.out hb2.out)
  clear HB B1 hb2 k0 k1 k2 HM
  by_cases hm : mayL (x, y)
  · rw [decide_eq_true hm]
    by_cases h0 : r = 0
    · have : d = true := by rw [← HD.out]; exact decide_eq_true (HI.out.2 ⟨hm, .inl h0⟩)
      subst this h0
      clear hm HI HD
      go_wp2
      go_ret
      exact ⟨rfl, BW⟩
    · have h00 : (r == 0) = false := by simp [h0]
      by_cases h4 : x ≤ 4
      · have : d = true := by rw [← HD.out]; exact decide_eq_true (HI.out.2 ⟨hm, .inr h4⟩)
        subst this
        clear hm HI HD
        go_wp2
        go_ret
        exact ⟨rfl, BW⟩
      · have : d = false := by rw [← HD.out]; exact decide_eq_false (fun h => by rcases (HI.out.1 h).2 with h | h; exact h0 h; exact h4 h)
        subst this
        have h40 : decide (x ≤ 4) = false := decide_eq_false h4
        clear hm HI HD
        go_wp2
        go_ret
        exact ⟨by first | rfl | exact congrArg (fun b => Ending.returned (.bool b)) h40, BW⟩
  · rw [decide_eq_false hm]
    have : d = false := by rw [← HD.out]; exact decide_eq_false (fun h => hm (HI.out.1 h).1)
    subst this
    clear hm HI HD
    go_wp2
    go_ret
    exact ⟨rfl, BW⟩
/-- Two names side by side. -/
def Two2 (b : Nat) (i j : Nm) (w : World) : Prop := NBox b i.1 i.2.1 i.2.2 w ∧ NBox (b + 1) j.1 j.2.1 j.2.2 w
theorem Two2.below {b : Nat} {i j : Nm} {w w' : World} (h : Two2 b i j w) (hb : Below w.heap.size w w') : Two2 b i j w' := ⟨h.1.below hb, h.2.below hb⟩
theorem two2_new (w : World) (i j : Nm) (t : TypeId) : Two2 w.heap.size i j ((w.alloc (.cells (nmC i) t)).alloc (.cells (nmC j) t)) := by
  have e : (w.alloc (.cells (nmC i) t)).heap.size = w.heap.size + 1 := by simp
  have h2 := nbox_new (w.alloc (.cells (nmC i) t)) j.1 j.2.1 j.2.2 t
  rw [e] at h2
  exact ⟨(nbox_new w i.1 i.2.1 i.2.2 t).below (below_box _ _), h2⟩
set_option maxHeartbeats 4000000 in
theorem vcompare_any (i j : Nm) (w : World) : Calls Try.prog 19 #[nmV i, nmV j] w fun e w' => e = .returned (.int .i64 (cmpNm i j)) ∧ Hid (Below w.heap.size w w') := by
  have T2 := Lib.hid (two2_new w i j 26)
  have B2 := Lib.hid (two_below w (.cells (nmC i) 26) (.cells (nmC j) 26))
  have HU := Lib.hid (fun W => cmp_u i.1 j.1 W)
  have HC := Lib.hid (fun W => compare_any i.2 j.2 W)
  have HR := Lib.hid (show (if cmpI i.1 j.1 = 0 then cmpL i.2 j.2 else cmpI i.1 j.1) = cmpNm i j from rfl)
  obtain ⟨r, x, y⟩ := i
  obtain ⟨s, u, v⟩ := j
  simp only at HU HC HR B2 T2
  generalize cmpNm (r, (x, y)) (s, (u, v)) = res at *
  generalize cmpI r s = c1 at *
  generalize cmpL (x, y) (u, v) = c2 at *
  have HO := Lib.hid (fun (W : World) => or_two c1 c2 W.heap.size (W.alloc (.cells #[.int .i64 c1, .int .i64 c2] 3)) (cell_at_new W #[.int .i64 c1, .int .i64 c2] 3 0 _ rfl) (cell_at_new W #[.int .i64 c1, .int .i64 c2] 3 1 _ rfl))
  rw [HR.out] at HO
  go_enter Try.func19, Try.ntmps19
  go_wp2_with fail
  generalize (w.alloc (.cells #[.int .u64 r, .int .i64 x, .int .u64 y] 26)).alloc (.cells #[.int .u64 s, .int .i64 u, .int .u64 v] 26) = W2 at *
  generalize hB : w.heap.size = B at T2 ⊢
  have HB := Lib.hid hB
  clear hB
  obtain ⟨⟨k0, k1, k2⟩, ⟨k3, k4, k5⟩⟩ := T2.out
  simp only at k0 k1 k2 k3 k4 k5
  have kk : Hid (Two2 B (r, (x, y)) (s, (u, v)) W2.drew) := T2
  have BB : Hid (Below w.heap.size w W2.drew) := Lib.hid (drew_bl B2.out)
  clear T2 B2
  go_region_held (fun w' => w'.cell? ⟨B, 0, none⟩ = some (.int .u64 r) ∧ w'.cell? ⟨B, 1, none⟩ = some (.int .i64 x) ∧ w'.cell? ⟨B, 2, none⟩ = some (.int .u64 y) ∧ w'.cell? ⟨B + 1, 0, none⟩ = some (.int .u64 s) ∧ w'.cell? ⟨B + 1, 1, none⟩ = some (.int .i64 u) ∧ w'.cell? ⟨B + 1, 2, none⟩ = some (.int .u64 v)) (first | go_keep | exact ⟨kk.out.1.1, kk.out.1.2.1, kk.out.1.2.2, kk.out.2.1, kk.out.2.2.1, kk.out.2.2.2⟩)
    (first | (go_at_call 50; refine (HU.out _).mono ?_; rintro e V ⟨rfl, rfl⟩) | (go_at_call 51; refine (HC.out _).mono ?_; rintro e V ⟨rfl, hb⟩; have BB := Lib.hid (btr BB.out hb.out); have kk := Lib.hid (kk.out.below hb.out)) | (go_at_call 49; refine (HO.out _).mono ?_; rintro e V ⟨rfl, rfl⟩; have BB := Lib.hid (btr BB.out (below_box _ (.cells #[.int .i64 c1, .int .i64 c2] 3)))))
  all_goals
    go_wp2
    go_ret
    exact ⟨rfl, BB⟩
set_option maxHeartbeats 4000000 in
theorem rvcompare_any (i j : Nm) (w : World) : Calls Try.prog 20 #[nmV i, nmV j] w fun e w' => e = .returned (.int .i64 (cmpNm i j)) ∧ Hid (Below w.heap.size w w') := by
  have T2 := Lib.hid (two2_new w i j 26)
  have B2 := Lib.hid (two_below w (.cells (nmC i) 26) (.cells (nmC j) 26))
  have HC := Lib.hid (fun W => rcompare_any i.2 j.2 W)
  have HR := Lib.hid (show (if cmpI i.1 j.1 = 0 then cmpL i.2 j.2 else cmpI i.1 j.1) = cmpNm i j from rfl)
  obtain ⟨r, x, y⟩ := i
  obtain ⟨s, u, v⟩ := j
  simp only at HC HR B2 T2
  have HI := Lib.hid (show cmpI r s = if r < s then -1 else if s < r then 1 else 0 from rfl)
  generalize cmpNm (r, (x, y)) (s, (u, v)) = res at *
  generalize cmpI r s = c1 at *
  generalize cmpL (x, y) (u, v) = c2 at *
  by_cases h1 : r = s
  · subst h1
    have e1 : c1 = 0 := by rw [HI.out, if_neg (by omega), if_neg (by omega)]
    have e2 : res = c2 := by rw [← HR.out, if_pos e1]
    subst e2
    have e3 : (r != r) = false := by simp
    clear HR HI e1
    go_enter Try.func20, Try.ntmps20
    go_wp2_with fail
    refine (HC.out _).mono ?_
    rintro e V ⟨rfl, hb⟩
    go_wp2
    go_ret
    exact ⟨rfl, Lib.hid (btr B2.out hb.out)⟩
  · have h2 : (r != s) = true := by simp [h1]
    by_cases h3 : r < s
    · have e1 : c1 = -1 := by rw [HI.out, if_pos h3]
      have e2 : res = -1 := by rw [← HR.out, if_neg (by omega)]; exact e1
      subst e2
      clear HR HI e1 HC
      go_enter Try.func20, Try.ntmps20
      go_wp2
      go_ret
      exact ⟨rfl, B2⟩
    · have e1 : c1 = 1 := by rw [HI.out, if_neg h3, if_pos (by omega)]
      have e2 : res = 1 := by rw [← HR.out, if_neg (by omega)]; exact e1
      subst e2
      have h4 : s ≤ r := by omega
      clear HR HI e1 HC
      go_enter Try.func20, Try.ntmps20
      go_wp2
      go_ret
      exact ⟨rfl, B2⟩
end Go.Proofs.Ytgkldjolnbnehaa
/-
  Numbers looked through and compared (the library's Index, Contains, Equal); where a life stands first in a list; the document's 'no node twice'; the program's 'all' over closures. For lists of at most 2^40 cells.
-/
namespace Go.Proofs.Ytgkldjolnbnehaa
set_option maxRecDepth 20000
open Go.RowKit

abbrev atN (l : List Nat) (k : Nat) : Nat := l.getD k 0
theorem atN_lt {l : List Nat} {k : Nat} (h : k < l.length) : atN l k = l[k] := by simp [atN, List.getD, h]
theorem atN_mem {l : List Nat} {k : Nat} (h : k < l.length) : atN l k ∈ l := by rw [atN_lt h]; exact List.getElem_mem h
theorem nums_ext {l m : List Nat} (h : l.length = m.length) (he : ∀ j, j < l.length → atN l j = atN m j) : l = m := by
  apply List.ext_getElem h
  intro i h1 h2
  have := he i h1
  rwa [atN_lt h1, atN_lt h2] at this
theorem not_mem_upto {l : List Nat} {x : Nat} (h : ∀ j, j < l.length → atN l j ≠ x) : x ∉ l := fun hm => by
  obtain ⟨j, hj, e⟩ := List.getElem_of_mem hm
  exact h j hj (by rw [atN_lt hj]; exact e)
theorem Nums.at_ {w : World} {B : Nat} {A : Option Addr} {l : List Nat} (h : Nums w B A l) {k : Nat} (hk : k < l.length) : ∃ b off, A = some ⟨b, off, none⟩ ∧ b < B ∧ w.cell? ⟨b, off + k, none⟩ = some (.int .u64 ((atN l k : Nat) : Int)) := by
  obtain ⟨b, off, e, hb, hc⟩ := h (by omega)
  exact ⟨b, off, e, hb, hc k hk⟩
set_option maxHeartbeats 1000000 in
theorem uindex_any (A : Option Addr) (l : List Nat) (n c x : Nat) (w : World) (h : Nums w w.heap.size A l) (hn : l.length = n) (hb : n ≤ 1099511627776) :
    Calls Try.prog 72 #[.slice A n c, .int .u64 (x : Int)] w fun e w' => ∃ r : Int, e = .returned (.int .i64 r) ∧ Hid (0 ≤ r ↔ x ∈ l) ∧ Hid (Below w.heap.size w w') := by
  have HL := Lib.hid h
  have HN := Lib.hid hn
  clear h hn
  go_enter Try.func72, Try.ntmps72
  go_wp2
  go_loopw [8] (fun i wr => ∃ k q : Nat, k ≤ n ∧ i = .int .i64 k ∧ wr = w.drewN q ∧ Hid (∀ j, j < k → atN l j ≠ x)) (fun i _ => n - (intOf i).toNat)
  case atStart => exact ⟨0, 0, Nat.zero_le _, rfl, rfl, Lib.hid fun j hj => absurd hj (Nat.not_lt_zero _)⟩
  case round =>
    obtain ⟨k, q, hk, rfl, rfl, hall⟩ := hrel
    by_cases hlt : k < n
    · obtain ⟨b, off, rfl, hbb, hc⟩ := HL.out.at_ (k := k) (by rw [HN.out]; exact hlt)
      have hc : (w.drewN q).cell? ⟨b, off + k, none⟩ = some (.int .u64 ((atN l k : Nat) : Int)) := hc
      have g0 : (0 : Int) ≤ (k : Int) := by omega
      have g1 : (k : Int) < (n : Int) := by omega
      have HM := Lib.hid (atN_mem (l := l) (k := k) (by rw [HN.out]; exact hlt))
      generalize hy : atN l k = y at *
      have HY := Lib.hid hy
      clear hy
      by_cases hx : x = y
      · subst hx
        go_wp2
        go_ret
        exact ⟨(k : Int), rfl, Lib.hid ⟨fun _ => HM.out, fun _ => by omega⟩, Lib.hid (below_drewN' _)⟩
      · have hx2 : ((x : Int) == (y : Int)) = false := by simp; omega
        have hx3 : ¬ (x : Int) = (y : Int) := by omega
        have HX := Lib.hid hx
        clear hx
        go_wp2
        go_roundw
        case rel => exact ⟨k + 1, q, by omega, by go_num, rfl, Lib.hid fun j hj e => by
          by_cases hjk : j = k
          · subst hjk
            exact HX.out (by rw [← HY.out, e])
          · exact hall.out j (by omega) e⟩
        case measure => simp [intOf]; omega
    · obtain rfl : k = n := by omega
      have g1 : ¬ (k : Int) < (k : Int) := by omega
      go_wp2
      go_ret
      have : x ∉ l := not_mem_upto (by rw [HN.out]; exact hall.out)
      exact ⟨-1, rfl, Lib.hid ⟨fun h => absurd h (by omega), fun h => absurd h this⟩, Lib.hid (below_drewN' _)⟩
set_option maxHeartbeats 1000000 in
theorem ucontains_any (A : Option Addr) (l : List Nat) (n c x : Nat) (w : World) (h : Nums w w.heap.size A l) (hn : l.length = n) (hb : n ≤ 1099511627776) :
    Calls Try.prog 44 #[.slice A n c, .int .u64 (x : Int)] w fun e w' => e = .returned (.bool (decide (x ∈ l))) ∧ Hid (Below w.heap.size w w') := by
  have HI := Lib.hid (uindex_any A l n c x w h hn hb)
  generalize hd : decide (x ∈ l) = d
  have HD := Lib.hid hd
  clear h hn hb hd
  go_enter Try.func44, Try.ntmps44
  go_wp2_with fail
  refine HI.out.mono ?_
  rintro e w1 ⟨r, rfl, hr, hb1⟩
  by_cases h0 : 0 ≤ r
  · have : d = true := by rw [← HD.out]; exact decide_eq_true (hr.out.1 h0)
    subst this
    go_wp2
    go_ret
    exact ⟨rfl, hb1⟩
  · have : d = false := by rw [← HD.out]; exact decide_eq_false (fun h => h0 (hr.out.2 h))
    subst this
    have h1 : decide (0 ≤ r) = false := decide_eq_false h0
    go_wp2
    go_ret
    exact ⟨by first | rfl | exact congrArg (fun b => Ending.returned (.bool b)) h1, hb1⟩
set_option maxHeartbeats 1000000 in
theorem uequal_any (A1 : Option Addr) (l : List Nat) (n1 c1 : Nat) (A2 : Option Addr) (m : List Nat) (n2 c2 : Nat) (w : World) (h1 : Nums w w.heap.size A1 l) (h2 : Nums w w.heap.size A2 m) (hn1 : l.length = n1) (hn2 : m.length = n2) (hb : n1 ≤ 1099511627776) (hb2 : n2 ≤ 1099511627776) :
    Calls Try.prog 57 #[.slice A1 n1 c1, .slice A2 n2 c2] w fun e w' => e = .returned (.bool (decide (l = m))) ∧ Hid (Below w.heap.size w w') := by
  generalize hr : decide (l = m) = r
  have HR := Lib.hid hr
  have H1 := Lib.hid h1
  have H2 := Lib.hid h2
  have N1 := Lib.hid hn1
  have N2 := Lib.hid hn2
  clear hr h1 h2 hn1 hn2
  go_enter Try.func57, Try.ntmps57
  by_cases hnn : n1 = n2
  · subst hnn
    go_wp2
    go_loopw [13] (fun i wr => ∃ k q : Nat, k ≤ n1 ∧ i = .int .i64 k ∧ wr = w.drewN q ∧ Hid (∀ j, j < k → atN l j = atN m j)) (fun i _ => n1 - (intOf i).toNat)
    case atStart => exact ⟨0, 0, Nat.zero_le _, rfl, rfl, Lib.hid fun j hj => absurd hj (Nat.not_lt_zero _)⟩
    case round =>
      obtain ⟨k, q, hk, rfl, rfl, hall⟩ := hrel
      by_cases hlt : k < n1
      · obtain ⟨b, off, rfl, hbb, c1⟩ := H1.out.at_ (k := k) (by rw [N1.out]; exact hlt)
        obtain ⟨b', off', rfl, hbb', d1⟩ := H2.out.at_ (k := k) (by rw [N2.out]; exact hlt)
        have g0 : (0 : Int) ≤ (k : Int) := by omega
        have g1 : (k : Int) < (n1 : Int) := by omega
        generalize hx1 : atN l k = x1 at *
        generalize hy1 : atN m k = y1 at *
        have E1 := Lib.hid hx1
        have E2 := Lib.hid hy1
        clear hx1 hy1
        by_cases hx : x1 = y1
        · subst hx
          have hx2 : ((x1 : Int) != (x1 : Int)) = false := by simp
          go_wp2_with fail
          go_quiet (fail)
          go_wp2
          go_roundw
          case rel => exact ⟨k + 1, q + nq, by omega, by go_num, rfl, Lib.hid fun j hj => by
            by_cases hjk : j = k
            · subst hjk
              rw [E1.out, E2.out]
            · exact hall.out j (by omega)⟩
          case measure => simp [intOf]; omega
        · have hx2 : ((x1 : Int) != (y1 : Int)) = true := by simp; omega
          have HX := Lib.hid hx
          clear hx
          go_wp2_with fail
          go_quiet (fail)
          go_wp2
          go_ret
          have : l ≠ m := fun e => HX.out (by rw [← E1.out, ← E2.out, e])
          refine ⟨?_, Lib.hid ⟨rfl, rfl, rfl, Nat.le_refl _, fun _ _ => rfl⟩⟩
          rw [← HR.out, decide_eq_false this]
          rfl
      · obtain rfl : k = n1 := by omega
        have g1 : ¬ (k : Int) < (k : Int) := by omega
        go_wp2
        go_ret
        have : l = m := nums_ext (N1.out.trans N2.out.symm) (by rw [N1.out]; exact hall.out)
        refine ⟨?_, Lib.hid (below_drewN' _)⟩
        rw [← HR.out, decide_eq_true this]
        rfl
  · have hne : ((n1 : Int) != (n2 : Int)) = true := by simp; omega
    go_wp2
    go_ret
    have : l ≠ m := fun e => hnn (by rw [← N1.out, ← N2.out, e])
    refine ⟨?_, Lib.hid (Below.refl _ _)⟩
    rw [← HR.out, decide_eq_false this]
    rfl
/-! Where a life stands first. -/
theorem idx_first {l : List Life} {p : Life} {k : Nat} (hk : k < l.length) (he : atL l k = p) (hall : ∀ j, j < k → atL l j ≠ p) : l.idxOf p = k := by
  have hm : p ∈ l := by rw [← he]; exact atL_mem hk
  have hlt := List.idxOf_lt_length_of_mem hm
  have hg : l[l.idxOf p] = p := List.getElem_idxOf hlt
  rcases Nat.lt_trichotomy (l.idxOf p) k with h | h | h
  · exact absurd (by rw [atL_lt hlt]; exact hg) (hall _ h)
  · exact h
  · have := List.not_of_lt_findIdx (p := (· == p)) (xs := l) (i := k) h
    rw [atL_lt hk] at he
    simp [he] at this
def idxL (l : List Life) (p : Life) : Int := if p ∈ l then (l.idxOf p : Int) else -1
set_option maxHeartbeats 1000000 in
theorem pindex_any (A : Option Addr) (l : List Life) (n c : Nat) (p : Life) (w : World) (h : Lives w w.heap.size A l) (hn : l.length = n) (hb : n ≤ 1099511627776) :
    Calls Try.prog 60 #[.slice A n c, lifeV p] w fun e w' => e = .returned (.int .i64 (idxL l p)) ∧ Hid (Below w.heap.size w w') := by
  have B1 := Lib.hid ((Below.refl w.heap.size w).alloc (Nat.le_refl _) (.cells #[.int .i64 p.1, .int .u64 p.2] 24))
  have k1 := cell_at_new w #[.int .i64 p.1, .int .u64 p.2] 24 0 _ rfl
  have k2 := cell_at_new w #[.int .i64 p.1, .int .u64 p.2] 24 1 _ rfl
  generalize hr : idxL l p = r
  have HR := Lib.hid hr
  obtain ⟨p1, p2⟩ := p
  simp only at B1 k1 k2
  have HL := Lib.hid h
  have HN := Lib.hid hn
  clear h hn hr
  go_enter Try.func60, Try.ntmps60
  go_wp2_with fail
  generalize w.alloc (.cells #[.int .i64 p1, .int .u64 p2] 24) = W2 at *
  generalize hB : w.heap.size = B at k1 k2 ⊢
  have HB := Lib.hid hB
  clear hB
  go_loopw [8] (fun i wr => ∃ k q : Nat, k ≤ n ∧ i = .int .i64 k ∧ wr = W2.drewN q ∧ Hid (∀ j, j < k → atL l j ≠ (p1, p2))) (fun i _ => n - (intOf i).toNat)
  case atStart => exact ⟨0, 0, Nat.zero_le _, rfl, rfl, Lib.hid fun j hj => absurd hj (Nat.not_lt_zero _)⟩
  case round =>
    obtain ⟨k, q, hk, rfl, rfl, hall⟩ := hrel
    by_cases hlt : k < n
    · obtain ⟨b, off, rfl, hbb, hc1, hc2⟩ := (HL.out.below B1.out).at_ (k := k) (by rw [HN.out]; exact hlt)
      have g0 : (0 : Int) ≤ (k : Int) := by omega
      have g1 : (k : Int) < (n : Int) := by omega
      have he := fun w => eq_run p1 p2 (atL l k).1 (atL l k).2 w
      have hg := fun op a b w => guard_run op a b p1 p2 (atL l k).1 (atL l k).2 w
      have HE := Lib.hid (show ((atL l k).1, (atL l k).2) = atL l k from rfl)
      generalize (atL l k).1 = x1 at *
      generalize (atL l k).2 = x2 at *
      by_cases hx : ((p1, p2) : Life) = (x1, x2)
      · have HX := Lib.hid hx
        rw [decide_eq_true hx] at he
        clear hx
        have hm : ((p1, p2) : Life) ∈ l := by rw [HX.out, HE.out]; exact atL_mem (by rw [HN.out]; exact hlt)
        have hi := idx_first (l := l) (k := k) (p := (p1, p2)) (by rw [HN.out]; exact hlt) (by rw [HX.out, HE.out]) hall.out
        have hrk : r = (k : Int) := by rw [← HR.out]; unfold idxL; rw [if_pos hm, hi]
        subst hrk
        clear hm hi
        go_wp2_with fail
        go_quiet (fail)
        go_wp2
        go_ret
        exact ⟨rfl, Lib.hid ⟨B1.out.os, B1.out.tape, B1.out.output, B1.out.size, B1.out.block⟩⟩
      · have HX := Lib.hid hx
        rw [decide_eq_false hx] at he
        clear hx
        go_wp2_with fail
        go_quiet (fail)
        go_wp2
        go_roundw
        case rel => exact ⟨k + 1, q + nq, by omega, by go_num, rfl, Lib.hid fun j hj e => by
          by_cases hjk : j = k
          · subst hjk
            exact HX.out (by rw [HE.out, e])
          · exact hall.out j (by omega) e⟩
        case measure => simp [intOf]; omega
    · obtain rfl : k = n := by omega
      have g1 : ¬ (k : Int) < (k : Int) := by omega
      have hm : ((p1, p2) : Life) ∉ l := mem_upto.1 (by rw [HN.out]; exact hall.out)
      have hrk : r = -1 := by rw [← HR.out]; unfold idxL; rw [if_neg hm]
      subst hrk
      clear hm
      go_wp2
      go_ret
      exact ⟨rfl, Lib.hid ⟨B1.out.os, B1.out.tape, B1.out.output, B1.out.size, B1.out.block⟩⟩
/-! Closures, one behind the other. -/
/-- Closures side by side, in a block, each of which answers its bool in every later world. -/
structure Asks3 (w : World) (b : Nat) (fs : List (Nat × Array Value × Bool)) : Prop where
  cells : ∀ k, k < fs.length → w.cell? ⟨b, k, none⟩ = some (.func (.func (fs.getD k default).1) #[] (fs.getD k default).2.1)
  enters : ∀ k, k < fs.length → ∀ args w, (callFunc (fs.getD k default).1 args).run Try.prog w = .ok (.enter (fs.getD k default).1 args) w
  calls : ∀ k, k < fs.length → ∀ W, Below w.heap.size w W → Calls Try.prog (fs.getD k default).1 (fs.getD k default).2.1 W fun e w' => e = .returned (.bool (fs.getD k default).2.2) ∧ Hid (Below W.heap.size W w')
theorem all_split {fs : List (Nat × Array Value × Bool)} {k : Nat} (hk : k < fs.length) (h : (fs.getD k default).2.2 = false) : fs.all (·.2.2) = false := by
  rw [List.all_eq_false]
  refine ⟨fs[k], List.getElem_mem hk, ?_⟩
  have : fs.getD k default = fs[k] := by simp [List.getD, hk]
  rw [← this, h]
  simp
theorem all_upto {fs : List (Nat × Array Value × Bool)} (h : ∀ k, k < fs.length → (fs.getD k default).2.2 = true) : fs.all (·.2.2) = true := by
  rw [List.all_eq_true]
  intro x hx
  obtain ⟨k, hk, rfl⟩ := List.getElem_of_mem hx
  have := h k hk
  simpa [List.getD, hk] using this
set_option maxHeartbeats 1000000 in
theorem all_any (b : Nat) (fs : List (Nat × Array Value × Bool)) (n c : Nat) (w : World) (h : Asks3 w b fs) (hn : fs.length = n) (hb : n ≤ 1000) :
    Calls Try.prog 37 #[.slice (some ⟨b, 0, none⟩) n c] w fun e w' => e = .returned (.bool (fs.all (·.2.2))) ∧ Hid (Below w.heap.size w w') := by
  generalize hr : fs.all (·.2.2) = r
  have HR := Lib.hid hr
  have HA := Lib.hid h
  have HN := Lib.hid hn
  clear hr h hn
  go_enter Try.func37, Try.ntmps37
  go_wp2
  go_loopw [7] (fun i wr => ∃ k : Nat, k ≤ n ∧ i = .int .i64 k ∧ Hid (Below w.heap.size w wr) ∧ Hid (∀ j, j < k → (fs.getD j default).2.2 = true)) (fun i _ => n - (intOf i).toNat)
  case atStart => exact ⟨0, Nat.zero_le _, rfl, Lib.hid (Below.refl _ _), Lib.hid fun j hj => absurd hj (Nat.not_lt_zero _)⟩
  case round =>
    obtain ⟨k, hk, rfl, hbw, hall⟩ := hrel
    by_cases hlt : k < n
    · have g0 : (0 : Int) ≤ (k : Int) := by omega
      have g1 : (k : Int) < (n : Int) := by omega
      have hkl : k < fs.length := by rw [HN.out]; exact hlt
      have hc := cell_below (HA.out.cells k hkl) hbw.out
      have eg := HA.out.enters k hkl
      have HC := Lib.hid (HA.out.calls k hkl wr hbw.out)
      have HF := Lib.hid (fun e => all_split (fs := fs) hkl e)
      generalize hx : fs.getD k default = x at *
      have HX := Lib.hid hx
      clear hx hkl
      obtain ⟨g, cb, v⟩ := x
      simp only at hc eg HC HF
      go_wp2_with fail
      refine HC.out.mono ?_
      rintro e w1 ⟨rfl, hb1⟩
      cases v with
      | true =>
        go_wp2
        go_roundw
        case rel => exact ⟨k + 1, by omega, by go_num, Lib.hid (btr hbw.out hb1.out), Lib.hid fun j hj => by
          by_cases hjk : j = k
          · subst hjk
            rw [HX.out]
          · exact hall.out j (by omega)⟩
        case measure => simp [intOf]; omega
      | false =>
        have : r = false := by rw [← HR.out]; exact HF.out rfl
        subst this
        go_wp2
        go_ret
        exact ⟨rfl, Lib.hid (btr hbw.out hb1.out)⟩
    · obtain rfl : k = n := by omega
      have g1 : ¬ (k : Int) < (k : Int) := by omega
      have : r = true := by rw [← HR.out]; exact all_upto (by rw [HN.out]; exact hall.out)
      subst this
      go_wp2
      go_ret
      exact ⟨rfl, hbw⟩
end Go.Proofs.Ytgkldjolnbnehaa
/-
  A member's place and start, a life's first view, the chapter's example, how heavy a view is, what two views have in common: by the program and by the document's answer. For lists of at most 2^34 members.
-/
namespace Go.Proofs.Ytgkldjolnbnehaa
set_option maxRecDepth 20000
open Go.RowKit

theorem Vm.lst {W : World} {N n c m c' : Nat} {A A' : Option Addr} {ms : List Life} {ss : List Nat} (h : Vm W N A n c A' m c' ms ss) : Lst W N A n c ms := ⟨h.lives, h.len, h.le, h.cap⟩
/-- Two cells of a life. -/
def PBox (b : Nat) (x y : Int) (w : World) : Prop := w.cell? ⟨b, 0, none⟩ = some (.int .i64 x) ∧ w.cell? ⟨b, 1, none⟩ = some (.int .u64 y)
theorem PBox.below {b : Nat} {x y : Int} {w w' : World} (h : PBox b x y w) (hb : Below w.heap.size w w') : PBox b x y w' := ⟨cell_below h.1 hb, cell_below h.2 hb⟩
theorem box_vp (w : World) (r x y : Int) (A : Option Addr) (n c : Nat) (A' : Option Addr) (m c' : Nat) (p : Life) (t : TypeId) :
    VBox w.heap.size r x y A n c A' m c' ((w.alloc (.cells #[.int .u64 r, .int .i64 x, .int .u64 y, .slice A n c, .slice A' m c'] t)).alloc (.cells #[.int .i64 p.1, .int .u64 p.2] 24)) ∧
    PBox (w.heap.size + 1) p.1 p.2 ((w.alloc (.cells #[.int .u64 r, .int .i64 x, .int .u64 y, .slice A n c, .slice A' m c'] t)).alloc (.cells #[.int .i64 p.1, .int .u64 p.2] 24)) := by
  have e : (w.alloc (.cells #[.int .u64 r, .int .i64 x, .int .u64 y, .slice A n c, .slice A' m c'] t)).heap.size = w.heap.size + 1 := by simp
  have h2 := one_new (w.alloc (.cells #[.int .u64 r, .int .i64 x, .int .u64 y, .slice A n c, .slice A' m c'] t)) p.1 p.2
  rw [e] at h2
  exact ⟨(vbox_new w r x y A n c A' m c' t).below (below_box _ _), h2⟩
def plcL (ms : List Life) (p : Life) : Int := if p ∈ ms then (ms.idxOf p : Int) else 0
set_option maxHeartbeats 2000000 in
theorem place_any {N : Nat} (i : Nm) (A : Option Addr) (n c : Nat) (A' : Option Addr) (m c' : Nat) (ms : List Life) (ss : List Nat) (p : Life) (w : World) (h : Vm w N A n c A' m c' ms ss) (hN : N ≤ 17179869184) :
    Calls Try.prog 25 #[vwV i A n c A' m c', lifeV p] w fun e w' => e = .returned (.tuple #[.int .i64 (plcL ms p), .bool (decide (p ∈ ms))]) ∧ Hid (Below w.heap.size w w') := by
  obtain ⟨r, x, y⟩ := i
  have HB := Lib.hid (box_vp w r x y A n c A' m c' p 30)
  have B2 := Lib.hid (two_below w (.cells (vwC (r, (x, y)) A n c A' m c') 30) (.cells #[.int .i64 p.1, .int .u64 p.2] 24))
  have HI := Lib.hid (fun W (hb : Below w.heap.size w W) => pindex_any A ms n c p W (h.on hb).lives h.len (by have := h.le; omega))
  have HX := Lib.hid (show (p ∈ ms → idxL ms p = plcL ms p ∧ 0 ≤ idxL ms p) ∧ (p ∉ ms → idxL ms p = -1 ∧ plcL ms p = 0) by
    unfold idxL plcL
    constructor
    · intro hm; rw [if_pos hm, if_pos hm]; exact ⟨rfl, by omega⟩
    · intro hm; rw [if_neg hm, if_neg hm]; exact ⟨rfl, rfl⟩)
  generalize idxL ms p = ix at *
  generalize plcL ms p = px at *
  generalize hd : decide (p ∈ ms) = d at *
  have HD := Lib.hid hd
  clear hd h
  obtain ⟨p1, p2⟩ := p
  try simp only at HB B2
  go_enter Try.func25, Try.ntmps25
  obtain ⟨⟨k0, k1, k2, k3, k4⟩, ⟨k5, k6⟩⟩ := HB.out
  try simp only at k5 k6
  go_wp2_with fail
  refine (HI.out _ B2.out).mono ?_
  rintro e W3 ⟨rfl, hb3⟩
  have BW := Lib.hid (btr B2.out hb3.out)
  clear HB B2 hb3 k0 k1 k2 k3 k4 k5 k6
  cases d with
  | true =>
    have hm := of_decide_eq_true HD.out
    obtain ⟨e1, e2⟩ := HX.out.1 hm
    subst e1
    have e3 : decide (ix < 0) = false := decide_eq_false (by omega)
    have e4 : ¬ ix < 0 := by omega
    clear hm HX HD
    go_wp2
    go_ret2
    exact ⟨rfl, BW⟩
  | false =>
    have hm := of_decide_eq_false HD.out
    obtain ⟨e1, e2⟩ := HX.out.2 hm
    subst e1 e2
    clear hm HX HD
    go_wp2
    go_ret2
    exact ⟨rfl, BW⟩
set_option maxHeartbeats 2000000 in
theorem rplace_any {N : Nat} (i : Nm) (A : Option Addr) (n c : Nat) (A' : Option Addr) (m c' : Nat) (ms : List Life) (ss : List Nat) (p : Life) (w : World) (h : Vm w N A n c A' m c' ms ss) (hN : N ≤ 17179869184) :
    Calls Try.prog 26 #[vwV i A n c A' m c', lifeV p] w fun e w' => e = .returned (.tuple #[.int .i64 (plcL ms p), .bool (decide (p ∈ ms))]) ∧ Hid (Below w.heap.size w w') := by
  obtain ⟨r, x, y⟩ := i
  have HB := Lib.hid (box_vp w r x y A n c A' m c' p 30)
  have B2 := Lib.hid (two_below w (.cells (vwC (r, (x, y)) A n c A' m c') 30) (.cells #[.int .i64 p.1, .int .u64 p.2] 24))
  have HL := Lib.hid (h.on B2.out).lives
  have HN := Lib.hid h.len
  have hle := h.le
  generalize hr : plcL ms p = px
  generalize hd : decide (p ∈ ms) = d
  have HR := Lib.hid hr
  have HD := Lib.hid hd
  clear hd hr h
  obtain ⟨p1, p2⟩ := p
  try simp only at HB B2 HL
  go_enter Try.func26, Try.ntmps26
  go_wp2_with fail
  generalize ((w.alloc (.cells #[.int .u64 r, .int .i64 x, .int .u64 y, .slice A n c, .slice A' m c'] 30)).alloc (.cells #[.int .i64 p1, .int .u64 p2] 24)) = W2 at *
  generalize hB : w.heap.size = B at HB ⊢
  have HBB := Lib.hid hB
  clear hB
  obtain ⟨⟨k0, k1, k2, k3, k4⟩, ⟨k5, k6⟩⟩ := HB.out
  try simp only at k5 k6
  clear HB k0 k1 k2 k4
  go_loopw [6] (fun i wr => ∃ k q : Nat, k ≤ n ∧ i = .int .i64 k ∧ wr = W2.drewN q ∧ Hid (∀ j, j < k → atL ms j ≠ (p1, p2))) (fun i _ => n - (intOf i).toNat)
  case atStart => exact ⟨0, 0, Nat.zero_le _, rfl, rfl, Lib.hid fun j hj => absurd hj (Nat.not_lt_zero _)⟩
  case round =>
    obtain ⟨k, q, hk, rfl, rfl, hall⟩ := hrel
    by_cases hlt : k < n
    · obtain ⟨b, off, rfl, hbb, hc1, hc2⟩ := HL.out.at_ (k := k) (by rw [HN.out]; exact hlt)
      have g0 : (0 : Int) ≤ (k : Int) := by omega
      have g1 : (k : Int) < (n : Int) := by omega
      have he := fun w => eq_run (atL ms k).1 (atL ms k).2 p1 p2 w
      have hg := fun op a b w => guard_run op a b (atL ms k).1 (atL ms k).2 p1 p2 w
      have HE := Lib.hid (show ((atL ms k).1, (atL ms k).2) = atL ms k from rfl)
      generalize (atL ms k).1 = x1 at *
      generalize (atL ms k).2 = x2 at *
      by_cases hx : ((x1, x2) : Life) = (p1, p2)
      · have HX := Lib.hid hx
        rw [decide_eq_true hx] at he
        clear hx
        have hm : ((p1, p2) : Life) ∈ ms := by rw [← HX.out, HE.out]; exact atL_mem (by rw [HN.out]; exact hlt)
        have hi := idx_first (l := ms) (k := k) (p := (p1, p2)) (by rw [HN.out]; exact hlt) (by rw [← HX.out, HE.out]) hall.out
        have e1 : px = (k : Int) := by rw [← HR.out]; unfold plcL; rw [if_pos hm, hi]
        have e2 : d = true := by rw [← HD.out]; exact decide_eq_true hm
        subst e1 e2
        clear hm hi
        go_wp2_with fail
        go_quiet (fail)
        go_wp2
        go_ret2
        exact ⟨rfl, Lib.hid ⟨B2.out.os, B2.out.tape, B2.out.output, B2.out.size, B2.out.block⟩⟩
      · have HX := Lib.hid hx
        rw [decide_eq_false hx] at he
        clear hx
        go_wp2_with fail
        go_quiet (fail)
        go_wp2
        go_roundw
        case rel => exact ⟨k + 1, q + nq, by omega, by go_num, rfl, Lib.hid fun j hj e => by
          by_cases hjk : j = k
          · subst hjk
            exact HX.out (by rw [HE.out, e])
          · exact hall.out j (by omega) e⟩
        case measure => simp [intOf]; omega
    · obtain rfl : k = n := by omega
      have g1 : ¬ (k : Int) < (k : Int) := by omega
      have hm : ((p1, p2) : Life) ∉ ms := mem_upto.1 (by rw [HN.out]; exact hall.out)
      have e1 : px = 0 := by rw [← HR.out]; unfold plcL; rw [if_neg hm]
      have e2 : d = false := by rw [← HD.out]; exact decide_eq_false hm
      subst e1 e2
      clear hm
      go_wp2
      go_ret2
      exact ⟨rfl, Lib.hid ⟨B2.out.os, B2.out.tape, B2.out.output, B2.out.size, B2.out.block⟩⟩
def stL (ms : List Life) (ss : List Nat) (p : Life) : Nat := if p ∈ ms ∧ ms.idxOf p < ss.length then atN ss (ms.idxOf p) else 0
def hasL (ms : List Life) (ss : List Nat) (p : Life) : Bool := decide (p ∈ ms ∧ ms.idxOf p < ss.length)
set_option maxHeartbeats 2000000 in
theorem start_any {N : Nat} (i : Nm) (A : Option Addr) (n c : Nat) (A' : Option Addr) (m c' : Nat) (ms : List Life) (ss : List Nat) (p : Life) (w : World) (h : Vm w N A n c A' m c' ms ss) (hN : N ≤ 17179869184) :
    Calls Try.prog 27 #[vwV i A n c A' m c', lifeV p] w fun e w' => e = .returned (.tuple #[.int .u64 (stL ms ss p : Nat), .bool (hasL ms ss p)]) ∧ Hid (Below w.heap.size w w') := by
  obtain ⟨r, x, y⟩ := i
  have HB := Lib.hid (box_vp w r x y A n c A' m c' p 30)
  have B2 := Lib.hid (two_below w (.cells (vwC (r, (x, y)) A n c A' m c') 30) (.cells #[.int .i64 p.1, .int .u64 p.2] 24))
  have HI := Lib.hid (fun W (hb : Below w.heap.size w W) => place_any (r, (x, y)) A n c A' m c' ms ss p W (h.on hb) hN)
  have HV := Lib.hid (fun W (hb : Below w.heap.size w W) => (h.on hb).nums)
  have HM := Lib.hid h.slen
  have HX1 := Lib.hid (show p ∈ ms → plcL ms p = (ms.idxOf p : Int) from fun hm => by unfold plcL; rw [if_pos hm])
  have HX2 := Lib.hid (show p ∈ ms → ms.idxOf p < m → stL ms ss p = atN ss (ms.idxOf p) ∧ hasL ms ss p = true from fun hm hi => by
    have : p ∈ ms ∧ ms.idxOf p < ss.length := ⟨hm, by rw [h.slen]; exact hi⟩
    unfold stL hasL
    exact ⟨if_pos this, decide_eq_true this⟩)
  have HX3 := Lib.hid (show ¬ (p ∈ ms ∧ ms.idxOf p < m) → stL ms ss p = 0 ∧ hasL ms ss p = false from fun hn => by
    rw [← h.slen] at hn
    unfold stL hasL
    exact ⟨if_neg hn, decide_eq_false hn⟩)
  generalize plcL ms p = px at *
  generalize stL ms ss p = sv at *
  generalize hasL ms ss p = hv at *
  generalize ms.idxOf p = ix at *
  generalize hd : decide (p ∈ ms) = d at *
  have HD := Lib.hid hd
  clear hd h
  obtain ⟨p1, p2⟩ := p
  try simp only at HB B2
  go_enter Try.func27, Try.ntmps27
  obtain ⟨⟨k0, k1, k2, k3, k4⟩, ⟨k5, k6⟩⟩ := HB.out
  try simp only at k5 k6
  go_wp2_with fail
  refine (HI.out _ B2.out).mono ?_
  rintro e W3 ⟨rfl, hb3⟩
  have BW := Lib.hid (btr B2.out hb3.out)
  have m4 := cell_below k4 hb3.out
  have HV3 := Lib.hid (HV.out W3 BW.out)
  clear HB B2 hb3 k0 k1 k2 k3 k4 k5 k6 HI HV
  cases d with
  | true =>
    have hm := of_decide_eq_true HD.out
    have e1 := HX1.out hm
    subst e1
    by_cases hi : ix < m
    · obtain ⟨e2, rfl⟩ := HX2.out hm hi
      obtain ⟨b, off, rfl, hbb, hc⟩ := HV3.out.at_ (k := ix) (by rw [HM.out]; exact hi)
      rw [← e2] at hc
      clear e2
      have g0 : (0 : Int) ≤ (ix : Int) := by omega
      have g1 : (ix : Int) < (m : Int) := by omega
      have g2 : decide ((m : Int) ≤ (ix : Int)) = false := decide_eq_false (by omega)
      have g3 : ¬ (m : Int) ≤ (ix : Int) := by omega
      clear hm HX1 HX2 HX3 HD
      go_wp2
      go_ret2
      exact ⟨rfl, BW⟩
    · obtain ⟨rfl, rfl⟩ := HX3.out (fun h => hi h.2)
      have g1 : (m : Int) ≤ (ix : Int) := by omega
      clear hm HX1 HX2 HX3 HD
      go_wp2
      go_ret2
      exact ⟨rfl, BW⟩
  | false =>
    have hm := of_decide_eq_false HD.out
    obtain ⟨rfl, rfl⟩ := HX3.out (fun h => hm h.1)
    clear hm HX1 HX2 HX3 HD
    go_wp2
    go_ret2
    exact ⟨rfl, BW⟩
set_option maxHeartbeats 2000000 in
theorem rstart_any {N : Nat} (i : Nm) (A : Option Addr) (n c : Nat) (A' : Option Addr) (m c' : Nat) (ms : List Life) (ss : List Nat) (p : Life) (w : World) (h : Vm w N A n c A' m c' ms ss) (hN : N ≤ 17179869184) :
    Calls Try.prog 28 #[vwV i A n c A' m c', lifeV p] w fun e w' => e = .returned (.tuple #[.int .u64 (stL ms ss p : Nat), .bool (hasL ms ss p)]) ∧ Hid (Below w.heap.size w w') := by
  obtain ⟨r, x, y⟩ := i
  have HB := Lib.hid (box_vp w r x y A n c A' m c' p 30)
  have B2 := Lib.hid (two_below w (.cells (vwC (r, (x, y)) A n c A' m c') 30) (.cells #[.int .i64 p.1, .int .u64 p.2] 24))
  have HI := Lib.hid (fun W (hb : Below w.heap.size w W) => rplace_any (r, (x, y)) A n c A' m c' ms ss p W (h.on hb) hN)
  have HV := Lib.hid (fun W (hb : Below w.heap.size w W) => (h.on hb).nums)
  have HM := Lib.hid h.slen
  have HX1 := Lib.hid (show p ∈ ms → plcL ms p = (ms.idxOf p : Int) from fun hm => by unfold plcL; rw [if_pos hm])
  have HX2 := Lib.hid (show p ∈ ms → ms.idxOf p < m → stL ms ss p = atN ss (ms.idxOf p) ∧ hasL ms ss p = true from fun hm hi => by
    have : p ∈ ms ∧ ms.idxOf p < ss.length := ⟨hm, by rw [h.slen]; exact hi⟩
    unfold stL hasL
    exact ⟨if_pos this, decide_eq_true this⟩)
  have HX3 := Lib.hid (show ¬ (p ∈ ms ∧ ms.idxOf p < m) → stL ms ss p = 0 ∧ hasL ms ss p = false from fun hn => by
    rw [← h.slen] at hn
    unfold stL hasL
    exact ⟨if_neg hn, decide_eq_false hn⟩)
  generalize plcL ms p = px at *
  generalize stL ms ss p = sv at *
  generalize hasL ms ss p = hv at *
  generalize ms.idxOf p = ix at *
  generalize hd : decide (p ∈ ms) = d at *
  have HD := Lib.hid hd
  clear hd h
  obtain ⟨p1, p2⟩ := p
  try simp only at HB B2
  go_enter Try.func28, Try.ntmps28
  obtain ⟨⟨k0, k1, k2, k3, k4⟩, ⟨k5, k6⟩⟩ := HB.out
  try simp only at k5 k6
  go_wp2_with fail
  refine (HI.out _ B2.out).mono ?_
  rintro e W3 ⟨rfl, hb3⟩
  have BW := Lib.hid (btr B2.out hb3.out)
  have m4 := cell_below k4 hb3.out
  have HV3 := Lib.hid (HV.out W3 BW.out)
  clear HB B2 hb3 k0 k1 k2 k3 k4 k5 k6 HI HV
  cases d with
  | true =>
    have hm := of_decide_eq_true HD.out
    have e1 := HX1.out hm
    subst e1
    by_cases hi : ix < m
    · obtain ⟨e2, rfl⟩ := HX2.out hm hi
      obtain ⟨b, off, rfl, hbb, hc⟩ := HV3.out.at_ (k := ix) (by rw [HM.out]; exact hi)
      rw [← e2] at hc
      clear e2
      have g0 : (0 : Int) ≤ (ix : Int) := by omega
      have g1 : (ix : Int) < (m : Int) := by omega
      have g2 : decide ((m : Int) ≤ (ix : Int)) = false := decide_eq_false (by omega)
      have g3 : ¬ (m : Int) ≤ (ix : Int) := by omega
      clear hm HX1 HX2 HX3 HD
      go_wp2
      go_ret2
      exact ⟨rfl, BW⟩
    · obtain ⟨rfl, rfl⟩ := HX3.out (fun h => hi h.2)
      have g1 : (m : Int) ≤ (ix : Int) := by omega
      clear hm HX1 HX2 HX3 HD
      go_wp2
      go_ret2
      exact ⟨rfl, BW⟩
  | false =>
    have hm := of_decide_eq_false HD.out
    obtain ⟨rfl, rfl⟩ := HX3.out (fun h => hm h.1)
    clear hm HX1 HX2 HX3 HD
    go_wp2
    go_ret2
    exact ⟨rfl, BW⟩
theorem filter_true (a b : List Life) : setL (a.filter fun p => decide (p ∈ b) == true) = meetL a b := by simp [meetL]
/-! A life's first view; the chapter's example. -/
/-- Lists that were laid in blocks of their own, one behind the other. -/
theorem made_lists (w1 : World) {ms : List Life} {ss : List Nat} {n m : Nat} (hn : ms.length = n) (hm : ss.length = m) (hu : ∀ q ∈ ms, 0 ≤ q.2 ∧ q.2 < 18446744073709551616) (h64 : AllU64 ss) (N : Nat) (hnN : n ≤ N) (hmN : m ≤ N) (u : Array Value) (hu2 : u = (ss.map fun (x : Nat) => Value.int .u64 (x : Int)).toArray) :
    Vm ((w1.alloc (.cells (flatP ms).toArray 24)).alloc (.cells u 22)) N (some ⟨w1.heap.size, 0, none⟩) n n (some ⟨w1.heap.size + 1, 0, none⟩) m m ms ss := by
  have L1 := lives_new w1 ms
  have bb2 := below_box (w1.alloc (.cells (flatP ms).toArray 24)) (.cells u 22)
  have e1 : (w1.alloc (.cells (flatP ms).toArray 24)).heap.size = w1.heap.size + 1 := by simp
  have L2 : Lives ((w1.alloc (.cells (flatP ms).toArray 24)).alloc (.cells u 22)) (w1.heap.size + 1) (some ⟨w1.heap.size, 0, none⟩) ms := by
    rw [← e1] at L1 ⊢
    exact L1.below bb2
  have e2 : ((w1.alloc (.cells (flatP ms).toArray 24)).alloc (.cells u 22)).heap.size = w1.heap.size + 2 := by simp
  have N2 : Nums ((w1.alloc (.cells (flatP ms).toArray 24)).alloc (.cells u 22)) (w1.heap.size + 2) (some ⟨w1.heap.size + 1, 0, none⟩) ss := fun hl => by
    refine ⟨_, 0, rfl, by omega, fun k hk => ?_⟩
    rw [← e1, cell_of_row _ _ _ _ _ (0, 0) (heap_alloc_new _ _), hu2]
    simp [List.getD, hk]
  exact ⟨L2.more (by omega), hn, hnN, (fun e => by cases e), hu, N2.more (by omega), hm, hmN, (fun e => by cases e), h64⟩
theorem row_under (w : World) (o : Obj) (o1 o2 : Obj) : (((w.alloc o).alloc o1).alloc o2).heap[w.heap.size]? = (w.alloc o).heap[w.heap.size]? :=
  ((below_box ((w.alloc o).alloc o1) o2).block _ (by simp; omega)).trans ((below_box (w.alloc o) o1).block _ (by simp))
set_option maxHeartbeats 2000000 in
theorem common_any {N N2 : Nat} (i j : Nm) (A : Option Addr) (n c : Nat) (A' : Option Addr) (m c' : Nat) (ms : List Life) (ss : List Nat) (D : Option Addr) (k d : Nat) (D' : Option Addr) (l d' : Nat) (ms2 : List Life) (ss2 : List Nat) (w : World) (h : Vm w N A n c A' m c' ms ss) (h2 : Vm w N2 D k d D' l d' ms2 ss2) (hN : N ≤ 17179869184) (hN2 : N2 ≤ 17179869184) :
    Calls Try.prog 23 #[vwV i A n c A' m c', vwV j D k d D' l d'] w fun e w' => ∃ E q e', e = .returned (.slice E q e') ∧ Hid (Lst w' N E q e' (meetL ms ms2)) ∧ Hid (Below w.heap.size w w') := by
  obtain ⟨r, x, y⟩ := i
  obtain ⟨s, u, v⟩ := j
  have HB1 := Lib.hid ((vbox_new w r x y A n c A' m c' 30).below (below_box _ (.cells (vwC (s, (u, v)) D k d D' l d') 30)))
  have HB2 := vbox_new (w.alloc (.cells (vwC (r, (x, y)) A n c A' m c') 30)) s u v D k d D' l d' 30
  have e : (w.alloc (.cells (vwC (r, (x, y)) A n c A' m c') 30)).heap.size = w.heap.size + 1 := by simp
  rw [e] at HB2
  have HB2 := Lib.hid HB2
  have B2 := Lib.hid (two_below w (.cells (vwC (r, (x, y)) A n c A' m c') 30) (.cells (vwC (s, (u, v)) D k d D' l d') 30))
  have HI := Lib.hid (fun W (hb : Below w.heap.size w W) => meet_lst (h.on hb).lst (h2.on hb).lst (by omega) (by omega))
  clear h h2
  go_enter Try.func23, Try.ntmps23
  obtain ⟨k0, k1, k2, k3, k4⟩ := HB1.out
  obtain ⟨l0, l1, l2, l3, l4⟩ := HB2.out
  go_wp2_with fail
  refine (HI.out _ B2.out).mono ?_
  rintro e W3 ⟨E, e', q, rfl, hl, hb3⟩
  have BW := Lib.hid (btr B2.out hb3.out)
  clear HB1 HB2 B2 hb3 k0 k1 k2 k3 k4 l0 l1 l2 l3 l4
  go_wp2
  go_ret
  exact ⟨E, q, e', rfl, hl, BW⟩
set_option maxHeartbeats 2000000 in
theorem rcommon_any {N N2 : Nat} (i j : Nm) (A : Option Addr) (n c : Nat) (A' : Option Addr) (m c' : Nat) (ms : List Life) (ss : List Nat) (D : Option Addr) (k d : Nat) (D' : Option Addr) (l d' : Nat) (ms2 : List Life) (ss2 : List Nat) (w : World) (h : Vm w N A n c A' m c' ms ss) (h2 : Vm w N2 D k d D' l d' ms2 ss2) (hN : N ≤ 17179869184) (hN2 : N2 ≤ 17179869184) :
    Calls Try.prog 24 #[vwV i A n c A' m c', vwV j D k d D' l d'] w fun e w' => ∃ E q e', e = .returned (.slice E q e') ∧ Hid (Lst w' N E q e' (meetL ms ms2)) ∧ Hid (Below w.heap.size w w') := by
  obtain ⟨r, x, y⟩ := i
  obtain ⟨s, u, v⟩ := j
  have HB1 := Lib.hid ((vbox_new w r x y A n c A' m c' 30).below (below_box _ (.cells (vwC (s, (u, v)) D k d D' l d') 30)))
  have HB2 := vbox_new (w.alloc (.cells (vwC (r, (x, y)) A n c A' m c') 30)) s u v D k d D' l d' 30
  have e : (w.alloc (.cells (vwC (r, (x, y)) A n c A' m c') 30)).heap.size = w.heap.size + 1 := by simp
  rw [e] at HB2
  have HB2 := Lib.hid HB2
  have B2 := Lib.hid (two_below w (.cells (vwC (r, (x, y)) A n c A' m c') 30) (.cells (vwC (s, (u, v)) D k d D' l d') 30))
  have HI := Lib.hid (fun W (hb : Below w.heap.size w W) => rkept_any true (h.on hb).lst (h2.on hb).lst (by omega) (by omega))
  clear h h2
  go_enter Try.func24, Try.ntmps24
  obtain ⟨k0, k1, k2, k3, k4⟩ := HB1.out
  obtain ⟨l0, l1, l2, l3, l4⟩ := HB2.out
  go_wp2_with fail
  refine (HI.out _ B2.out).mono ?_
  rintro e W3 ⟨E, e', q, rfl, hl, hb3⟩
  have BW := Lib.hid (btr B2.out hb3.out)
  clear HB1 HB2 B2 hb3 k0 k1 k2 k3 k4 l0 l1 l2 l3 l4
  go_wp2
  go_ret
  exact ⟨E, q, e', rfl, Lib.hid (by rw [← filter_true]; exact hl.out), BW⟩
set_option maxHeartbeats 2000000 in
theorem first_any (p : Life) (w : World) (hp : 0 ≤ p.2 ∧ p.2 < 18446744073709551616) :
    Calls Try.prog 17 #[lifeV p] w fun e w' => ∃ A A', e = .returned (vwV (0, p) A 1 1 A' 1 1) ∧ Hid (Vm w' 1 A 1 1 A' 1 1 [p] [0]) ∧ Hid (Below w.heap.size w w') := by
  obtain ⟨p1, p2⟩ := p
  have HP := Lib.hid (show ∀ q ∈ [((p1, p2) : Life)], 0 ≤ q.2 ∧ q.2 < 18446744073709551616 from fun q hq => by rw [List.mem_singleton.1 hq]; exact hp)
  clear hp
  go_enter Try.func17, Try.ntmps17
  go_wp2_with fail
  have e1 : (w.alloc (.cells #[.int .i64 p1, .int .u64 p2] 24)).heap.size = w.heap.size + 1 := by simp
  have b1 := below_box w (.cells #[.int .i64 p1, .int .u64 p2] 24)
  generalize w.alloc (.cells #[.int .i64 p1, .int .u64 p2] 24) = W1 at *
  rw [← e1]
  have HM := made_lists (W1.alloc (.cells #[.int .u64 0, .int .i64 p1, .int .u64 p2, .slice (some ⟨W1.heap.size + 1, 0, none⟩) 1 1, .slice (some ⟨W1.heap.size + 1 + 1, 0, none⟩) 1 1] 30)) (ms := [(p1, p2)]) (ss := [0]) (n := 1) (m := 1) rfl rfl HP.out (fun x hx => by rw [List.mem_singleton.1 hx]; decide) 1 (by omega) (by omega) #[.int .u64 0] rfl
  have e2 : (W1.alloc (.cells #[.int .u64 0, .int .i64 p1, .int .u64 p2, .slice (some ⟨W1.heap.size + 1, 0, none⟩) 1 1, .slice (some ⟨W1.heap.size + 1 + 1, 0, none⟩) 1 1] 30)).heap.size = W1.heap.size + 1 := by simp
  rw [e2] at HM
  have HF := (row_under W1 (.cells #[.int .u64 0, .int .i64 p1, .int .u64 p2, .slice (some ⟨W1.heap.size + 1, 0, none⟩) 1 1, .slice (some ⟨W1.heap.size + 1 + 1, 0, none⟩) 1 1] 30) (.cells (flatP [(p1, p2)]).toArray 24) (.cells #[.int .u64 0] 22)).trans (heap_alloc_new _ _)
  have bb := ((b1.alloc (by omega) (.cells #[.int .u64 0, .int .i64 p1, .int .u64 p2, .slice (some ⟨W1.heap.size + 1, 0, none⟩) 1 1, .slice (some ⟨W1.heap.size + 1 + 1, 0, none⟩) 1 1] 30)).alloc (by simp; omega) (.cells (flatP [(p1, p2)]).toArray 24)).alloc (by simp; omega) (.cells #[.int .u64 0] 22)
  refine bodyPost_ret (results_cell_row rfl _ _ W1.heap.size 30 #[.int .u64 0, .int .i64 p1, .int .u64 p2, .slice (some ⟨W1.heap.size + 1, 0, none⟩) 1 1, .slice (some ⟨W1.heap.size + 1 + 1, 0, none⟩) 1 1] (0, 0) _ rfl HF Try.underlying30 rfl (by kernel_rfl)) rfl ?_
  exact ⟨_, _, rfl, Lib.hid HM, Lib.hid bb⟩
set_option maxHeartbeats 2000000 in
theorem rfirst_any (p : Life) (w : World) (hp : 0 ≤ p.2 ∧ p.2 < 18446744073709551616) :
    Calls Try.prog 18 #[lifeV p] w fun e w' => ∃ A A', e = .returned (vwV (0, p) A 1 1 A' 1 1) ∧ Hid (Vm w' 1 A 1 1 A' 1 1 [p] [0]) ∧ Hid (Below w.heap.size w w') := by
  obtain ⟨p1, p2⟩ := p
  have HP := Lib.hid (show ∀ q ∈ [((p1, p2) : Life)], 0 ≤ q.2 ∧ q.2 < 18446744073709551616 from fun q hq => by rw [List.mem_singleton.1 hq]; exact hp)
  clear hp
  go_enter Try.func18, Try.ntmps18
  go_wp2_with fail
  have e1 : (w.alloc (.cells #[.int .i64 p1, .int .u64 p2] 24)).heap.size = w.heap.size + 1 := by simp
  have b1 := below_box w (.cells #[.int .i64 p1, .int .u64 p2] 24)
  generalize w.alloc (.cells #[.int .i64 p1, .int .u64 p2] 24) = W1 at *
  rw [← e1]
  have HM := made_lists (W1.alloc (.cells #[.int .u64 0, .int .i64 p1, .int .u64 p2, .slice (some ⟨W1.heap.size + 1, 0, none⟩) 1 1, .slice (some ⟨W1.heap.size + 1 + 1, 0, none⟩) 1 1] 30)) (ms := [(p1, p2)]) (ss := [0]) (n := 1) (m := 1) rfl rfl HP.out (fun x hx => by rw [List.mem_singleton.1 hx]; decide) 1 (by omega) (by omega) #[.int .u64 0] rfl
  have e2 : (W1.alloc (.cells #[.int .u64 0, .int .i64 p1, .int .u64 p2, .slice (some ⟨W1.heap.size + 1, 0, none⟩) 1 1, .slice (some ⟨W1.heap.size + 1 + 1, 0, none⟩) 1 1] 30)).heap.size = W1.heap.size + 1 := by simp
  rw [e2] at HM
  have HF := (row_under W1 (.cells #[.int .u64 0, .int .i64 p1, .int .u64 p2, .slice (some ⟨W1.heap.size + 1, 0, none⟩) 1 1, .slice (some ⟨W1.heap.size + 1 + 1, 0, none⟩) 1 1] 30) (.cells (flatP [(p1, p2)]).toArray 24) (.cells #[.int .u64 0] 22)).trans (heap_alloc_new _ _)
  have bb := ((b1.alloc (by omega) (.cells #[.int .u64 0, .int .i64 p1, .int .u64 p2, .slice (some ⟨W1.heap.size + 1, 0, none⟩) 1 1, .slice (some ⟨W1.heap.size + 1 + 1, 0, none⟩) 1 1] 30)).alloc (by simp; omega) (.cells (flatP [(p1, p2)]).toArray 24)).alloc (by simp; omega) (.cells #[.int .u64 0] 22)
  refine bodyPost_ret (results_cell_row rfl _ _ W1.heap.size 30 #[.int .u64 0, .int .i64 p1, .int .u64 p2, .slice (some ⟨W1.heap.size + 1, 0, none⟩) 1 1, .slice (some ⟨W1.heap.size + 1 + 1, 0, none⟩) 1 1] (0, 0) _ rfl HF Try.underlying30 rfl (by kernel_rfl)) rfl ?_
  exact ⟨_, _, rfl, Lib.hid HM, Lib.hid bb⟩
def fewM : List Life := [(5, 2), (6, 1)]
def fewS : List Nat := [4, 9]
abbrev fewI : Nm := (3, (1, 1))
set_option maxHeartbeats 2000000 in
theorem few_any (w : World) :
    Calls Try.prog 36 #[] w fun e w' => ∃ A A', e = .returned (vwV fewI A 2 2 A' 2 2) ∧ Hid (Vm w' 2 A 2 2 A' 2 2 fewM fewS) ∧ Hid (Below w.heap.size w w') ∧ Hid (∀ b, (blockOf A = some b ∨ blockOf A' = some b) → w.heap.size ≤ b) := by
  go_enter Try.func36, Try.ntmps36
  go_wp2_with fail
  have HM := made_lists (w.alloc (.cells #[.int .u64 3, .int .i64 1, .int .u64 1, .slice (some ⟨w.heap.size + 1, 0, none⟩) 2 2, .slice (some ⟨w.heap.size + 1 + 1, 0, none⟩) 2 2] 30)) (ms := fewM) (ss := fewS) (n := 2) (m := 2) rfl rfl (by decide) (show ∀ x ∈ fewS, x < 18446744073709551616 by decide) 2 (by omega) (by omega) #[.int .u64 4, .int .u64 9] rfl
  have e2 : (w.alloc (.cells #[.int .u64 3, .int .i64 1, .int .u64 1, .slice (some ⟨w.heap.size + 1, 0, none⟩) 2 2, .slice (some ⟨w.heap.size + 1 + 1, 0, none⟩) 2 2] 30)).heap.size = w.heap.size + 1 := by simp
  rw [e2] at HM
  have HF := (row_under w (.cells #[.int .u64 3, .int .i64 1, .int .u64 1, .slice (some ⟨w.heap.size + 1, 0, none⟩) 2 2, .slice (some ⟨w.heap.size + 1 + 1, 0, none⟩) 2 2] 30) (.cells (flatP fewM).toArray 24) (.cells #[.int .u64 4, .int .u64 9] 22)).trans (heap_alloc_new _ _)
  have bb := (((Below.refl w.heap.size w).alloc (by omega) (.cells #[.int .u64 3, .int .i64 1, .int .u64 1, .slice (some ⟨w.heap.size + 1, 0, none⟩) 2 2, .slice (some ⟨w.heap.size + 1 + 1, 0, none⟩) 2 2] 30)).alloc (by simp) (.cells (flatP fewM).toArray 24)).alloc (by simp; omega) (.cells #[.int .u64 4, .int .u64 9] 22)
  refine bodyPost_ret (results_cell_row rfl _ _ w.heap.size 30 #[.int .u64 3, .int .i64 1, .int .u64 1, .slice (some ⟨w.heap.size + 1, 0, none⟩) 2 2, .slice (some ⟨w.heap.size + 1 + 1, 0, none⟩) 2 2] (0, 0) _ rfl HF Try.underlying30 rfl (by kernel_rfl)) rfl ?_
  refine ⟨_, _, rfl, Lib.hid HM, Lib.hid bb, Lib.hid (fun b e => ?_)⟩
  rcases e with e | e <;> (simp [blockOf] at e; omega)
set_option maxHeartbeats 2000000 in
theorem heavy4_any (i : Nm) (A : Option Addr) (n c : Nat) (A' : Option Addr) (m c' : Nat) (w : World) (hn : n ≤ 9223372036854775807) (hm : m ≤ 9223372036854775807) :
    Calls Try.prog 9 #[vwV i A n c A' m c'] w fun e w' => e = .returned (.bool (decide (300 < n ∨ 300 < m))) ∧ Hid (Below w.heap.size w w') := by
  obtain ⟨r, x, y⟩ := i
  have HB := Lib.hid (vbox_new w r x y A n c A' m c' 30)
  have B1 := Lib.hid (below_box w (.cells (vwC (r, (x, y)) A n c A' m c') 30))
  go_enter Try.func9, Try.ntmps9
  obtain ⟨k0, k1, k2, k3, k4⟩ := HB.out
  by_cases h1 : 300 < n
  · have g1 : (300 : Int) < (n : Int) := by omega
    have e : decide (300 < n ∨ 300 < m) = true := decide_eq_true (.inl h1)
    rw [e]
    go_wp2
    go_ret
    exact ⟨rfl, B1⟩
  · have g1 : ¬ (300 : Int) < (n : Int) := by omega
    by_cases h2 : 300 < m
    · have g2 : (300 : Int) < (m : Int) := by omega
      have e : decide (300 < n ∨ 300 < m) = true := decide_eq_true (.inr h2)
      rw [e]
      go_wp2
      go_ret
      exact ⟨rfl, B1⟩
    · have g2 : decide ((300 : Int) < (m : Int)) = false := decide_eq_false (by omega)
      have g3 : decide (300 < m) = false := decide_eq_false h2
      have e : decide (300 < n ∨ 300 < m) = false := decide_eq_false (by omega)
      rw [e]
      go_wp2
      go_ret
      exact ⟨by first | rfl | exact congrArg (fun b => Ending.returned (.bool b)) g3, B1⟩
end Go.Proofs.Ytgkldjolnbnehaa
/-
  Whether two views are the same, by the program and by the document's answer. For lists of at most 2^34 members.
-/
namespace Go.Proofs.Ytgkldjolnbnehaa
set_option maxRecDepth 20000
open Go.RowKit

theorem enters_s1 : ∀ args w, (callFunc 53 args).run Try.prog w = .ok (.enter 53 args) w := enters_of Try.func53 (by kernel_rfl) rfl
theorem enters_s2 : ∀ args w, (callFunc 54 args).run Try.prog w = .ok (.enter 54 args) w := enters_of Try.func54 (by kernel_rfl) rfl
theorem enters_s3 : ∀ args w, (callFunc 56 args).run Try.prog w = .ok (.enter 56 args) w := enters_of Try.func56 (by kernel_rfl) rfl
theorem vw_eq (i j : Nm) (ms ms2 : List Life) (ss ss2 : List Nat) : decide ((⟨i, ms, ss⟩ : Vw) = ⟨j, ms2, ss2⟩) = (decide (i = j) && (decide (ms = ms2) && (decide (ss = ss2) && true))) := by
  rw [Bool.eq_iff_iff]
  simp [Vw.mk.injEq]
set_option maxHeartbeats 1000000 in
theorem s1_any (b1 b2 : Nat) (r x y s u v : Int) (w : World) (h1 : NBox b1 r x y w) (h2 : NBox b2 s u v w) :
    Calls Try.prog 53 #[.pointer (some ⟨b1, 0, none⟩), .pointer (some ⟨b2, 0, none⟩)] w fun e w' => e = .returned (.bool (decide (((r, (x, y)) : Nm) = (s, (u, v))))) ∧ Hid (Below w.heap.size w w') := by
  have he := fun w => eqn_run r x y s u v w
  have hg := fun op a b w => guardn_run op a b r x y s u v w
  generalize decide (((r, (x, y)) : Nm) = (s, (u, v))) = d at *
  obtain ⟨k0, k1, k2⟩ := h1
  obtain ⟨l0, l1, l2⟩ := h2
  go_enter Try.func53, Try.ntmps53
  go_wp2
  go_ret
  exact ⟨rfl, Lib.hid (Below.refl _ _)⟩
set_option maxHeartbeats 1000000 in
theorem s2_any {N N2 : Nat} (b1 b2 : Nat) (r x y s u v : Int) (A : Option Addr) (n c : Nat) (A' : Option Addr) (m c' : Nat) (ms : List Life) (ss : List Nat) (D : Option Addr) (k d : Nat) (D' : Option Addr) (l d' : Nat) (ms2 : List Life) (ss2 : List Nat) (w : World) (h1 : VBox b1 r x y A n c A' m c' w) (h2 : VBox b2 s u v D k d D' l d' w) (hv1 : Vm w N A n c A' m c' ms ss) (hv2 : Vm w N2 D k d D' l d' ms2 ss2) (hN : N ≤ 17179869184) (hN2 : N2 ≤ 17179869184) :
    Calls Try.prog 54 #[.pointer (some ⟨b1, 0, none⟩), .pointer (some ⟨b2, 0, none⟩)] w fun e w' => e = .returned (.bool (decide (ms = ms2))) ∧ Hid (Below w.heap.size w w') := by
  have HI := Lib.hid (sequal_any A ms n c D ms2 k d w hv1.lives hv2.lives hv1.len hv2.len (by have := hv1.le; omega) (by have := hv2.le; omega))
  generalize decide (ms = ms2) = q at *
  obtain ⟨k0, k1, k2, k3, k4⟩ := h1
  obtain ⟨l0, l1, l2, l3, l4⟩ := h2
  clear hv1 hv2
  go_enter Try.func54, Try.ntmps54
  go_wp2_with fail
  refine HI.out.mono ?_
  rintro e w1 ⟨rfl, hb⟩
  go_wp2
  go_ret
  exact ⟨rfl, hb⟩
set_option maxHeartbeats 1000000 in
theorem s3_any {N N2 : Nat} (b1 b2 : Nat) (r x y s u v : Int) (A : Option Addr) (n c : Nat) (A' : Option Addr) (m c' : Nat) (ms : List Life) (ss : List Nat) (D : Option Addr) (k d : Nat) (D' : Option Addr) (l d' : Nat) (ms2 : List Life) (ss2 : List Nat) (w : World) (h1 : VBox b1 r x y A n c A' m c' w) (h2 : VBox b2 s u v D k d D' l d' w) (hv1 : Vm w N A n c A' m c' ms ss) (hv2 : Vm w N2 D k d D' l d' ms2 ss2) (hN : N ≤ 17179869184) (hN2 : N2 ≤ 17179869184) :
    Calls Try.prog 56 #[.pointer (some ⟨b1, 0, none⟩), .pointer (some ⟨b2, 0, none⟩)] w fun e w' => e = .returned (.bool (decide (ss = ss2))) ∧ Hid (Below w.heap.size w w') := by
  have HI := Lib.hid (uequal_any A' ss m c' D' ss2 l d' w hv1.nums hv2.nums hv1.slen hv2.slen (by have := hv1.sle; omega) (by have := hv2.sle; omega))
  generalize decide (ss = ss2) = q at *
  obtain ⟨k0, k1, k2, k3, k4⟩ := h1
  obtain ⟨l0, l1, l2, l3, l4⟩ := h2
  clear hv1 hv2
  go_enter Try.func56, Try.ntmps56
  go_wp2_with fail
  refine HI.out.mono ?_
  rintro e w1 ⟨rfl, hb⟩
  go_wp2
  go_ret
  exact ⟨rfl, hb⟩
/-- Two views in blocks side by side. -/
theorem box_two (w : World) (r x y s u v : Int) (A : Option Addr) (n c : Nat) (A' : Option Addr) (m c' : Nat) (D : Option Addr) (k d : Nat) (D' : Option Addr) (l d' : Nat) (t : TypeId) :
    VBox w.heap.size r x y A n c A' m c' ((w.alloc (.cells #[.int .u64 r, .int .i64 x, .int .u64 y, .slice A n c, .slice A' m c'] t)).alloc (.cells #[.int .u64 s, .int .i64 u, .int .u64 v, .slice D k d, .slice D' l d'] t)) ∧
    VBox (w.heap.size + 1) s u v D k d D' l d' ((w.alloc (.cells #[.int .u64 r, .int .i64 x, .int .u64 y, .slice A n c, .slice A' m c'] t)).alloc (.cells #[.int .u64 s, .int .i64 u, .int .u64 v, .slice D k d, .slice D' l d'] t)) := by
  have e : (w.alloc (.cells #[.int .u64 r, .int .i64 x, .int .u64 y, .slice A n c, .slice A' m c'] t)).heap.size = w.heap.size + 1 := by simp
  have h2 := vbox_new (w.alloc (.cells #[.int .u64 r, .int .i64 x, .int .u64 y, .slice A n c, .slice A' m c'] t)) s u v D k d D' l d' t
  rw [e] at h2
  exact ⟨(vbox_new w r x y A n c A' m c' t).below (below_box _ _), h2⟩
theorem same_asks {N N2 : Nat} (b1 b2 : Nat) (r x y s u v : Int) (A : Option Addr) (n c : Nat) (A' : Option Addr) (m c' : Nat) (ms : List Life) (ss : List Nat) (D : Option Addr) (k d : Nat) (D' : Option Addr) (l d' : Nat) (ms2 : List Life) (ss2 : List Nat) (w : World) (h1 : VBox b1 r x y A n c A' m c' w) (h2 : VBox b2 s u v D k d D' l d' w) (hv1 : Vm w N A n c A' m c' ms ss) (hv2 : Vm w N2 D k d D' l d' ms2 ss2) (hN : N ≤ 17179869184) (hN2 : N2 ≤ 17179869184)
    (W : World) (hW : Below w.heap.size w W) (b : Nat) (e0 : W.cell? ⟨b, 0, none⟩ = some (.func (.func 53) #[] #[.pointer (some ⟨b1, 0, none⟩), .pointer (some ⟨b2, 0, none⟩)]))
    (e1 : W.cell? ⟨b, 1, none⟩ = some (.func (.func 54) #[] #[.pointer (some ⟨b1, 0, none⟩), .pointer (some ⟨b2, 0, none⟩)]))
    (e2 : W.cell? ⟨b, 2, none⟩ = some (.func (.func 56) #[] #[.pointer (some ⟨b1, 0, none⟩), .pointer (some ⟨b2, 0, none⟩)])) :
    Asks3 W b [(53, #[.pointer (some ⟨b1, 0, none⟩), .pointer (some ⟨b2, 0, none⟩)], decide (((r, (x, y)) : Nm) = (s, (u, v)))), (54, #[.pointer (some ⟨b1, 0, none⟩), .pointer (some ⟨b2, 0, none⟩)], decide (ms = ms2)), (56, #[.pointer (some ⟨b1, 0, none⟩), .pointer (some ⟨b2, 0, none⟩)], decide (ss = ss2))] := by
  constructor
  · intro q hq
    have : q = 0 ∨ q = 1 ∨ q = 2 := by simp at hq; omega
    rcases this with rfl | rfl | rfl
    · exact e0
    · exact e1
    · exact e2
  · intro q hq
    have : q = 0 ∨ q = 1 ∨ q = 2 := by simp at hq; omega
    rcases this with rfl | rfl | rfl
    · exact enters_s1
    · exact enters_s2
    · exact enters_s3
  · intro q hq V hV
    have hb := btr hW hV
    have : q = 0 ∨ q = 1 ∨ q = 2 := by simp at hq; omega
    rcases this with rfl | rfl | rfl
    · exact s1_any _ _ r x y s u v V (h1.below hb).nbox (h2.below hb).nbox
    · exact s2_any _ _ r x y s u v A n c A' m c' ms ss D k d D' l d' ms2 ss2 V (h1.below hb) (h2.below hb) (hv1.on hb) (hv2.on hb) hN hN2
    · exact s3_any _ _ r x y s u v A n c A' m c' ms ss D k d D' l d' ms2 ss2 V (h1.below hb) (h2.below hb) (hv1.on hb) (hv2.on hb) hN hN2
set_option maxHeartbeats 2000000 in
theorem vsame_any {N N2 : Nat} (i j : Nm) (A : Option Addr) (n c : Nat) (A' : Option Addr) (m c' : Nat) (ms : List Life) (ss : List Nat) (D : Option Addr) (k d : Nat) (D' : Option Addr) (l d' : Nat) (ms2 : List Life) (ss2 : List Nat) (w : World) (h : Vm w N A n c A' m c' ms ss) (h2 : Vm w N2 D k d D' l d' ms2 ss2) (hN : N ≤ 17179869184) (hN2 : N2 ≤ 17179869184) :
    Calls Try.prog 21 #[vwV i A n c A' m c', vwV j D k d D' l d'] w fun e w' => e = .returned (.bool (decide ((⟨i, ms, ss⟩ : Vw) = ⟨j, ms2, ss2⟩))) ∧ Hid (Below w.heap.size w w') := by
  obtain ⟨r, x, y⟩ := i
  obtain ⟨s, u, v⟩ := j
  have HB := Lib.hid (box_two w r x y s u v A n c A' m c' D k d D' l d' 30)
  have B2 := Lib.hid (two_below w (.cells (vwC (r, (x, y)) A n c A' m c') 30) (.cells (vwC (s, (u, v)) D k d D' l d') 30))
  have HV1 := Lib.hid (h.on B2.out)
  have HV2 := Lib.hid (h2.on B2.out)
  rw [vw_eq]
  clear h h2
  generalize hr : (decide (((r, (x, y)) : Nm) = (s, (u, v))) && (decide (ms = ms2) && (decide (ss = ss2) && true))) = res
  have HR := Lib.hid hr
  clear hr
  go_enter Try.func21, Try.ntmps21
  go_wp2_with fail
  have e2 : ((w.alloc (.cells (vwC (r, (x, y)) A n c A' m c') 30)).alloc (.cells (vwC (s, (u, v)) D k d D' l d') 30)).heap.size = w.heap.size + 1 + 1 := by simp
  generalize ((w.alloc (.cells (vwC (r, (x, y)) A n c A' m c') 30)).alloc (.cells (vwC (s, (u, v)) D k d D' l d') 30)) = W2 at *
  rw [← e2]
  have hAll := (all_any _ _ 3 3 (W2.alloc (.cells #[.func (.func 53) #[] #[.pointer (some ⟨w.heap.size, 0, none⟩), .pointer (some ⟨w.heap.size + 1, 0, none⟩)], .func (.func 54) #[] #[.pointer (some ⟨w.heap.size, 0, none⟩), .pointer (some ⟨w.heap.size + 1, 0, none⟩)], .func (.func 56) #[] #[.pointer (some ⟨w.heap.size, 0, none⟩), .pointer (some ⟨w.heap.size + 1, 0, none⟩)]] 32)) (same_asks w.heap.size (w.heap.size + 1) r x y s u v A n c A' m c' ms ss D k d D' l d' ms2 ss2 W2 HB.out.1 HB.out.2 HV1.out HV2.out hN hN2 _ (below_box W2 (.cells #[.func (.func 53) #[] #[.pointer (some ⟨w.heap.size, 0, none⟩), .pointer (some ⟨w.heap.size + 1, 0, none⟩)], .func (.func 54) #[] #[.pointer (some ⟨w.heap.size, 0, none⟩), .pointer (some ⟨w.heap.size + 1, 0, none⟩)], .func (.func 56) #[] #[.pointer (some ⟨w.heap.size, 0, none⟩), .pointer (some ⟨w.heap.size + 1, 0, none⟩)]] 32)) W2.heap.size (cell_at_new W2 _ _ 0 _ rfl) (cell_at_new W2 _ _ 1 _ rfl) (cell_at_new W2 _ _ 2 _ rfl)) rfl (by omega))
  simp only [List.all_cons, List.all_nil, HR.out] at hAll
  refine hAll.mono ?_
  rintro e W3 ⟨rfl, hb3⟩
  have BW := Lib.hid (btr B2.out (btr (below_box W2 _) hb3.out))
  clear HB HV1 HV2 B2 hb3 hAll
  go_wp2
  go_ret
  exact ⟨rfl, BW⟩
set_option maxHeartbeats 4000000 in
theorem rsame4_any {N N2 : Nat} (i j : Nm) (A : Option Addr) (n c : Nat) (A' : Option Addr) (m c' : Nat) (ms : List Life) (ss : List Nat) (D : Option Addr) (k d : Nat) (D' : Option Addr) (l d' : Nat) (ms2 : List Life) (ss2 : List Nat) (w : World) (h : Vm w N A n c A' m c' ms ss) (h2 : Vm w N2 D k d D' l d' ms2 ss2) (hN : N ≤ 17179869184) (hN2 : N2 ≤ 17179869184) :
    Calls Try.prog 16 #[vwV i A n c A' m c', vwV j D k d D' l d'] w fun e w' => e = .returned (.bool (decide ((⟨i, ms, ss⟩ : Vw) = ⟨j, ms2, ss2⟩))) ∧ Hid (Below w.heap.size w w') := by
  obtain ⟨r, x, y⟩ := i
  obtain ⟨s, u, v⟩ := j
  obtain ⟨hb1, hb2⟩ := box_two w r x y s u v A n c A' m c' D k d D' l d' 30
  have HB1 := Lib.hid hb1
  have HB2 := Lib.hid hb2
  have B2 := Lib.hid (two_below w (.cells (vwC (r, (x, y)) A n c A' m c') 30) (.cells (vwC (s, (u, v)) D k d D' l d') 30))
  have HI := Lib.hid (fun W (hb : Below w.heap.size w W) => requal_any A ms n c D ms2 k d W (h.on hb).lives (h2.on hb).lives h.len h2.len (by have := h.le; omega) (by have := h2.le; omega))
  have HN1 := Lib.hid (fun W (hb : Below w.heap.size w W) => (h.on hb).nums)
  have HN2 := Lib.hid (fun W (hb : Below w.heap.size w W) => (h2.on hb).nums)
  have HL1 := Lib.hid h.slen
  have HL2 := Lib.hid h2.slen
  have hm1 : m ≤ 17179869184 := Nat.le_trans h.sle hN
  have hm2 : l ≤ 17179869184 := Nat.le_trans h2.sle hN2
  have he := fun w => nen_run r x y s u v w
  have hg := fun op a b w => guardn_run op a b r x y s u v w
  rw [vw_eq]
  generalize hr : (decide (((r, (x, y)) : Nm) = (s, (u, v))) && (decide (ms = ms2) && (decide (ss = ss2) && true))) = res
  generalize hdi : decide (((r, (x, y)) : Nm) = (s, (u, v))) = di at *
  generalize hdm : decide (ms = ms2) = dm at *
  have HR := Lib.hid hr
  clear h h2 hb1 hb2 hdi hdm hr
  cases di with
  | false =>
    have : res = false := by rw [← HR.out]; rfl
    subst this
    have he2 : (!false) = true := rfl
    rw [he2] at he
    go_enter Try.func16, Try.ntmps16
    obtain ⟨k0, k1, k2, k3, k4⟩ := HB1.out
    obtain ⟨l0, l1, l2, l3, l4⟩ := HB2.out
    go_wp2
    go_ret
    exact ⟨rfl, B2⟩
  | true =>
    have he2 : (!true) = false := rfl
    rw [he2] at he
    go_enter Try.func16, Try.ntmps16
    obtain ⟨k0, k1, k2, k3, k4⟩ := HB1.out
    obtain ⟨l0, l1, l2, l3, l4⟩ := HB2.out
    go_wp2_with fail
    refine (HI.out _ B2.out).mono ?_
    rintro e W3 ⟨rfl, hb3⟩
    have BW := Lib.hid (btr B2.out hb3.out)
    have q1 := cell_below k4 hb3.out
    have q2 := cell_below l4 hb3.out
    clear HI HB1 HB2 B2 hb3 k0 k1 k2 k3 k4 l0 l1 l2 l3 l4 he hg
    cases dm with
    | false =>
      have : res = false := by rw [← HR.out]; rfl
      subst this
      go_wp2
      go_ret
      exact ⟨rfl, BW⟩
    | true =>
      have H1 := Lib.hid (HN1.out W3 BW.out)
      have H2 := Lib.hid (HN2.out W3 BW.out)
      clear HN1 HN2
      by_cases hml : m = l
      · subst hml
        have hne : ((m : Int) != (m : Int)) = false := by simp
        go_wp2_with fail
        go_loopw [5] (fun i wr => ∃ k q : Nat, k ≤ m ∧ i = .int .i64 k ∧ wr = W3.drewN q ∧ Hid (∀ j, j < k → atN ss j = atN ss2 j)) (fun i _ => m - (intOf i).toNat)
        case atStart => exact ⟨0, 0, Nat.zero_le _, rfl, rfl, Lib.hid fun j hj => absurd hj (Nat.not_lt_zero _)⟩
        case round =>
          obtain ⟨k, q, hk, rfl, rfl, hall⟩ := hrel
          by_cases hlt : k < m
          · obtain ⟨b, off, rfl, hbb, c1⟩ := H1.out.at_ (k := k) (by rw [HL1.out]; exact hlt)
            obtain ⟨b', off', rfl, hbb', d1⟩ := H2.out.at_ (k := k) (by rw [HL2.out]; exact hlt)
            have g0 : (0 : Int) ≤ (k : Int) := by omega
            have g1 : (k : Int) < (m : Int) := by omega
            generalize hx1 : atN ss k = x1 at *
            generalize hy1 : atN ss2 k = y1 at *
            have E1 := Lib.hid hx1
            have E2 := Lib.hid hy1
            clear hx1 hy1
            by_cases hx : x1 = y1
            · subst hx
              have hx2 : ((x1 : Int) != (x1 : Int)) = false := by simp
              go_wp2_with fail
              go_quiet (fail)
              go_wp2
              go_roundw
              case rel => exact ⟨k + 1, q + nq, by omega, by go_num, rfl, Lib.hid fun j hj => by
                by_cases hjk : j = k
                · subst hjk
                  rw [E1.out, E2.out]
                · exact hall.out j (by omega)⟩
              case measure => simp [intOf]; omega
            · have hx2 : ((x1 : Int) != (y1 : Int)) = true := by simp; omega
              have HX := Lib.hid hx
              clear hx
              have hne2 : ss ≠ ss2 := fun e => HX.out (by rw [← E1.out, ← E2.out, e])
              have : res = false := by rw [← HR.out, decide_eq_false hne2]; rfl
              subst this
              clear hne2
              go_wp2_with fail
              go_quiet (fail)
              go_wp2
              go_ret
              exact ⟨rfl, Lib.hid ⟨BW.out.os, BW.out.tape, BW.out.output, BW.out.size, BW.out.block⟩⟩
          · obtain rfl : k = m := by omega
            have g1 : ¬ (k : Int) < (k : Int) := by omega
            have hss : ss = ss2 := nums_ext (HL1.out.trans HL2.out.symm) (by rw [HL1.out]; exact hall.out)
            have : res = true := by rw [← HR.out, decide_eq_true hss]; rfl
            subst this
            clear hss
            go_wp2
            go_ret
            exact ⟨rfl, Lib.hid ⟨BW.out.os, BW.out.tape, BW.out.output, BW.out.size, BW.out.block⟩⟩
      · have hne : ((m : Int) != (l : Int)) = true := by simp; omega
        have hne2 : ss ≠ ss2 := fun e => hml (by rw [← HL1.out, ← HL2.out, e])
        have : res = false := by rw [← HR.out, decide_eq_false hne2]; rfl
        subst this
        clear hne2
        go_wp2
        go_ret
        exact ⟨rfl, BW⟩
end Go.Proofs.Ytgkldjolnbnehaa
/-
  Whether a view may be, by the program and by the document's answer. For lists of at most 2^34 members.
-/
namespace Go.Proofs.Ytgkldjolnbnehaa
set_option maxRecDepth 20000
open Go.RowKit
open Go.Sort (grow)

theorem enters_m1 : ∀ args w, (callFunc 38 args).run Try.prog w = .ok (.enter 38 args) w := enters_of Try.func38 (by kernel_rfl) rfl
theorem enters_m2 : ∀ args w, (callFunc 39 args).run Try.prog w = .ok (.enter 39 args) w := enters_of Try.func39 (by kernel_rfl) rfl
theorem enters_m3 : ∀ args w, (callFunc 40 args).run Try.prog w = .ok (.enter 40 args) w := enters_of Try.func40 (by kernel_rfl) rfl
theorem enters_m4 : ∀ args w, (callFunc 43 args).run Try.prog w = .ok (.enter 43 args) w := enters_of Try.func43 (by kernel_rfl) rfl
theorem mayV_zero (x y : Int) (ms : List Life) (ss : List Nat) : decide (mayV ⟨(0, (x, y)), ms, ss⟩) = (decide (mayL (x, y)) && decide ((⟨(0, (x, y)), ms, ss⟩ : Vw) = ⟨(0, (x, y)), [(x, y)], [0]⟩)) := by
  rw [Bool.eq_iff_iff]
  simp [mayV, firstV]
theorem mayNm_zero (x y : Int) : decide (mayNm (0, (x, y))) = decide (mayL (x, y)) := by
  rw [Bool.eq_iff_iff]
  simp [mayNm]
theorem mayV_pos {r : Int} (x y : Int) (ms : List Life) (ss : List Nat) (hr : r ≠ 0) : decide (mayV ⟨(r, (x, y)), ms, ss⟩) = (decide (mayNm (r, (x, y))) && (decide (1 ≤ ms.length ∧ ms.length ≤ 6) && (decide (isSet ms ∧ apart ms) && (decide (ss.length = ms.length ∧ 0 ∉ ss) && true)))) := by
  rw [Bool.eq_iff_iff]
  simp [mayV, agreed, hr, and_assoc]
set_option maxHeartbeats 1000000 in
theorem m1_any (b : Nat) (r x y : Int) (hy : 0 ≤ y) (w : World) (h1 : NBox b r x y w) :
    Calls Try.prog 38 #[.pointer (some ⟨b, 0, none⟩)] w fun e w' => e = .returned (.bool (decide (mayNm (r, (x, y))))) ∧ Hid (Below w.heap.size w w') := by
  have HI := Lib.hid (mayid_any (r, (x, y)) hy w)
  generalize decide (mayNm (r, (x, y))) = d at *
  obtain ⟨k0, k1, k2⟩ := h1
  go_enter Try.func38, Try.ntmps38
  go_wp2_with fail
  refine HI.out.mono ?_
  rintro e w1 ⟨rfl, hb⟩
  go_wp2
  go_ret
  exact ⟨rfl, hb⟩
set_option maxHeartbeats 1000000 in
theorem m2_any (b : Nat) (r x y : Int) (A : Option Addr) (n c : Nat) (A' : Option Addr) (m c' : Nat) (ms : List Life) (hn : ms.length = n) (hle : n ≤ 17179869184) (w : World) (h1 : VBox b r x y A n c A' m c' w) :
    Calls Try.prog 39 #[.pointer (some ⟨b, 0, none⟩)] w fun e w' => e = .returned (.bool (decide (1 ≤ ms.length ∧ ms.length ≤ 6))) ∧ Hid (Below w.heap.size w w') := by
  rw [hn]
  clear hn
  generalize hr : decide (1 ≤ n ∧ n ≤ 6) = d
  have HR := Lib.hid hr
  clear hr
  obtain ⟨k0, k1, k2, k3, k4⟩ := h1
  by_cases h1 : 1 ≤ n
  · have g1 : (1 : Int) ≤ (n : Int) := by omega
    by_cases h2 : n ≤ 6
    · have g2 : (n : Int) ≤ 6 := by omega
      have : d = true := by rw [← HR.out]; exact decide_eq_true ⟨h1, h2⟩
      subst this
      go_enter Try.func39, Try.ntmps39
      go_wp2
      go_ret
      exact ⟨rfl, Lib.hid (Below.refl _ _)⟩
    · have g2 : decide ((n : Int) ≤ 6) = false := decide_eq_false (by omega)
      have g3 : decide (n ≤ 6) = false := decide_eq_false h2
      have : d = false := by rw [← HR.out]; exact decide_eq_false (fun h => h2 h.2)
      subst this
      go_enter Try.func39, Try.ntmps39
      go_wp2
      go_ret
      exact ⟨by first | rfl | exact congrArg (fun b => Ending.returned (.bool b)) g3 | exact congrArg (fun b => Ending.returned (.bool b)) g2, Lib.hid (Below.refl _ _)⟩
  · have g1 : decide ((1 : Int) ≤ (n : Int)) = false := decide_eq_false (by omega)
    have g3 : decide (1 ≤ n) = false := decide_eq_false h1
    obtain rfl : n = 0 := by omega
    have : d = false := by rw [← HR.out]; rfl
    subst this
    go_enter Try.func39, Try.ntmps39
    go_wp2
    go_ret
    exact ⟨rfl, Lib.hid (Below.refl _ _)⟩
set_option maxHeartbeats 2000000 in
theorem m3_any {N : Nat} (b : Nat) (r x y : Int) (A : Option Addr) (n c : Nat) (A' : Option Addr) (m c' : Nat) (ms : List Life) (ss : List Nat) (w : World) (h1 : VBox b r x y A n c A' m c' w) (hv : Vm w N A n c A' m c' ms ss) (hN : N ≤ 17179869184) :
    Calls Try.prog 40 #[.pointer (some ⟨b, 0, none⟩)] w fun e w' => e = .returned (.bool (decide (isSet ms ∧ apart ms))) ∧ Hid (Below w.heap.size w w') := by
  have mixed : Try.prog.follows .mixedOrders = true := by kernel_rfl
  have hle := hv.le
  have HS := Lib.hid (fun W (hb : Below w.heap.size w W) => set_any A ms n c W (hv.on hb).lives hv.len (by omega) hv.pos)
  have HNd := Lib.hid (fun W (hb : Below w.heap.size w W) => nodes_any A ms n c W (hv.on hb).lives hv.len (by omega) hv.cap)
  have HX := Lib.hid (show isSet ms → ((nodesOf ms).length = ms.length ↔ apart ms) from nodes_length ms)
  have HL := Lib.hid hv.len
  have HI := Lib.hid (show setUpTo ms n ↔ isSet ms by rw [← hv.len])
  have HVB := Lib.hid h1
  generalize hr : decide (isSet ms ∧ apart ms) = d
  have HR := Lib.hid hr
  obtain ⟨k0, k1, k2, k3, k4⟩ := h1
  clear hv hr k0 k1 k2 k4
  go_enter Try.func40, Try.ntmps40
  by_cases hs : setUpTo ms n
  · rw [decide_eq_true hs] at HS
    have hx := HX.out (HI.out.1 hs)
    have HD := Lib.hid (show ∀ q, (nodesOf ms).length = q → d = (decide ((q : Int) = (n : Int))) from fun q hq => by
      rw [← HR.out, Bool.eq_iff_iff, decide_eq_true_iff, decide_eq_true_iff]
      constructor
      · rintro ⟨_, ha⟩
        have := hx.2 ha
        rw [hq, HL.out] at this
        omega
      · intro e
        exact ⟨HI.out.1 hs, hx.1 (by rw [hq, HL.out]; omega)⟩)
    clear hs hx HX HI HR HL
    go_wp2_with fail
    go_region_held (fun w' => w'.cell? ⟨b, 3, none⟩ = some (.slice A n c)) (first | go_keep | exact kk.out)
      (first | (go_at_call 41; refine (HS.out _ (bdl (Below.refl _ _))).mono ?_; rintro e V1 ⟨rfl, hb1⟩; have BB := Lib.hid (show Below w.heap.size w V1 from bdl hb1.out); have kk := Lib.hid (show V1.cell? ⟨b, 3, none⟩ = some (.slice A n c) from (HVB.out.below BB.out).2.2.2.1)) | (go_at_call 42; refine (HNd.out _ BB.out).mono ?_; rintro e V2 ⟨A9, c9, q, rfl, hq, hi9, hb2⟩; have BB2 := Lib.hid (btr BB.out hb2.out); have kk := Lib.hid (show V2.cell? ⟨b, 3, none⟩ = some (.slice A n c) from (HVB.out.below BB2.out).2.2.2.1)))
    all_goals
      have hd := HD.out q hq.out
      subst hd
      go_wp2
      go_ret
      exact ⟨by first | rfl | simp, BB2⟩
  · rw [decide_eq_false hs] at HS
    have : d = false := by rw [← HR.out]; exact decide_eq_false (fun h => hs (HI.out.2 h.1))
    subst this
    clear hs HX HI HR HL HNd
    have q3 := fun d os => cell_regrown (d := d) (os := os) k3
    go_wp2_with fail
    refine wp_region_quiet_below mixed (by kernel_rfl) ?_
    iterate 4 (quiet_step ((go_at_call 41; refine Calls.regrown_of (HS.out _ (below_regrown _ _ _)))))
    iterate 8 (generalize hact : ({ tmps := _, defers := [] } : Act) = aa; refine wpQuiet_skip (by rw [← hact]; kernel_rfl) ?_; subst hact; simp only [Act.put, List.setIfInBounds_toArray, List.set_cons_succ, List.set_cons_zero])
    iterate 2 (quiet_step (fail))
    refine wpQuiet_nil ?_
    intro _ hw'
    obtain ⟨⟨nq, osq⟩, hw''⟩ := hw'
    subst hw''
    go_wp2
    go_ret
    exact ⟨rfl, Lib.hid (below_regrown _ _ _)⟩
set_option maxHeartbeats 1000000 in
theorem m4_any {N : Nat} (b : Nat) (r x y : Int) (A : Option Addr) (n c : Nat) (A' : Option Addr) (m c' : Nat) (ms : List Life) (ss : List Nat) (w : World) (h1 : VBox b r x y A n c A' m c' w) (hv : Vm w N A n c A' m c' ms ss) (hN : N ≤ 17179869184) :
    Calls Try.prog 43 #[.pointer (some ⟨b, 0, none⟩)] w fun e w' => e = .returned (.bool (decide (ss.length = ms.length ∧ 0 ∉ ss))) ∧ Hid (Below w.heap.size w w') := by
  have hle := hv.sle
  have HC := Lib.hid (ucontains_any A' ss m c' 0 w hv.nums hv.slen (by omega))
  have HL := Lib.hid (show (ss.length = ms.length) ↔ m = n by rw [hv.slen, hv.len])
  generalize hr : decide (ss.length = ms.length ∧ 0 ∉ ss) = d
  have HR := Lib.hid hr
  obtain ⟨k0, k1, k2, k3, k4⟩ := h1
  clear hv hr
  by_cases he : m = n
  · subst he
    have hl := HL.out.2 rfl
    have : d = !decide (0 ∈ ss) := by rw [← HR.out, Bool.eq_iff_iff]; simp [hl]
    subst this
    generalize decide (0 ∈ ss) = z at *
    have hne : ((m : Int) == (m : Int)) = true := by simp
    clear hl HL HR
    go_enter Try.func43, Try.ntmps43
    go_wp2_with fail
    refine HC.out.mono ?_
    rintro e w1 ⟨rfl, hb⟩
    go_wp2
    go_ret
    exact ⟨rfl, hb⟩
  · have hne : ((m : Int) == (n : Int)) = false := by simp; omega
    have : d = false := by rw [← HR.out]; exact decide_eq_false (fun h => he (HL.out.1 h.1))
    subst this
    clear HL HR HC
    go_enter Try.func43, Try.ntmps43
    go_wp2
    go_ret
    exact ⟨rfl, Lib.hid (Below.refl _ _)⟩
abbrev capt (b : Nat) : Array Value := #[.pointer (some ⟨b, 0, none⟩)]
theorem may_asks {N : Nat} (b1 : Nat) (r x y : Int) (hy : 0 ≤ y) (A : Option Addr) (n c : Nat) (A' : Option Addr) (m c' : Nat) (ms : List Life) (ss : List Nat) (w : World) (h1 : VBox b1 r x y A n c A' m c' w) (hv : Vm w N A n c A' m c' ms ss) (hN : N ≤ 17179869184)
    (W : World) (hW : Below w.heap.size w W) (b : Nat) (e0 : W.cell? ⟨b, 0, none⟩ = some (.func (.func 38) #[] (capt b1))) (e1 : W.cell? ⟨b, 1, none⟩ = some (.func (.func 39) #[] (capt b1)))
    (e2 : W.cell? ⟨b, 2, none⟩ = some (.func (.func 40) #[] (capt b1))) (e3 : W.cell? ⟨b, 3, none⟩ = some (.func (.func 43) #[] (capt b1))) :
    Asks3 W b [(38, capt b1, decide (mayNm (r, (x, y)))), (39, capt b1, decide (1 ≤ ms.length ∧ ms.length ≤ 6)), (40, capt b1, decide (isSet ms ∧ apart ms)), (43, capt b1, decide (ss.length = ms.length ∧ 0 ∉ ss))] := by
  constructor
  · intro q hq
    have : q = 0 ∨ q = 1 ∨ q = 2 ∨ q = 3 := by simp at hq; omega
    rcases this with rfl | rfl | rfl | rfl
    · exact e0
    · exact e1
    · exact e2
    · exact e3
  · intro q hq
    have : q = 0 ∨ q = 1 ∨ q = 2 ∨ q = 3 := by simp at hq; omega
    rcases this with rfl | rfl | rfl | rfl
    · exact enters_m1
    · exact enters_m2
    · exact enters_m3
    · exact enters_m4
  · intro q hq V hV
    have hb := btr hW hV
    have : q = 0 ∨ q = 1 ∨ q = 2 ∨ q = 3 := by simp at hq; omega
    rcases this with rfl | rfl | rfl | rfl
    · exact m1_any _ r x y hy V (h1.below hb).nbox
    · exact m2_any _ r x y A n c A' m c' ms hv.len (Nat.le_trans hv.le hN) V (h1.below hb)
    · exact m3_any _ r x y A n c A' m c' ms ss V (h1.below hb) (hv.on hb) hN
    · exact m4_any _ r x y A n c A' m c' ms ss V (h1.below hb) (hv.on hb) hN
set_option maxHeartbeats 4000000 in
theorem vmay_any {N : Nat} (i : Nm) (hi : 0 ≤ i.2.2 ∧ i.2.2 < 18446744073709551616) (A : Option Addr) (n c : Nat) (A' : Option Addr) (m c' : Nat) (ms : List Life) (ss : List Nat) (w : World) (h : Vm w N A n c A' m c' ms ss) (hN : N ≤ 17179869184) :
    Calls Try.prog 12 #[vwV i A n c A' m c'] w fun e w' => e = .returned (.bool (decide (mayV ⟨i, ms, ss⟩))) ∧ Hid (Below w.heap.size w w') := by
  obtain ⟨r, x, y⟩ := i
  simp only at hi
  have mixed : Try.prog.follows .mixedOrders = true := by kernel_rfl
  have HB := Lib.hid (vbox_new w r x y A n c A' m c' 30)
  have B1 := Lib.hid (below_box w (.cells (vwC (r, (x, y)) A n c A' m c') 30))
  have HV := Lib.hid (h.on B1.out)
  have HY := Lib.hid hi
  clear h hi
  by_cases h0 : r = 0
  · subst h0
    rw [mayV_zero]
    have HMI := Lib.hid (fun W => mayid_any (0, (x, y)) HY.out.1 W)
    rw [mayNm_zero] at HMI
    have HF := Lib.hid (fun W => first_any (x, y) W HY.out)
    generalize hd : decide (mayL (x, y)) = d at *
    have HD := Lib.hid hd
    clear hd
    go_enter Try.func12, Try.ntmps12
    obtain ⟨k0, k1, k2, k3, k4⟩ := HB.out
    cases d with
    | true =>
      have HSm := Lib.hid (fun (W : World) (A1 A2 : Option Addr) (hv : Vm W N A n c A' m c' ms ss) (hw : Vm W 1 A1 1 1 A2 1 1 [(x, y)] [0]) => vsame_any (0, (x, y)) (0, (x, y)) A n c A' m c' ms ss A1 1 1 A2 1 1 [(x, y)] [0] W hv hw hN (by omega))
      rw [Bool.true_and]
      generalize decide ((⟨(0, (x, y)), ms, ss⟩ : Vw) = ⟨(0, (x, y)), [(x, y)], [0]⟩) = res at *
      go_wp2_with fail
      generalize (w.alloc (.cells (vwC (0, (x, y)) A n c A' m c') 30)) = W1 at *
      generalize hb : w.heap.size = b at HB k0 k1 k2 k3 k4 ⊢
      have HBB := Lib.hid hb
      clear hb
      have KK : Hid (VBox b 0 x y A n c A' m c' W1.drew) := Lib.hid HB.out
      have BB : Hid (Below w.heap.size w W1.drew) := Lib.hid (drew_bl B1.out)
      have VV : Hid (Vm W1.drew N A n c A' m c' ms ss) := Lib.hid (HV.out.on (drew_bl (Below.refl _ _)))
      clear HB B1 HV
      go_region_held (fun w' => w'.cell? ⟨b, 0, none⟩ = some (.int .u64 0) ∧ w'.cell? ⟨b, 1, none⟩ = some (.int .i64 x) ∧ w'.cell? ⟨b, 2, none⟩ = some (.int .u64 y) ∧ w'.cell? ⟨b, 3, none⟩ = some (.slice A n c) ∧ w'.cell? ⟨b, 4, none⟩ = some (.slice A' m c')) (first | go_keep | exact KK.out)
        (first | (go_at_call 14; refine (HMI.out _).mono ?_; rintro e V ⟨rfl, hb⟩; have BB := Lib.hid (btr BB.out hb.out); have KK := Lib.hid (KK.out.below hb.out); have VV := Lib.hid (VV.out.on hb.out)) | (go_at_call 17; refine (HF.out _).mono ?_; rintro e V ⟨A1, A2, rfl, hv1, hb⟩; have BB := Lib.hid (btr BB.out hb.out); have KK := Lib.hid (KK.out.below hb.out); have VV := Lib.hid (VV.out.on hb.out)) | (go_at_call 21; refine (HSm.out _ A1 A2 VV.out hv1.out).mono ?_; rintro e V ⟨rfl, hb⟩; have BB := Lib.hid (btr BB.out hb.out); have KK := Lib.hid (KK.out.below hb.out); have VV := Lib.hid (VV.out.on hb.out)))
      all_goals
        go_wp2
        go_ret
        exact ⟨rfl, BB⟩
    | false =>
      rw [Bool.false_and]
      have q0 := fun d os => cell_regrown (d := d) (os := os) k0
      have q1 := fun d os => cell_regrown (d := d) (os := os) k1
      have q2 := fun d os => cell_regrown (d := d) (os := os) k2
      go_wp2_with fail
      refine wp_region_quiet_below mixed (by kernel_rfl) ?_
      iterate 4 (quiet_step ((go_at_call 14; refine Calls.regrown_of (HMI.out _))))
      iterate 6 (generalize hact : ({ tmps := _, defers := [] } : Act) = aa; refine wpQuiet_skip (by rw [← hact]; kernel_rfl) ?_; subst hact; simp only [Act.put, List.setIfInBounds_toArray, List.set_cons_succ, List.set_cons_zero])
      iterate 2 (quiet_step (fail))
      refine wpQuiet_nil ?_
      intro _ hw'
      obtain ⟨⟨nq, osq⟩, hw''⟩ := hw'
      subst hw''
      go_wp2
      go_ret
      exact ⟨rfl, Lib.hid (btr B1.out (below_regrown _ _ _))⟩
  · rw [mayV_pos x y ms ss h0]
    have h00 : (r == 0) = false := by simp [h0]
    generalize hr : (decide (mayNm (r, (x, y))) && (decide (1 ≤ ms.length ∧ ms.length ≤ 6) && (decide (isSet ms ∧ apart ms) && (decide (ss.length = ms.length ∧ 0 ∉ ss) && true)))) = res
    have HR := Lib.hid hr
    clear hr
    go_enter Try.func12, Try.ntmps12
    obtain ⟨k0, k1, k2, k3, k4⟩ := HB.out
    go_wp2_with fail
    have e2 : (w.alloc (.cells (vwC (r, (x, y)) A n c A' m c') 30)).heap.size = w.heap.size + 1 := by simp
    generalize (w.alloc (.cells (vwC (r, (x, y)) A n c A' m c') 30)) = W1 at *
    rw [← e2]
    have hAll := all_any _ _ 4 4 (W1.alloc (.cells #[.func (.func 38) #[] (capt w.heap.size), .func (.func 39) #[] (capt w.heap.size), .func (.func 40) #[] (capt w.heap.size), .func (.func 43) #[] (capt w.heap.size)] 32)) (may_asks w.heap.size r x y HY.out.1 A n c A' m c' ms ss W1 HB.out HV.out hN _ (below_box W1 _) W1.heap.size (cell_at_new W1 _ _ 0 _ rfl) (cell_at_new W1 _ _ 1 _ rfl) (cell_at_new W1 _ _ 2 _ rfl) (cell_at_new W1 _ _ 3 _ rfl)) rfl (by omega)
    simp only [List.all_cons, List.all_nil, HR.out] at hAll
    refine hAll.mono ?_
    rintro e W3 ⟨rfl, hb3⟩
    have BW := Lib.hid (btr B1.out (btr (below_box W1 _) hb3.out))
    clear HB HV B1 hb3 hAll
    go_wp2
    go_ret
    exact ⟨rfl, BW⟩
end Go.Proofs.Ytgkldjolnbnehaa
/-
  Whether a view may be, by the document's answer; no node twice, by the document's answer; a copy of a view. For lists of at most 2^34 members.
-/
namespace Go.Proofs.Ytgkldjolnbnehaa
set_option maxRecDepth 20000
open Go.RowKit
open Go.Sort (grow)

def apartTo (l : List Life) (n : Nat) : Prop := ∀ i, i < n → ∀ j, j < i → (atL l j).1 ≠ (atL l i).1
set_option maxHeartbeats 2000000 in
theorem rlives_any (A : Option Addr) (l : List Life) (n c : Nat) (w : World) (h : Lives w w.heap.size A l) (hn : l.length = n) (hb : n ≤ 1099511627776) :
    Calls Try.prog 47 #[.slice A n c] w fun e w' => e = .returned (.bool (decide (apart l))) ∧ Hid (Below w.heap.size w w') := by
  generalize hr : decide (apart l) = r
  have HR := Lib.hid hr
  have HL := Lib.hid h
  have HN := Lib.hid hn
  clear hr h hn
  go_enter Try.func47, Try.ntmps47
  go_wp2
  go_loopw [3, 4] (fun i jj wr => ∃ k q : Nat, k ≤ n ∧ i = .int .i64 k ∧ wr = w.drewN q ∧ Hid (apartTo l k)) (fun i jj _ => n - (intOf i).toNat)
  case atStart => exact ⟨0, 0, Nat.zero_le _, rfl, rfl, Lib.hid fun j hj => absurd hj (Nat.not_lt_zero _)⟩
  case round =>
    obtain ⟨k, q, hk, rfl, rfl, hall⟩ := hrel
    by_cases hlt : k < n
    · obtain ⟨b, off, rfl, hbb, hc1, -⟩ := HL.out.at_ (k := k) (by rw [HN.out]; exact hlt)
      have g0 : (0 : Int) ≤ (k : Int) := by omega
      have g1 : (k : Int) < (n : Int) := by omega
      generalize hy : (atL l k).1 = y at *
      have HY := Lib.hid hy
      clear hy
      go_wp2_with fail
      go_loopw [4] (fun i wr => ∃ k2 q2 : Nat, k2 ≤ k ∧ i = .int .i64 k2 ∧ wr = w.drewN q2 ∧ Hid (∀ j, j < k2 → (atL l j).1 ≠ y)) (fun i _ => k - (intOf i).toNat)
      case atStart => exact ⟨0, q, Nat.zero_le _, rfl, rfl, Lib.hid fun j hj => absurd hj (Nat.not_lt_zero _)⟩
      case round =>
        obtain ⟨k2, q2, hk2, rfl, rfl, hall2⟩ := hrel
        by_cases hlt2 : k2 < k
        · obtain ⟨b', off', e, hbb', hd1, -⟩ := HL.out.at_ (k := k2) (by rw [HN.out]; omega)
          cases e
          have g2 : (0 : Int) ≤ (k2 : Int) := by omega
          have g3 : (k2 : Int) < (k : Int) := by omega
          have g4 : (k2 : Int) < (n : Int) := by omega
          generalize hx : (atL l k2).1 = x at *
          have HX := Lib.hid hx
          clear hx
          by_cases hxy : x = y
          · subst hxy
            have e1 : (x == x) = true := by simp
            have hna : ¬ apart l := fun ha => ha k (by rw [HN.out]; exact hlt) k2 hlt2 (by rw [HX.out, HY.out])
            have : r = false := by rw [← HR.out]; exact decide_eq_false hna
            subst this
            clear hna
            go_wp2_with fail
            go_quiet (fail)
            go_wp2
            go_ret
            exact ⟨rfl, Lib.hid ⟨rfl, rfl, rfl, Nat.le_refl _, fun _ _ => rfl⟩⟩
          · have e1 : (x == y) = false := by simp [hxy]
            have HXY := Lib.hid hxy
            clear hxy
            go_wp2_with fail
            go_quiet (fail)
            go_wp2
            go_roundw
            case rel => exact ⟨k2 + 1, q2 + nq, by omega, by go_num, rfl, Lib.hid fun j hj => by
              by_cases hjk : j = k2
              · subst hjk
                rw [HX.out]
                exact HXY.out
              · exact hall2.out j (by omega)⟩
            case measure => simp [intOf]; omega
        · obtain rfl : k2 = k := by omega
          have g2 : ¬ (k2 : Int) < (k2 : Int) := by omega
          go_wp2
          go_roundw
          case rel => exact ⟨k2 + 1, q2, by omega, by go_num, rfl, Lib.hid fun i hi j hj => by
            by_cases hik : i = k2
            · subst hik
              rw [HY.out]
              exact hall2.out j hj
            · exact hall.out i (by omega) j hj⟩
          case measure => simp [intOf]; omega
    · obtain rfl : k = n := by omega
      have g1 : ¬ (k : Int) < (k : Int) := by omega
      have ha : apart l := by unfold apart; rw [HN.out]; exact hall.out
      have : r = true := by rw [← HR.out]; exact decide_eq_true ha
      subst this
      clear ha
      go_wp2
      go_ret
      exact ⟨rfl, Lib.hid (below_drewN' _)⟩
theorem agreed_iff {N : Nat} {W : World} {r x y : Int} {A : Option Addr} {n c : Nat} {A' : Option Addr} {m c' : Nat} {ms : List Life} {ss : List Nat} (h : Vm W N A n c A' m c' ms ss) (h0 : r ≠ 0) :
    mayV ⟨(r, (x, y)), ms, ss⟩ ↔ mayNm (r, (x, y)) ∧ 1 ≤ n ∧ n ≤ 6 ∧ m = n ∧ setUpTo ms n ∧ apart ms ∧ 0 ∉ ss := by
  unfold mayV
  rw [if_neg h0]
  unfold agreed
  simp only [h.len, h.slen, isSet]
  constructor
  · rintro ⟨a, b, c, d, e, f, g⟩; exact ⟨a, b, c, f, d, e, g⟩
  · rintro ⟨a, b, c, f, d, e, g⟩; exact ⟨a, b, c, d, e, f, g⟩
set_option maxHeartbeats 8000000 in
theorem rvmay_any {N : Nat} (i : Nm) (hi : 0 ≤ i.2.2 ∧ i.2.2 < 18446744073709551616) (A : Option Addr) (n c : Nat) (A' : Option Addr) (m c' : Nat) (ms : List Life) (ss : List Nat) (w : World) (h : Vm w N A n c A' m c' ms ss) (hN : N ≤ 17179869184) :
    Calls Try.prog 13 #[vwV i A n c A' m c'] w fun e w' => e = .returned (.bool (decide (mayV ⟨i, ms, ss⟩))) ∧ Hid (Below w.heap.size w w') := by
  obtain ⟨r, x, y⟩ := i
  simp only at hi
  have mixed : Try.prog.follows .mixedOrders = true := by kernel_rfl
  have HB := Lib.hid (vbox_new w r x y A n c A' m c' 30)
  have B1 := Lib.hid (below_box w (.cells (vwC (r, (x, y)) A n c A' m c') 30))
  have HV := Lib.hid (h.on B1.out)
  have HY := Lib.hid hi
  by_cases h0 : r = 0
  · subst h0
    clear h hi
    rw [mayV_zero]
    have HMI := Lib.hid (fun W => rmay_any (x, y) HY.out.1 W)
    have HF := Lib.hid (fun W => rfirst_any (x, y) W HY.out)
    generalize hd : decide (mayL (x, y)) = d at *
    have HD := Lib.hid hd
    clear hd
    go_enter Try.func13, Try.ntmps13
    obtain ⟨k0, k1, k2, k3, k4⟩ := HB.out
    cases d with
    | true =>
      have HSm := Lib.hid (fun (W : World) (A1 A2 : Option Addr) (hv : Vm W N A n c A' m c' ms ss) (hw : Vm W 1 A1 1 1 A2 1 1 [(x, y)] [0]) => rsame4_any (0, (x, y)) (0, (x, y)) A n c A' m c' ms ss A1 1 1 A2 1 1 [(x, y)] [0] W hv hw hN (by omega))
      rw [Bool.true_and]
      generalize decide ((⟨(0, (x, y)), ms, ss⟩ : Vw) = ⟨(0, (x, y)), [(x, y)], [0]⟩) = res at *
      go_wp2_with fail
      generalize (w.alloc (.cells (vwC (0, (x, y)) A n c A' m c') 30)) = W1 at *
      generalize hb : w.heap.size = b at HB k0 k1 k2 k3 k4 ⊢
      have HBB := Lib.hid hb
      clear hb
      have KK : Hid (VBox b 0 x y A n c A' m c' W1.drew) := Lib.hid HB.out
      have BB : Hid (Below w.heap.size w W1.drew) := Lib.hid (drew_bl B1.out)
      have VV : Hid (Vm W1.drew N A n c A' m c' ms ss) := Lib.hid (HV.out.on (drew_bl (Below.refl _ _)))
      clear HB B1 HV
      go_region_held (fun w' => w'.cell? ⟨b, 0, none⟩ = some (.int .u64 0) ∧ w'.cell? ⟨b, 1, none⟩ = some (.int .i64 x) ∧ w'.cell? ⟨b, 2, none⟩ = some (.int .u64 y) ∧ w'.cell? ⟨b, 3, none⟩ = some (.slice A n c) ∧ w'.cell? ⟨b, 4, none⟩ = some (.slice A' m c')) (first | go_keep | exact KK.out)
        (first | (go_at_call 45; refine (HMI.out _).mono ?_; rintro e V ⟨rfl, hb⟩; have BB := Lib.hid (btr BB.out hb.out); have KK := Lib.hid (KK.out.below hb.out); have VV := Lib.hid (VV.out.on hb.out)) | (go_at_call 18; refine (HF.out _).mono ?_; rintro e V ⟨A1, A2, rfl, hv1, hb⟩; have BB := Lib.hid (btr BB.out hb.out); have KK := Lib.hid (KK.out.below hb.out); have VV := Lib.hid (VV.out.on hb.out)) | (go_at_call 16; refine (HSm.out _ A1 A2 VV.out hv1.out).mono ?_; rintro e V ⟨rfl, hb⟩; have BB := Lib.hid (btr BB.out hb.out); have KK := Lib.hid (KK.out.below hb.out); have VV := Lib.hid (VV.out.on hb.out)))
      all_goals
        go_wp2
        go_ret
        exact ⟨rfl, BB⟩
    | false =>
      rw [Bool.false_and]
      have q0 := fun d os => cell_regrown (d := d) (os := os) k0
      have q1 := fun d os => cell_regrown (d := d) (os := os) k1
      have q2 := fun d os => cell_regrown (d := d) (os := os) k2
      go_wp2_with fail
      refine wp_region_quiet_below mixed (by kernel_rfl) ?_
      iterate 5 (quiet_step ((go_at_call 45; refine Calls.regrown_of (HMI.out _))))
      iterate 6 (generalize hact : ({ tmps := _, defers := [] } : Act) = aa; refine wpQuiet_skip (by rw [← hact]; kernel_rfl) ?_; subst hact; simp only [Act.put, List.setIfInBounds_toArray, List.set_cons_succ, List.set_cons_zero])
      iterate 2 (quiet_step (fail))
      refine wpQuiet_nil ?_
      intro _ hw'
      obtain ⟨⟨nq, osq⟩, hw''⟩ := hw'
      subst hw''
      go_wp2
      go_ret
      exact ⟨rfl, Lib.hid (btr B1.out (below_regrown _ _ _))⟩
  · have h00 : (r == 0) = false := by simp [h0]
    have HI := Lib.hid (agreed_iff (x := x) (y := y) h h0)
    have hle := h.le
    have hsle := h.sle
    have HMI := Lib.hid (fun W => rmayid_any (r, (x, y)) HY.out.1 W)
    have HSt := Lib.hid (fun W (hb : Below w.heap.size w W) => rset_any A ms n c W (h.on hb).lives h.len (by omega) h.pos)
    have HLv := Lib.hid (fun W (hb : Below w.heap.size w W) => rlives_any A ms n c W (h.on hb).lives h.len (by omega))
    have HNu := Lib.hid (fun W (hb : Below w.heap.size w W) => (h.on hb).nums)
    have HSl := Lib.hid h.slen
    clear h hi HV HY
    generalize hr : decide (mayV ⟨(r, (x, y)), ms, ss⟩) = res
    have HR := Lib.hid hr
    have HFa := Lib.hid (show ¬ mayV ⟨(r, (x, y)), ms, ss⟩ → res = false from fun hn => by rw [← hr]; exact decide_eq_false hn)
    have HTr := Lib.hid (show mayV ⟨(r, (x, y)), ms, ss⟩ → res = true from fun hn => by rw [← hr]; exact decide_eq_true hn)
    rw [HI.out] at HFa HTr
    clear hr HI HR
    go_enter Try.func13, Try.ntmps13
    obtain ⟨k0, k1, k2, k3, k4⟩ := HB.out
    go_wp2_with fail
    generalize (w.alloc (.cells (vwC (r, (x, y)) A n c A' m c') 30)) = W1 at *
    refine (HMI.out W1).mono ?_
    rintro e W2 ⟨rfl, hb2⟩
    have BW := Lib.hid (btr B1.out hb2.out)
    have KK := Lib.hid (HB.out.below hb2.out)
    clear HB B1 hb2 k0 k1 k2 k3 k4 HMI
    obtain ⟨-, -, -, k3, k4⟩ := KK.out
    by_cases hm : mayNm (r, (x, y))
    · rw [decide_eq_true hm]
      have HM := Lib.hid hm
      clear hm
      by_cases h1 : 1 ≤ n
      · have g1 : decide ((n : Int) < 1) = false := decide_eq_false (by omega)
        have g1' : ¬ (n : Int) < 1 := by omega
        by_cases h6 : n ≤ 6
        · have g2 : decide ((6 : Int) < (n : Int)) = false := decide_eq_false (by omega)
          have g2' : ¬ (6 : Int) < (n : Int) := by omega
          by_cases hmn : m = n
          · subst hmn
            have g3 : ((m : Int) != (m : Int)) = false := by simp
            have HS2 := Lib.hid (HSt.out W2 BW.out)
            go_wp2_with fail
            refine HS2.out.mono ?_
            rintro e W3 ⟨rfl, hb3⟩
            have BW3 := Lib.hid (btr BW.out hb3.out)
            have KK3 := Lib.hid (KK.out.below hb3.out)
            clear KK BW hb3 k3 k4 HS2 HSt
            obtain ⟨-, -, -, k3, k4⟩ := KK3.out
            by_cases hs : setUpTo ms m
            · rw [decide_eq_true hs]
              have HS := Lib.hid hs
              clear hs
              have HL3 := Lib.hid (HLv.out W3 BW3.out)
              go_wp2_with fail
              refine HL3.out.mono ?_
              rintro e W4 ⟨rfl, hb4⟩
              have BW4 := Lib.hid (btr BW3.out hb4.out)
              have KK4 := Lib.hid (KK3.out.below hb4.out)
              clear KK3 BW3 hb4 k3 k4 HL3 HLv
              obtain ⟨-, -, -, k3, k4⟩ := KK4.out
              by_cases ha : apart ms
              · rw [decide_eq_true ha]
                have HA := Lib.hid ha
                clear ha
                have HN4 := Lib.hid (HNu.out W4 BW4.out)
                clear HNu KK4 k3
                go_wp2_with fail
                go_loopw [3] (fun i wr => ∃ k q : Nat, k ≤ m ∧ i = .int .i64 k ∧ wr = W4.drewN q ∧ Hid (∀ j, j < k → atN ss j ≠ 0)) (fun i _ => m - (intOf i).toNat)
                case atStart => exact ⟨0, 0, Nat.zero_le _, rfl, rfl, Lib.hid fun j hj => absurd hj (Nat.not_lt_zero _)⟩
                case round =>
                  obtain ⟨k, q, hk, rfl, rfl, hall⟩ := hrel
                  by_cases hlt : k < m
                  · obtain ⟨b, off, rfl, hbb, hc⟩ := HN4.out.at_ (k := k) (by rw [HSl.out]; exact hlt)
                    have g4 : (0 : Int) ≤ (k : Int) := by omega
                    have g5 : (k : Int) < (m : Int) := by omega
                    have HMem := Lib.hid (atN_mem (l := ss) (k := k) (by rw [HSl.out]; exact hlt))
                    generalize hz : atN ss k = z at *
                    have HZ := Lib.hid hz
                    clear hz
                    by_cases hz0 : z = 0
                    · subst hz0
                      have : res = false := HFa.out (fun hh => hh.2.2.2.2.2.2 HMem.out)
                      subst this
                      go_wp2
                      go_ret
                      exact ⟨rfl, Lib.hid ⟨BW4.out.os, BW4.out.tape, BW4.out.output, BW4.out.size, BW4.out.block⟩⟩
                    · have hz1 : ((z : Int) == 0) = false := by simp; omega
                      have hz2 : ¬ (z : Int) = 0 := by omega
                      have HZ0 := Lib.hid hz0
                      clear hz0
                      go_wp2
                      go_roundw
                      case rel => exact ⟨k + 1, q, by omega, by go_num, rfl, Lib.hid fun j hj => by
                        by_cases hjk : j = k
                        · subst hjk
                          rw [HZ.out]
                          exact HZ0.out
                        · exact hall.out j (by omega)⟩
                      case measure => simp [intOf]; omega
                  · obtain rfl : k = m := by omega
                    have g5 : ¬ (k : Int) < (k : Int) := by omega
                    have : res = true := HTr.out ⟨HM.out, h1, h6, (by trivial), HS.out, HA.out, not_mem_upto (by rw [HSl.out]; exact hall.out)⟩
                    subst this
                    go_wp2
                    go_ret
                    exact ⟨rfl, Lib.hid ⟨BW4.out.os, BW4.out.tape, BW4.out.output, BW4.out.size, BW4.out.block⟩⟩
              · rw [decide_eq_false ha]
                have : res = false := HFa.out (fun hh => ha hh.2.2.2.2.2.1)
                subst this
                clear ha
                go_wp2
                go_ret
                exact ⟨rfl, BW4⟩
            · rw [decide_eq_false hs]
              have : res = false := HFa.out (fun hh => hs hh.2.2.2.2.1)
              subst this
              clear hs
              go_wp2
              go_ret
              exact ⟨rfl, BW3⟩
          · have g3 : ((m : Int) != (n : Int)) = true := by simp; omega
            have : res = false := HFa.out (fun hh => hmn hh.2.2.2.1)
            subst this
            go_wp2
            go_ret
            exact ⟨rfl, BW⟩
        · have g2 : (6 : Int) < (n : Int) := by omega
          have : res = false := HFa.out (fun hh => h6 hh.2.2.1)
          subst this
          go_wp2
          go_ret
          exact ⟨rfl, BW⟩
      · have g1 : (n : Int) < 1 := by omega
        have : res = false := HFa.out (fun hh => h1 hh.2.1)
        subst this
        go_wp2
        go_ret
        exact ⟨rfl, BW⟩
    · rw [decide_eq_false hm]
      have : res = false := HFa.out (fun hh => hm hh.1)
      subst this
      clear hm
      go_wp2
      go_ret
      exact ⟨rfl, BW⟩
end Go.Proofs.Ytgkldjolnbnehaa
/-
  The program's Put of lives, of a name and of a view: what a Writer has behind it. For Writers of at most 2^20 bytes, lists of at most 1000 lives.
-/
namespace Go.Proofs.Ytgkldjolnbnehaa
set_option maxRecDepth 20000
open Go.RowKit

/-- A block that is no Writer's. -/
def Off (b p : Nat) (g : Option Nat) : Prop := b ≠ p ∧ g ≠ some b
theorem Off.new {b p : Nat} {g g' : Option Nat} {w : World} (h : Off b p g) (hb : b < w.heap.size) (hn : NewOr w g g') : Off b p g' := ⟨h.1, fun e => h.2 (hn.same hb e)⟩
theorem Off.cell {b p : Nat} {g : Option Nat} {w w' : World} (h : Off b p g) (hb : b < w.heap.size) (ho : Only (fun k => k = p ∨ g = some k) w w') (k : Nat) : w'.cell? ⟨b, k, none⟩ = w.cell? ⟨b, k, none⟩ :=
  ho.cell (p := ⟨b, k, none⟩) hb (fun e => by rcases e with e | e; exact h.1 e; exact h.2 e)
theorem Wr.off {w : World} {p b : Nat} {g : Option Nat} {l : List UInt8} (h : Wr w p g l) (hb : w.heap.size ≤ b) : Off b p g := ⟨by have := h.lt; omega, fun e => by have := h.glt b e; omega⟩
theorem Lives.wrote {w w' : World} {p : Nat} {g : Option Nat} {A : Option Addr} {l : List Life} (h : Lives w w.heap.size A l) (hf : 0 < l.length → ∀ b, blockOf A = some b → Off b p g) (ho : Only (fun k => k = p ∨ g = some k) w w') : Lives w' w'.heap.size A l := fun hl => by
  obtain ⟨b, off, e, hlt, hc⟩ := h hl
  have hb := hf hl b (by rw [e]; rfl)
  exact ⟨b, off, e, Nat.lt_of_lt_of_le hlt ho.size, fun k hk => ⟨(hb.cell hlt ho _).trans (hc k hk).1, (hb.cell hlt ho _).trans (hc k hk).2⟩⟩
theorem Nums.wrote {w w' : World} {p : Nat} {g : Option Nat} {A : Option Addr} {l : List Nat} (h : Nums w w.heap.size A l) (hf : 0 < l.length → ∀ b, blockOf A = some b → Off b p g) (ho : Only (fun k => k = p ∨ g = some k) w w') : Nums w' w'.heap.size A l := fun hl => by
  obtain ⟨b, off, e, hlt, hc⟩ := h hl
  have hb := hf hl b (by rw [e]; rfl)
  exact ⟨b, off, e, Nat.lt_of_lt_of_le hlt ho.size, fun k hk => (hb.cell hlt ho _).trans (hc k hk)⟩
theorem Lives.offs {w : World} {p : Nat} {g g' : Option Nat} {A : Option Addr} {l : List Life} (h : Lives w w.heap.size A l) (hf : 0 < l.length → ∀ b, blockOf A = some b → Off b p g) (hn : NewOr w g g') : 0 < l.length → ∀ b, blockOf A = some b → Off b p g' := fun hl b e => by
  obtain ⟨b', off, e', hlt, _⟩ := h hl
  rw [e'] at e
  cases e
  exact (hf hl b' (by rw [e']; rfl)).new hlt hn
theorem Nums.offs {w : World} {p : Nat} {g g' : Option Nat} {A : Option Addr} {l : List Nat} (h : Nums w w.heap.size A l) (hf : 0 < l.length → ∀ b, blockOf A = some b → Off b p g) (hn : NewOr w g g') : 0 < l.length → ∀ b, blockOf A = some b → Off b p g' := fun hl b e => by
  obtain ⟨b', off, e', hlt, _⟩ := h hl
  rw [e'] at e
  cases e
  exact (hf hl b' (by rw [e']; rfl)).new hlt hn
theorem Wr.on {w w' : World} {p : Nat} {g : Option Nat} {l : List UInt8} (h : Wr w p g l) (hb : Below w.heap.size w w') : Wr w' p g l := h.keep (S := fun _ => False) (Only.ofBelow hb) (fun h => h) (fun _ _ h => h)
/-- What is written behind blocks that were made meanwhile. -/
theorem Wrote.after {w w1 w2 : World} {p : Nat} {g : Option Nat} {l xs : List UInt8} (hb : Below w.heap.size w w1) (h : Wrote w1 p g l xs w2) : Wrote w p g l xs w2 := by
  obtain ⟨g2, h1, h2, h3⟩ := h
  exact ⟨g2, h1, h2.older hb.size, (Only.ofBelow (S := fun k => k = p ∨ g = some k) hb).trans h3 fun k _ e => e⟩
theorem Wrote.join {w w1 w2 : World} {p : Nat} {g g1 : Option Nat} {l xs ys : List UInt8} (h1 : Wr w1 p g1 (l ++ xs) ∧ NewOr w g g1 ∧ Only (fun k => k = p ∨ g = some k) w w1) (h : Wrote w1 p g1 (l ++ xs) ys w2) : Wrote w p g l (xs ++ ys) w2 := Wrote.trans h1.2.1 h1.2.2 h
set_option maxHeartbeats 2000000 in
theorem pputw_any (p : Nat) (g : Option Nat) (L : List UInt8) (A : Option Addr) (s : List Life) (n c : Nat) (W : World) (h : Wr W p g L) (hl : Lives W W.heap.size A s) (hf : 0 < s.length → ∀ b, blockOf A = some b → Off b p g) (hn : s.length = n) (hu : Unsigned s) (hb : n ≤ 1000) (hr : L.length ≤ 2097152) :
    Calls Try.prog 63 #[.pointer (some ⟨p, 0, none⟩), .slice A n c] W (WroteE W p g L (putsL s)) := by
  have HL := Lib.hid hl
  have HN := Lib.hid hn
  have HU := Lib.hid hu
  have HW := Lib.hid h
  have HF := Lib.hid hf
  clear hl hn hu h hf
  go_enter Try.func63, Try.ntmps63
  go_wp2
  go_loopw [8] (fun i wr => ∃ k : Nat, k ≤ n ∧ i = .int .i64 k ∧ Hid (Wrote W p g L (putsL (s.take k)) wr)) (fun i _ => n - (intOf i).toNat)
  case atStart => exact ⟨0, Nat.zero_le _, rfl, Lib.hid (by simpa [putsL] using Wrote.same HW.out)⟩
  case round =>
    obtain ⟨k, hk, rfl, hwr⟩ := hrel
    by_cases hlt : k < n
    · obtain ⟨g1, h1, h2, h3⟩ := hwr.out
      have hpos : 0 < s.length := by rw [HN.out]; omega
      have HLr := HL.out.wrote HF.out h3
      obtain ⟨b, off, rfl, hbb, c1, c2⟩ := HLr.at_ (k := k) (by rw [HN.out]; exact hlt)
      have H1 := Lib.hid h1
      have H23 := Lib.hid (And.intro h2 h3)
      have g0 : (0 : Int) ≤ (k : Int) := by omega
      have g2 : (k : Int) < (n : Int) := by omega
      have HT := Lib.hid (putsL_take_succ s k (by rw [HN.out]; exact hlt))
      have hux := HU.out _ (atL_mem (l := s) (k := k) (by rw [HN.out]; exact hlt))
      have hlen : (L ++ putsL (s.take k)).length ≤ 4194304 := by
        have h3 := putsL_le (s.take k) (fun q hq => HU.out q (List.mem_of_mem_take hq))
        rw [List.length_take, HN.out] at h3
        rw [List.length_append]
        omega
      generalize hx : atL s k = x at *
      have hlb := lowB_lt x
      have hlw : IntKind.u8.wrap x.1 = ((lowB x : Nat) : Int) := by
        unfold lowB
        simp [IntKind.wrap, IntKind.bits, IntKind.signed]
        omega
      obtain ⟨x1, x2⟩ := x
      simp only at c1 c2 hux hlw
      obtain ⟨y, rfl⟩ : ∃ y : Nat, x2 = (y : Int) := ⟨x2.toNat, by omega⟩
      have hy : y < 18446744073709551616 := by omega
      simp only [Int.toNat_natCast] at HT
      generalize lowB (x1, (y : Int)) = lb at *
      obtain ⟨k1, k2⟩ := one_new wr x1 (y : Int)
      have B3 := Lib.hid (below_box wr (.cells #[.int .i64 x1, .int .u64 (y : Int)] 24))
      have hw2 := Lib.hid (H1.out.on B3.out)
      have HLn := Lib.hid hlen
      have HOf := Lib.hid (H1.out.off (Nat.le_refl wr.heap.size))
      clear hwr h1 h2 h3 hlen hux hx HLr hpos
      go_wp2_with fail
      generalize wr.alloc (.cells #[.int .i64 x1, .int .u64 (y : Int)] 24) = W2 at *
      generalize hB : wr.heap.size = B2 at k1 k2 HOf ⊢
      have HB := Lib.hid hB
      have K2 := Lib.hid k2
      have hB2 : B2 < W2.heap.size := World.block_lt_of_cell? W2 _ k1
      have HB2 := Lib.hid hB2
      clear hB c1 c2 k1 k2 hB2
      refine (wu8_any p g1 _ lb W2 hlb hw2.out (by have := HLn.out; omega)).mono ?_
      rintro e W3 ⟨rfl, h4⟩
      have H4 := Lib.hid h4
      obtain ⟨g3, q1, q2, q3⟩ := h4
      have k3 := (HOf.out.cell HB2.out q3 1).trans K2.out
      have Q := Lib.hid (And.intro q1 (And.intro q2 q3))
      clear q1 q2 q3
      go_wp2_with fail
      refine (wuint_any p g3 _ y W3 Q.out.1 hy (by have := HLn.out; rw [List.length_append, wideL_length]; omega)).mono ?_
      rintro e W4 ⟨rfl, h5⟩
      have H6 := Lib.hid (show Wrote W p g L (putsL (s.take (k + 1))) W4 by
        rw [HT.out, List.append_assoc]
        exact Wrote.trans H23.out.1 H23.out.2 (Wrote.after B3.out (Wrote.join Q.out h5)))
      clear h5
      go_wp2
      go_roundw
      case rel => exact ⟨k + 1, by omega, by go_num, H6⟩
      case measure => simp [intOf]; omega
    · obtain rfl : k = n := by omega
      have g2 : ¬ (k : Int) < (k : Int) := by omega
      have HTk := Lib.hid (show s.take k = s by rw [← HN.out, List.take_length])
      go_wp2
      go_end0
      exact ⟨rfl, by rw [← HTk.out]; exact hwr.out⟩
/-- A name's bytes. -/
def idL (i : Nm) : List UInt8 := shortL i.1.toNat ++ putL i.2
def UNm (i : Nm) : Prop := (0 ≤ i.1 ∧ i.1 < 18446744073709551616) ∧ (0 ≤ i.2.2 ∧ i.2.2 < 18446744073709551616)
theorem shortL_le10 {x : Nat} (h : x < 18446744073709551616) : (shortL x).length ≤ 10 := by
  have h9 : (18446744073709551616 : Nat) ≤ 128 ^ (9 + 1) := by decide
  exact shortL_le 9 x (by omega)
theorem idL_le (i : Nm) (h : UNm i) : (idL i).length ≤ 21 := by
  have h1 := shortL_le10 (x := i.1.toNat) (by have := h.1; omega)
  have h2 := putL_le i.2 h.2.2
  unfold idL
  rw [List.length_append]
  omega
set_option maxHeartbeats 2000000 in
theorem vputid_any (p : Nat) (g : Option Nat) (L : List UInt8) (i : Nm) (hi : UNm i) (W : World) (h : Wr W p g L) (hr : L.length ≤ 1048576) :
    Calls Try.prog 61 #[.pointer (some ⟨p, 0, none⟩), nmV i] W (WroteE W p g L (idL i)) := by
  obtain ⟨r, x, y⟩ := i
  have hi1 := hi.1
  have hi2 := hi.2
  simp only at hi1 hi2
  obtain ⟨rn, rfl⟩ : ∃ rn : Nat, r = (rn : Int) := ⟨r.toNat, by omega⟩
  have HI := Lib.hid (show idL ((rn : Int), (x, y)) = shortL rn ++ putsL [(x, y)] by simp [idL, putsL])
  have HR := Lib.hid (show rn < 18446744073709551616 by omega)
  have HU := Lib.hid (show Unsigned [((x, y) : Life)] from fun q hq => by rw [List.mem_singleton.1 hq]; exact hi2)
  have HB := Lib.hid (nbox_new W (rn : Int) x y 26)
  have B1 := Lib.hid (below_box W (.cells #[.int .u64 (rn : Int), .int .i64 x, .int .u64 y] 26))
  have HW := Lib.hid (h.on B1.out)
  have HO := Lib.hid (h.off (Nat.le_refl W.heap.size))
  have HS := Lib.hid (shortL_le10 HR.out)
  generalize idL ((rn : Int), (x, y)) = res at *
  clear h hi hi1 hi2
  go_enter Try.func61, Try.ntmps61
  obtain ⟨k0, k1, k2⟩ := HB.out
  go_wp2_with fail
  generalize W.alloc (.cells #[.int .u64 (rn : Int), .int .i64 x, .int .u64 y] 26) = W1 at *
  generalize hb : W.heap.size = b at HB k0 k1 k2 HO ⊢
  have HBB := Lib.hid hb
  have HBl := Lib.hid (World.block_lt_of_cell? W1 _ k0)
  simp only at HBl
  clear hb
  refine (wuint_any p g L rn W1 HW.out HR.out (by omega)).mono ?_
  rintro e W2 ⟨rfl, g2, q1, q2, q3⟩
  have m1 := (HO.out.cell HBl.out q3 1).trans k1
  have m2 := (HO.out.cell HBl.out q3 2).trans k2
  have Q := Lib.hid (And.intro q1 (And.intro q2 q3))
  clear q1 q2 q3 k0 k1 k2 HB
  have HN := Lib.hid (lives_new W2 [(x, y)])
  have B3 := Lib.hid (below_box W2 (.cells (flatP [(x, y)]).toArray 24))
  have HW3 := Lib.hid (Q.out.1.on B3.out)
  have HO3 := Lib.hid (Q.out.1.off (Nat.le_refl W2.heap.size))
  go_wp2_with fail
  refine (pputw_any p g2 _ (some ⟨W2.heap.size, 0, none⟩) [(x, y)] 1 1 _ HW3.out (HN.out.more (by simp)) ?_ rfl HU.out (by omega) (by rw [List.length_append]; have := HS.out; omega)).mono ?_
  · intro _ b e
    cases e
    exact HO3.out
  rintro e W4 ⟨rfl, h4⟩
  have H4 := Lib.hid (show Wrote W p g L res W4 by
    rw [HI.out]
    exact Wrote.after B1.out (Wrote.join Q.out (Wrote.after B3.out h4)))
  clear h4
  go_wp2
  go_end0
  exact ⟨rfl, H4.out⟩
/-- A view's bytes. -/
def viewL (v : Vw) : List UInt8 := ((idL v.id ++ wideL (v.ms.length % 256) 1) ++ putsL v.ms) ++ shortsL v.ss
set_option maxHeartbeats 4000000 in
theorem vput_any {N : Nat} (p : Nat) (g : Option Nat) (L : List UInt8) (i : Nm) (hi : UNm i) (A : Option Addr) (n c : Nat) (A' : Option Addr) (m c' : Nat) (ms : List Life) (ss : List Nat) (W : World) (h : Wr W p g L) (hv : Vm W N A n c A' m c' ms ss) (hN : N ≤ 1000)
    (hf : 0 < ms.length → ∀ b, blockOf A = some b → Off b p g) (hf' : 0 < ss.length → ∀ b, blockOf A' = some b → Off b p g) (hr : L.length ≤ 1048576) :
    Calls Try.prog 30 #[.pointer (some ⟨p, 0, none⟩), vwV i A n c A' m c'] W (WroteE W p g L (viewL ⟨i, ms, ss⟩)) := by
  obtain rfl := hv.slen
  have hle := hv.le
  have hsle := hv.sle
  have HN := Lib.hid hv.len
  have HUn := Lib.hid hv.uns
  have H64 := Lib.hid hv.u64
  have HV := Lib.hid (show viewL ⟨i, ms, ss⟩ = ((idL i ++ wideL (n % 256) 1) ++ putsL ms) ++ shortsL ss by rw [← hv.len]; rfl)
  have HId := Lib.hid (idL_le i hi)
  have HPs := Lib.hid (show (putsL ms).length ≤ n * 11 by rw [← hv.len]; exact putsL_le ms hv.uns)
  generalize viewL ⟨i, ms, ss⟩ = res at *
  have hx : n % 256 < 256 := Nat.mod_lt _ (by decide)
  have e1 : (n : Int) % 256 = ((n % 256 : Nat) : Int) := by omega
  generalize n % 256 = low at *
  have HPI := Lib.hid (fun (V : World) (hw : Wr V p g L) => vputid_any p g L i hi V hw hr)
  obtain ⟨r, x, y⟩ := i
  generalize idL (r, (x, y)) = il at *
  have B1 := Lib.hid (below_box W (.cells (vwC (r, (x, y)) A n c A' ss.length c') 30))
  have HB := Lib.hid (vbox_new W r x y A n c A' ss.length c' 30)
  have HW := Lib.hid (h.on B1.out)
  have HO := Lib.hid (h.off (Nat.le_refl W.heap.size))
  have HLi := Lib.hid (hv.on B1.out).lives
  have HNu := Lib.hid (hv.on B1.out).nums
  have HF := Lib.hid hf
  have HF' := Lib.hid hf'
  clear h hv hi hf hf'
  go_enter Try.func30, Try.ntmps30
  obtain ⟨k0, k1, k2, k3, k4⟩ := HB.out
  go_wp2_with fail
  generalize W.alloc (.cells (vwC (r, (x, y)) A n c A' ss.length c') 30) = W1 at *
  generalize hb : W.heap.size = b at HB k0 k1 k2 k3 k4 HO ⊢
  have HBB := Lib.hid hb
  have HBl := Lib.hid (World.block_lt_of_cell? W1 _ k0)
  simp only at HBl
  clear hb
  refine (HPI.out W1 HW.out).mono ?_
  rintro e W2 ⟨rfl, g2, q1, q2, q3⟩
  have m3 := (HO.out.cell HBl.out q3 3).trans k3
  have m4 := (HO.out.cell HBl.out q3 4).trans k4
  have L2 := Lib.hid (HLi.out.wrote HF.out q3)
  have N2 := Lib.hid (HNu.out.wrote HF'.out q3)
  have F2 := Lib.hid (HLi.out.offs HF.out q2)
  have F2' := Lib.hid (HNu.out.offs HF'.out q2)
  have O2 := Lib.hid (HO.out.new HBl.out q2)
  have Bl2 := Lib.hid (Nat.lt_of_lt_of_le HBl.out q3.size)
  have Q := Lib.hid (And.intro q1 (And.intro q2 q3))
  clear q1 q2 q3 k0 k1 k2 k3 k4 HB HLi HNu HF HF' HO HBl HPI
  go_wp2_with fail
  rw [e1]
  refine (wu8_any p g2 _ low W2 hx Q.out.1 (by rw [List.length_append]; have := HId.out; omega)).mono ?_
  rintro e W3 ⟨rfl, g3, q1, q2, q3⟩
  have n3 := (O2.out.cell Bl2.out q3 3).trans m3
  have n4 := (O2.out.cell Bl2.out q3 4).trans m4
  have L3 := Lib.hid (L2.out.wrote F2.out q3)
  have N3 := Lib.hid (N2.out.wrote F2'.out q3)
  have F3 := Lib.hid (L2.out.offs F2.out q2)
  have F3' := Lib.hid (N2.out.offs F2'.out q2)
  have O3 := Lib.hid (O2.out.new Bl2.out q2)
  have Bl3 := Lib.hid (Nat.lt_of_lt_of_le Bl2.out q3.size)
  have Q3 := Lib.hid (And.intro q1 (And.intro q2 q3))
  clear q1 q2 q3 m3 m4 L2 N2 F2 F2' O2 Bl2
  go_wp2_with fail
  refine (pputw_any p g3 _ A ms n c W3 Q3.out.1 L3.out F3.out HN.out HUn.out (by omega) (by rw [List.length_append, List.length_append, wideL_length]; have := HId.out; omega)).mono ?_
  rintro e W4 ⟨rfl, g4, q1, q2, q3⟩
  have l4 := (O3.out.cell Bl3.out q3 4).trans n4
  have N4 := Lib.hid (N3.out.wrote F3'.out q3)
  have F4' := Lib.hid (N3.out.offs F3'.out q2)
  have Q4 := Lib.hid (And.intro q1 (And.intro q2 q3))
  clear q1 q2 q3 n3 n4 L3 N3 F3 F3' O3 Bl3
  go_wp2_with fail
  refine (wput_any p g4 _ A' ss c' W4 Q4.out.1 N4.out F4'.out H64.out (by omega) (by rw [List.length_append, List.length_append, List.length_append, wideL_length]; have := HId.out; have := HPs.out; omega)).mono ?_
  rintro e W5 ⟨rfl, h5⟩
  have H5 := Lib.hid (show Wrote W p g L res W5 by
    rw [HV.out]
    have t1 := Wrote.join Q4.out h5
    have t2 := Wrote.join Q3.out t1
    have t3 := Wrote.join Q.out t2
    have t4 := Wrote.after B1.out t3
    simpa [List.append_assoc] using t4)
  clear h5
  go_wp2
  go_end0
  exact ⟨rfl, H5.out⟩
end Go.Proofs.Ytgkldjolnbnehaa
/-
  Arguments of names and views, opened. No condition.
-/
namespace Go.Proofs.Ytgkldjolnbnehaa
set_option maxRecDepth 20000
open Go.ChangeShapes Go.WideShapes Go.ChangeAt Go.WideMaps Go.WideElems Go.RowKit

theorem cellsNm : Try.prog.cellsOf 26 = 3 := by kernel_rfl
theorem cellsVw : Try.prog.cellsOf 30 = 5 := by kernel_rfl
theorem cellsLs : Try.prog.cellsOf 27 = 1 := by kernel_rfl
theorem cellsNs : Try.prog.cellsOf 28 = 1 := by kernel_rfl
section
variable {H : Type} {enc : TypeId × Value → H} {W : World} {base : Nat} {v : Value} {d : DataW H} {p : List MemPlace}
theorem row_nums {fuel : Nat} {x : DataW H × List MemPlace} (hf : DataW.trod enc Try.prog W 0 (fun _ => true) true fuel 28 [v] = some x) :
    ∃ (A : Option Addr) (ns : List Nat) (cap : Nat), v = .slice A ns.length cap ∧ ns.length ≤ maxLen ∧ (A = none → cap = 0) ∧ Nums W W.heap.size A ns ∧ AllU64 ns := by
  rcases open_ints Try.underlying28 Try.underlying22 cells64 hf with ⟨hcs, _⟩ | ⟨a, len, cap, zs, hcs, _, hl, hm, hz, hx, hcell, hwz⟩
  · obtain rfl : v = .slice none 0 0 := by simpa using hcs
    exact ⟨none, [], 0, rfl, by simp, fun _ => rfl, fun h => absurd h (by simp), fun x hx => by cases hx⟩
  · obtain rfl : v = .slice (some a) len cap := by simpa using hcs
    simp only [if_true] at hz
    refine ⟨some a, (zs.take len).map fun n => n.toNat, cap, ?_, by simp; omega, fun h => by (cases h), fun hn => ?_, fun x hx => ?_⟩
    · congr 1
      simp
      omega
    · have hn' : 0 < zs.length := by simp at hn; omega
      obtain ⟨b, off, rfl, hc⟩ := ints_at hcell hn'
      refine ⟨b, off, rfl, World.block_lt_of_cell? _ _ (hc 0 hn'), fun k hk => ?_⟩
      have hk1 : k < len := by simp at hk; omega
      have hk2 : k < zs.length := by simp at hk; omega
      rw [hc k hk2]
      obtain ⟨y, hy, _⟩ := wf_u64 (hwz zs[k] (List.getElem_mem hk2))
      simp only [List.getD, List.getElem?_map, List.getElem?_take, if_pos hk1, List.getElem?_eq_getElem hk2, Option.map_some, Option.getD_some]
      rw [hy]; rfl
    · obtain ⟨z, hz1, rfl⟩ := List.mem_map.1 hx
      obtain ⟨y, rfl, hy⟩ := wf_u64 (hwz z (List.mem_of_mem_take hz1))
      simpa using hy
theorem row_nm {fuel : Nat} {x : DataW H × List MemPlace} {c0 c1 c2 : Value} (hf : DataW.trod enc Try.prog W 0 (fun _ => true) true fuel 26 [c0, c1, c2] = some x) :
    ∃ i : Nm, c0 = .int .u64 i.1 ∧ c1 = .int .i64 i.2.1 ∧ c2 = .int .u64 i.2.2 ∧ UNm i := by
  obtain ⟨y0, y1, n, -, -, h0, h1⟩ := trod_struct2 Try.underlying26 hf
  simp only [cells64, cellsLife] at h0 h1
  have h0 : DataW.trod enc Try.prog W 0 (fun _ => true) true n 22 [c0] = some y0 := by simpa using h0
  have h1 : DataW.trod enc Try.prog W 0 (fun _ => true) true n 24 [c1, c2] = some y1 := by simpa using h1
  obtain ⟨z0, z1, n', -, -, g0, g1⟩ := trod_struct2 Try.underlying24 h1
  simp only [cells64, cellsInt] at g0 g1
  have g0 : DataW.trod enc Try.prog W 0 (fun _ => true) true n' 3 [c1] = some z0 := by simpa using g0
  have g1 : DataW.trod enc Try.prog W 0 (fun _ => true) true n' 22 [c2] = some z1 := by simpa using g1
  obtain ⟨a, ha, _, wa⟩ := DataW.trod_int Try.underlying22 h0
  obtain ⟨b, hb, _, wb⟩ := DataW.trod_int Try.underlying3 g0
  obtain ⟨c, hc, _, wc⟩ := DataW.trod_int Try.underlying22 g1
  obtain ⟨a', rfl, ha'⟩ := wf_u64 wa
  obtain ⟨c', rfl, hc'⟩ := wf_u64 wc
  obtain rfl : c0 = .int .u64 (a' : Int) := by simpa using ha
  obtain rfl : c1 = .int .i64 b := by simpa using hb
  obtain rfl : c2 = .int .u64 (c' : Int) := by simpa using hc
  exact ⟨((a' : Int), (b, (c' : Int))), rfl, rfl, rfl, ⟨by simp only; omega, by simp only; omega⟩, ⟨by simp only; omega, by simp only; omega⟩⟩
theorem arg_nm (hv : Value.okWide Try.prog W .any base 26 v) (h : DataW.Trod enc Try.prog W 0 (fun _ => true) true 26 v d p) : ∃ i : Nm, v = nmV i ∧ UNm i := by
  obtain ⟨cs, rfl, hsz⟩ := okWide_struct Try.underlying26 hv
  obtain ⟨c0, c1, c2, rfl⟩ := Go.Joins.array3 (hsz.trans cellsNm)
  obtain ⟨fuel, hf⟩ := h
  obtain ⟨i, rfl, rfl, rfl, hi⟩ := row_nm (by simpa [Value.cells] using hf)
  exact ⟨i, rfl, hi⟩
theorem array5 {a : Array Value} (h : a.size = 5) : ∃ c0 c1 c2 c3 c4, a = #[c0, c1, c2, c3, c4] := by
  obtain ⟨l⟩ := a
  match l, h with
  | [c0, c1, c2, c3, c4], _ => exact ⟨c0, c1, c2, c3, c4, rfl⟩
theorem arg_view (hv : Value.okWide Try.prog W .any base 30 v) (h : DataW.Trod enc Try.prog W 0 (fun _ => true) true 30 v d p) :
    ∃ (i : Nm) (A : Option Addr) (ms : List Life) (c : Nat) (A' : Option Addr) (ss : List Nat) (c' : Nat), v = vwV i A ms.length c A' ss.length c' ∧ UNm i ∧ Vm W 9223372036854775807 A ms.length c A' ss.length c' ms ss := by
  obtain ⟨cs, rfl, hsz⟩ := okWide_struct Try.underlying30 hv
  obtain ⟨c0, c1, c2, c3, c4, rfl⟩ := array5 (hsz.trans cellsVw)
  obtain ⟨fuel, hf⟩ := h
  obtain ⟨y0, y1, y2, n, -, -, h0, h1, h2⟩ := Deep.trod_struct3 Try.underlying30 hf
  simp only [cellsNm, cellsLs, cellsNs, Value.cells] at h0 h1 h2
  obtain ⟨i, rfl, rfl, rfl, hi⟩ := row_nm (c0 := c0) (c1 := c1) (c2 := c2) (by simpa using h0)
  obtain ⟨A, ms, c, rfl, hm, hl, hA, hu⟩ := row_lives (v := c3) (by simpa using h1)
  obtain ⟨A', ss, c', rfl, hs, hA', hn, h64⟩ := row_nums (v := c4) (by simpa using h2)
  have hmax : maxLen ≤ 9223372036854775807 := by unfold maxLen; omega
  exact ⟨i, A, ms, c, A', ss, c', rfl, hi, ⟨hl, rfl, Nat.le_trans hm hmax, hA, fun q hq => (hu q hq).2, hn, rfl, Nat.le_trans hs hmax, hA', h64⟩⟩
end
end Go.Proofs.Ytgkldjolnbnehaa
