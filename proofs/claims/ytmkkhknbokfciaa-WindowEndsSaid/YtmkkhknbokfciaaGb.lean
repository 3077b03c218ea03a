/-
  What a row of this seat needs besides its walk: arguments of bytes, of numbers, of texts, opened; the row's end where the call leaves all that was there as it was. For laws that look at no package-level variable. No other condition.
-/
import Derived.Test.YtmkkhknbokfciaaGa
import Derived.ProofKit
import Derived.SizedLaws
import Derived.Carry
import Derived.ChangeCalls
import Derived.OpenShut
import Derived.Deep.Strs
import Derived.Lib.AppendStr
import Derived.ChangeMaps5
import Derived.Deep.SlicePairs
namespace Go.Proofs.Ytmkkhknbokfciaa
set_option maxRecDepth 20000
open Go.ChangeShapes Go.WideShapes Go.ChangeAt Go.WideMaps Go.WideElems Go.RowKit

theorem own : ownKnob Try.prog.godebug = none := by kernel_rfl
theorem cells8 : Try.prog.cellsOf 5 = 1 := by kernel_rfl
theorem cells64 : Try.prog.cellsOf 22 = 1 := by kernel_rfl
theorem cellsInt : Try.prog.cellsOf 3 = 1 := by kernel_rfl
theorem laidOut : laidOutB Try.prog = true := by kernel_rfl
/-- A slice's address under which the whole numbers js lie. -/
def IntsIn (w : World) (A : Option Addr) (js : List Int) : Prop :=
  0 < js.length → ∃ b off, A = some ⟨b, off, none⟩ ∧ b < w.heap.size ∧ ∀ k, k < js.length → w.cell? ⟨b, off + k, none⟩ = some (.int .i64 (js.getD k 0))
theorem IntsIn.below {w w' : World} {A : Option Addr} {js : List Int} (h : IntsIn w A js) (hb : Below w.heap.size w w') : IntsIn w' A js := fun hn => by
  obtain ⟨b, off, e, hlt, hc⟩ := h hn
  exact ⟨b, off, e, Nat.lt_of_lt_of_le hlt hb.size, fun k hk => (hb.cell (p := ⟨b, off + k, none⟩) hlt).trans (hc k hk)⟩

theorem wf_u8_lt {n : Int} (h : (Lit.int .u8 n).wf = true) : n = ((UInt8.ofNat n.toNat).toNat : Nat) := by
  have hb : 0 ≤ n ∧ n ≤ 255 := by simpa [Lit.wf, IntKind.min, IntKind.max, IntKind.bits, IntKind.signed] using h
  rw [UInt8.toNat_ofNat']
  omega
theorem wf_u64 {n : Int} (h : (Lit.int .u64 n).wf = true) : ∃ k : Nat, n = (k : Int) ∧ k < 18446744073709551616 := by
  have hb : 0 ≤ n ∧ n ≤ 18446744073709551615 := by simpa [Lit.wf, IntKind.min, IntKind.max, IntKind.bits, IntKind.signed] using h
  exact ⟨n.toNat, by omega, by omega⟩
theorem wf_i64 {n : Int} (h : (Lit.int .i64 n).wf = true) : -9223372036854775808 ≤ n ∧ n ≤ 9223372036854775807 := by
  simpa [Lit.wf, IntKind.min, IntKind.max, IntKind.bits, IntKind.signed] using h

section
variable {H : Type} {enc : TypeId × Value → H}
/-- An argument of bytes: what it holds. -/
theorem arg_bytes {W : World} {base : Nat} {v : Value} {d : DataW H} {p : List MemPlace} (hv : Value.okWide Try.prog W .any base 26 v) (h : DataW.Trod enc Try.prog W 0 (fun _ => true) true 26 v d p) :
    ∃ (A : Option Addr) (l : List UInt8) (cap : Nat), v = .slice A l.length cap ∧ l.length ≤ cap ∧ (A = none → cap = 0) ∧ Bytes W W.heap.size A l ∧ l.length ≤ maxLen := by
  obtain ⟨a0, len, cap, rfl⟩ := okWide_slice Try.underlying26 hv
  obtain ⟨fuel, hf⟩ := h
  rcases open_ints Try.underlying26 Try.underlying5 cells8 hf with ⟨hcs, _⟩ | ⟨a, len', cap', zs, hcs, _, hl, hm, hz, hx, hcell, hwz⟩
  · obtain ⟨rfl, rfl, rfl⟩ : a0 = none ∧ len = 0 ∧ cap = 0 := by simpa [Value.cells] using hcs
    exact ⟨none, [], 0, rfl, by simp, fun _ => rfl, Bytes.nil_, by simp⟩
  · obtain ⟨rfl, rfl, rfl⟩ : a0 = some a ∧ len = len' ∧ cap = cap' := by simpa [Value.cells] using hcs
    simp only [if_true] at hz
    refine ⟨some a, (zs.take len).map fun n => UInt8.ofNat n.toNat, cap, ?_, by simp; omega, fun h => by (cases h), fun hn => ?_, by simp; omega⟩
    · congr 1
      simp
      omega
    · have hn' : 0 < zs.length := by simp at hn; omega
      obtain ⟨b, off, rfl, hc⟩ := ints_at hcell hn'
      refine ⟨b, off, rfl, World.block_lt_of_cell? _ _ (hc 0 hn'), fun k hk => ?_⟩
      have hk1 : k < len := by simp at hk; omega
      have hk2 : k < zs.length := by simp at hk; omega
      rw [hc k hk2]
      have hw := wf_u8_lt (hwz zs[k] (List.getElem_mem hk2))
      simp only [at8, List.getD, List.getElem?_map, List.getElem?_take, if_pos hk1, List.getElem?_eq_getElem hk2, Option.map_some, Option.getD_some]
      rw [← hw]
/-- Arguments read as they did, where nothing that was there has turned. -/
theorem trodAll_kept {W W' : World} (hb : Below W.heap.size W W') : ∀ {ts : List TypeId} {vs : List Value} {ds : List (DataW H)} {ps : List MemPlace},
    (∀ t ∈ ts, Try.prog.readableRec t = true ∧ t < Try.prog.types.size) → (∀ x ∈ ps, x.block < W.heap.size) → DataW.TrodAll enc Try.prog W 0 (fun _ => true) true ts vs ds ps →
    DataW.TrodAll enc Try.prog W' 0 (fun b => decide (b < W.heap.size)) true ts vs ds ps
  | [], [], [], _, _, _, h => h
  | t :: ts, v :: vs, d :: ds, ps, hr, hlt, h => by
    obtain ⟨p, q, h1, h2, rfl⟩ := h
    exact ⟨p, q, Below.trod laidOut (hr t (by simp)).1 (hr t (by simp)).2 h1 hb (fun x hx => hlt x (by simp [hx])),
      trodAll_kept hb (fun t' ht' => hr t' (by simp [ht'])) (fun x hx => hlt x (by simp [hx])) h2, rfl⟩
  | [], _ :: _, _, _, _, _, h => by cases h
  | [], [], _ :: _, _, _, _, h => by cases h
  | _ :: _, [], _, _, _, _, h => by cases h
  | _ :: _, _ :: _, [], _, _, _, h => by cases h

/-- A law's row, out of its walk: it answers true, and what was there stays as it was. -/
theorem law_lifted (F : FuncId) (fn : Func) (s : ChangeSpec) (os : Os) (started : os.Started)
    (hno : Try.prog.inits.idxOf? F = none) (hfn : Try.prog.funcs[F]? = some fn) (hvars : s.vars = [])
    (hspec : ∀ ds : List (DataW H), ds.length = fn.params.toList.length → s.fn H ds = { results := [.lit (.bool true)], args := ds })
    (hrt : fn.resultTypes = #[4]) (hread : ∀ t ∈ fn.params.toList, Try.prog.readableRec t = true ∧ t < Try.prog.types.size)
    (witness : ∃ (w : World) (tape : Tape) (i : Input), w.os = os ∧ (w.forCall tape i).Shaped Try.prog ∧ i.vars = [] ∧ Input.okWide Try.prog (w.forCall tape i) .any w.heap.size F i ∧
      s.pre6 enc Try.prog fn [] false (w.forCall tape i).memory i.args ∧ ({} : Assume).holds Try.prog (lone (Frame.enter Try.prog F i.args .normal) [] (w.forCall tape i)))
    (walk : ∀ (W : World) (base : Nat) (args : Array Value) (ds : List (DataW H)) (p : List MemPlace),
      (∀ (j : Nat) t v, fn.params[j]? = some t → args[j]? = some v → Value.okWide Try.prog W .any base t v) →
      DataW.TrodAll enc Try.prog W 0 (fun _ => true) true fn.params.toList args.toList ds p →
      (DataW.weightsEach Try.prog fn.params.toList ds).all (· ≤ reachBytes) = true →
      Calls Try.prog F args W fun e W' => e = .returned (.bool true) ∧ Hid (Below W.heap.size W W')) :
    ReturnsInHanded {} Try.checked os F .any (s.pre6 enc Try.prog fn [] false) (s.post enc Try.prog fn false true false false) := by
  refine returnsInHanded_of_change_sized (C := Try.checked) own started hno hfn witness ?_
  intro W base args ds gs before hval hW _ hsz _
  have hW' := hW
  have hlt := hW.lt
  obtain ⟨p, q, hA, hV, rfl, hfz, hnd⟩ := hW
  rw [hvars] at hV
  obtain ⟨rfl, rfl⟩ := trodVars_none hV
  have hvt : s.plain.varTypes Try.prog = [] := by
    have e : s.plain.vars = [] := hvars
    unfold DataSpec.varTypes
    rw [e]
    rfl
  have hsz : (DataW.weightsEach Try.prog (fn.params.toList ++ s.plain.varTypes Try.prog) (ds ++ [])).all (· ≤ reachBytes) = true := hsz
  rw [hvt] at hsz
  simp only [List.append_nil] at hsz hW' hlt
  have hA : DataW.TrodAll enc Try.prog W 0 (fun _ => true) true fn.params.toList args.toList ds p := hA
  have hlen := (trodAll_length hA).2
  refine (walk W base args ds p hval hA hsz).mono fun e W' ⟨he, hb⟩ => ?_
  subst he
  have hs := hspec ds hlen
  refine ⟨_, rfl, ds, [], p, [], p, [], hW', ?_, ?_, ?_, ?_, fun h => by cases h⟩
  · rw [List.append_nil, hs, hrt]
    exact trodAll_mk1 (shut_bool Try.underlying4 _)
  · rw [List.append_nil, hs]
    exact trodAll_kept hb.out hread hlt hA
  · rw [List.append_nil, hs, hvars]
    rfl
  · exact hb.out.frame _
end
end Go.Proofs.Ytmkkhknbokfciaa
/-
  A Writer's and a Reader's calls within a law: what each leaves, told against the world in which the law began. No condition.
-/
namespace Go.Proofs.Ytmkkhknbokfciaa
set_option maxRecDepth 20000
open Go.RowKit

theorem below_drew_left {B : Nat} {w w' : World} (h : Below B w.drew w') : Below B w w' := ⟨h.os, h.tape, h.output, h.size, h.block⟩
theorem below_drewN {B : Nat} {a w : World} (h : Below B a w) (n : Nat) : Below B a (w.drewN n) := ⟨h.os, h.tape, h.output, h.size, h.block⟩
/-- A slice that reads as these bytes. -/
def BytesV (l : List UInt8) (w : World) (v : Value) : Prop := ∃ A cap, v = .slice A l.length cap ∧ Bytes w w.heap.size A l
theorem BytesV.mono {l : List UInt8} {v : Value} {w w' : World} (hb : Below w.heap.size w w') (h : BytesV l w v) : BytesV l w' v := by
  obtain ⟨A, cap, e, h1⟩ := h
  exact ⟨A, cap, e, (h1.below hb).more hb.size⟩
theorem Nums.front {w : World} {B : Nat} {A : Option Addr} {ns : List Nat} (h : Nums w B A ns) (k : Nat) : Nums w B A (ns.take k) := fun hn => by
  rw [List.length_take] at hn
  obtain ⟨b, off, e, hb, hc⟩ := h (by omega)
  refine ⟨b, off, e, hb, fun j hj => ?_⟩
  rw [List.length_take] at hj
  rw [hc j (by omega)]
  simp only [List.getD]
  rw [List.getElem?_take, if_pos (by omega)]
end Go.Proofs.Ytmkkhknbokfciaa
/-
  What the document's own digits do: they are the number's to that base, the lowest first, in new memory. No condition but a base of two at least.
-/
namespace Go.Proofs.Ytmkkhknbokfciaa
open Go.RowKit

/-- The digits of x to base b + 2, the lowest first, one at least. -/
def digL (b x : Nat) : List Nat := if x < b + 2 then [x] else x % (b + 2) :: digL b (x / (b + 2))
termination_by x
decreasing_by
  rename_i h
  exact Nat.div_lt_self (by omega) (by omega)
theorem digL_last {b x : Nat} (h : x < b + 2) : digL b x = [x] := by rw [digL, if_pos h]
theorem digL_more {b x : Nat} (h : ¬ x < b + 2) : digL b x = x % (b + 2) :: digL b (x / (b + 2)) := by rw [digL, if_neg h]
def nv (l : List Nat) : List Value := l.map fun (n : Nat) => .int .u64 ((n : Nat) : Int)
theorem nv_length (l : List Nat) : (nv l).length = l.length := by simp [nv]
theorem nv_append (a b : List Nat) : nv (a ++ b) = nv a ++ nv b := by simp [nv]
theorem nv_get {l : List Nat} {k : Nat} (h : k < l.length) : (nv l)[k]? = some (.int .u64 ((l.getD k 0 : Nat) : Int)) := by simp [nv, List.getD, h]
/-- A slice of numbers that the program itself made. -/
def Own64 (w : World) (base : Nat) (A : Option Addr) (n cap : Nat) (l : List Nat) : Prop := w.ownsRow base 22 1 (.slice A n cap) n (nv l)
theorem Own64.len {w : World} {base n cap : Nat} {A : Option Addr} {l : List Nat} (h : Own64 w base A n cap l) : l.length = n := by
  have := h.1
  simpa [nv_length] using this
theorem Own64.nums {w : World} {base n cap : Nat} {A : Option Addr} {l : List Nat} (h : Own64 w base A n cap l) : Nums w w.heap.size A l := fun hn => by
  have hl := h.len
  rcases h.2 with ⟨hv, hx⟩ | ⟨g, c, cur, hv, hb, hh, _⟩
  · rw [hx] at hl; omega
  · have hv' : A = some ⟨g, 0, none⟩ ∧ n = n ∧ cap = c := by simpa using hv
    obtain ⟨rfl, -, rfl⟩ := hv'
    refine ⟨g, 0, rfl, lt_of_heap hh, fun k hk => ?_⟩
    have hc := h.cells (g := g) rfl k _ (nv_get hk)
    rw [add_mk] at hc
    exact hc
theorem own64_value {w : World} {base n : Nat} {v : Value} {xs : List Value} (h : w.ownsRow base 22 1 v n xs) : ∃ A cap, v = .slice A n cap := by
  rcases h.2 with ⟨hv, hx⟩ | ⟨g, c, cur, hv, _⟩
  · refine ⟨none, 0, ?_⟩
    rw [hx]
    exact hv
  · exact ⟨_, _, hv⟩
theorem Try.infoU64 : (Try.prog.info? 22).map (fun i => (i.zero, i.size, i.bytes)) = some (some (.int .u64 0), 1, 8) := by kernel_rfl
theorem digL_len (k b x : Nat) (h : x < 2 ^ (k + 1)) : (digL b x).length ≤ k + 1 := by
  induction k generalizing x with
  | zero => rw [digL_last (by omega)]; simp
  | succ k ih =>
    by_cases h1 : x < b + 2
    · rw [digL_last h1]; simp
    · rw [digL_more h1]
      have h2 : x / (b + 2) ≤ x / 2 := Nat.div_le_div_left (by omega) (by omega)
      have := ih (x / (b + 2)) (by rw [Nat.pow_succ] at h; omega)
      simp; omega
def DigRel (w : World) (b x : Nat) (v o : Value) (wr : World) : Prop :=
  ∃ y pre A cap, v = .int .u64 ((y : Nat) : Int) ∧ y ≤ x ∧ Hid (pre ++ digL b y = digL b x) ∧ o = .slice A (pre.length + 1) cap ∧ Hid (Own64 wr w.heap.size A (pre.length + 1) cap (pre ++ [y % (b + 2)])) ∧ Hid (Below w.heap.size w wr)
def DigE (w : World) (l : List Nat) (e : Ending) (w' : World) : Prop := ∃ A cap, e = .returned (.slice A l.length cap) ∧ Hid (Nums w' w'.heap.size A l) ∧ Hid (Below w.heap.size w w')

end Go.Proofs.Ytmkkhknbokfciaa
/-
  What the document's own answers for short and wide numbers and texts do: the same bytes, in new memory. For texts of at most 2^45 bytes.
-/
namespace Go.Proofs.Ytmkkhknbokfciaa
open Go.RowKit

theorem Own8.raise {w : World} {base n cap : Nat} {A : Option Addr} {l : List UInt8} (h : Own8 w 0 A n cap l) (hg : ∀ k, blockOf A = some k → base ≤ k) : Own8 w base A n cap l := by
  refine ⟨h.1, ?_⟩
  rcases h.2 with h2 | ⟨g, c, cur, hv, _, hrest⟩
  · exact .inl h2
  · have hv' : A = some ⟨g, 0, none⟩ ∧ cap = c := by simpa using hv
    exact .inr ⟨g, c, cur, hv, hg g (by rw [hv'.1]; rfl), hrest⟩
theorem digL126 {x : Nat} (h : ¬ x < 128) : digL 126 x = x % 128 :: digL 126 (x / 128) := digL_more h
theorem short_digits (x : Nat) : (shortL x).length = (digL 126 x).length ∧ ∀ k, k < (digL 126 x).length → (digL 126 x).getD k 0 < 128 ∧ (shortL x).getD k 0 = UInt8.ofNat ((digL 126 x).getD k 0 + if k + 1 < (digL 126 x).length then 128 else 0) := by
  induction x using Nat.strongRecOn with
  | _ x ih =>
    by_cases h : x < 128
    · rw [shortL_last h, digL_last h]
      refine ⟨rfl, fun k hk => ?_⟩
      obtain rfl : k = 0 := by simpa using hk
      exact ⟨h, rfl⟩
    · rw [shortL_more h, digL126 h]
      obtain ⟨h1, h2⟩ := ih (x / 128) (by omega)
      refine ⟨by simp [h1], fun k hk => ?_⟩
      have hp : 0 < (digL 126 (x / 128)).length := by rw [← h1]; exact shortL_pos _
      cases k with
      | zero =>
        refine ⟨by simp only [List.getD, List.getElem?_cons_zero, Option.getD_some]; omega, ?_⟩
        simp only [List.getD, List.getElem?_cons_zero, Option.getD_some, List.length_cons]
        rw [if_pos (by omega)]
      | succ k =>
        simp only [List.length_cons] at hk
        obtain ⟨h3, h4⟩ := h2 k (by omega)
        simp only [List.getD, List.getElem?_cons_succ, List.length_cons] at h3 h4 ⊢
        refine ⟨h3, h4.trans ?_⟩
        congr 2
        by_cases hc : k + 1 < (digL 126 (x / 128)).length
        · rw [if_pos hc, if_pos (by omega)]
        · rw [if_neg hc, if_neg (by omega)]
theorem bytes_num (w : World) (z : Int) (c : UInt8) (h : z = ((c.toNat : Nat) : Int)) : Bytes (w.alloc (.cells #[.int .u8 z] 5)) (w.heap.size + 1) (some ⟨w.heap.size, 0, none⟩) [c] := by
  subst h
  exact bytes_one w c
theorem take_next {l : List UInt8} {k : Nat} (h : k < l.length) : l.take (k + 1) = l.take k ++ [l.getD k 0] := by
  rw [List.take_add_one, List.getElem?_eq_getElem h]
  simp [List.getD, h]
def ShRel (w : World) (l : List UInt8) (o i : Value) (wr : World) : Prop :=
  ∃ k A cap, k ≤ l.length ∧ i = .int .i64 (k : Nat) ∧ o = .slice A k cap ∧ Hid (Own8 wr 0 A k cap (l.take k)) ∧ Hid (∀ j, blockOf A = some j → w.heap.size ≤ j) ∧ Hid (Below w.heap.size w wr)
end Go.Proofs.Ytmkkhknbokfciaa
/-
  What the document's own answers for wide numbers and texts do: the same bytes, in new memory. For texts of at most 2^45 bytes.
-/
namespace Go.Proofs.Ytmkkhknbokfciaa
open Go.RowKit

theorem digL254 {x : Nat} (h : ¬ x < 256) : digL 254 x = x % 256 :: digL 254 (x / 256) := digL_more h
theorem wide_digits (x : Nat) : (∀ k, k < (digL 254 x).length → (digL 254 x).getD k 0 < 256 ∧ (digL 254 x).getD k 0 = x / 256 ^ k % 256) ∧ ∀ k, (digL 254 x).length ≤ k → x / 256 ^ k = 0 := by
  induction x using Nat.strongRecOn with
  | _ x ih =>
    by_cases h : x < 256
    · rw [digL_last h]
      refine ⟨fun k hk => ?_, fun k hk => ?_⟩
      · obtain rfl : k = 0 := by simpa using hk
        simp only [List.getD, List.getElem?_cons_zero, Option.getD_some, Nat.pow_zero, Nat.div_one]
        omega
      · have h1 : 256 ^ 1 ≤ 256 ^ k := Nat.pow_le_pow_right (by omega) (by simpa using hk)
        exact Nat.div_eq_of_lt (by omega)
    · rw [digL254 h]
      obtain ⟨h1, h2⟩ := ih (x / 256) (by omega)
      have e : ∀ k, x / 256 ^ (k + 1) = x / 256 / 256 ^ k := fun k => by rw [Nat.pow_succ, Nat.mul_comm, Nat.div_div_eq_div_mul]
      refine ⟨fun k hk => ?_, fun k hk => ?_⟩
      · cases k with
        | zero =>
          have e0 : (x % 256 :: digL 254 (x / 256)).getD 0 0 = x % 256 := rfl
          rw [e0, Nat.pow_zero, Nat.div_one]
          exact ⟨Nat.mod_lt _ (by omega), rfl⟩
        | succ k =>
          have := h1 k (by simpa using hk)
          rw [e]
          simpa [List.getD] using this
      · cases k with
        | zero => simp at hk
        | succ k => rw [e]; exact h2 k (by simpa using hk)
theorem wideL_getD (x n k : Nat) (h : k < n) : (wideL x n).getD k 0 = UInt8.ofNat (x / 256 ^ k % 256) := by
  induction n with
  | zero => omega
  | succ n ih =>
    rw [wideL]
    by_cases hk : k < n
    · have := ih hk
      simp only [List.getD] at this ⊢
      rw [List.getElem?_append_left (by rw [wideL_length]; exact hk)]
      exact this
    · obtain rfl : k = n := by omega
      simp only [List.getD]
      rw [List.getElem?_append_right (by rw [wideL_length]; exact Nat.le_refl _), wideL_length]
      simp
/-- What stands in the new block behind k of the stores. -/
def wideK (x n k : Nat) : List UInt8 := (wideL x n).take k ++ List.replicate (n - k) 0
theorem wideK_length (x n k : Nat) (h : k ≤ n) : (wideK x n k).length = n := by simp [wideK, wideL_length]; omega
theorem wideK_succ (x n k : Nat) (h : k < n) : (wideK x n k).set k (UInt8.ofNat (x / 256 ^ k % 256)) = wideK x n (k + 1) := by
  unfold wideK
  have hl : ((wideL x n).take k).length = k := by rw [List.length_take, wideL_length]; omega
  rw [List.set_append_right _ _ (by omega), hl, Nat.sub_self, take_next (by rw [wideL_length]; exact h), wideL_getD x n k h]
  obtain ⟨m, hm⟩ : ∃ m, n - k = m + 1 := ⟨n - k - 1, by omega⟩
  rw [hm, show n - (k + 1) = m by omega]
  simp [List.replicate_succ]
theorem wideK_end (x n k : Nat) (h : k ≤ n) (hz : ∀ j, k ≤ j → x / 256 ^ j = 0) : wideK x n k = wideL x n := by
  apply List.ext_getElem?
  intro i
  unfold wideK
  have hl : ((wideL x n).take k).length = k := by rw [List.length_take, wideL_length]; omega
  by_cases hi : i < k
  · rw [List.getElem?_append_left (by omega), List.getElem?_take, if_pos hi]
  · rw [List.getElem?_append_right (by omega), hl, List.getElem?_replicate]
    by_cases hin : i < n
    · rw [if_pos (by omega), List.getElem?_eq_getElem (by rw [wideL_length]; exact hin)]
      have hw := wideL_getD x n i hin
      rw [hz i (by omega)] at hw
      have hw2 : (wideL x n)[i]'(by rw [wideL_length]; exact hin) = UInt8.ofNat (0 % 256) := by
        simpa [List.getD, wideL_length, hin] using hw
      rw [hw2]
      rfl
    · rw [if_neg (by omega), List.getElem?_eq_none (by rw [wideL_length]; omega)]
/-- Block g is just the bytes l, none of them frozen. -/
def Blk8 (w : World) (g : Nat) (l : List UInt8) : Prop := w.heap[g]? = some (.cells (bv l).toArray 5 (0, 0))
section
variable {w w' : World} {g : Nat} {l : List UInt8}
theorem Blk8.cell (h : Blk8 w g l) {k : Nat} (hk : k < l.length) : w.cell? ⟨g, k, none⟩ = some (.int .u8 ((at8 l k : Nat) : Int)) := by
  rw [cell_of_row w g k _ _ (0, 0) h]
  simpa using bv_get hk
theorem Blk8.frozen (h : Blk8 w g l) (k : Nat) : w.frozen? ⟨g, k, none⟩ = false := by
  unfold Blk8 at h
  simp [World.frozen?, h]
theorem Blk8.set_ (h : Blk8 w g l) (k : Nat) (c : UInt8) : Blk8 (w.setCell ⟨g, k, none⟩ (.int .u8 ((c.toNat : Nat) : Int))) g (l.set k c) := by
  unfold Blk8 at h ⊢
  simp [World.setCell, Array.getElem?_modify, h, bv, List.map_set]
theorem Blk8.own (h : Blk8 w g l) {base : Nat} (hb : base ≤ g) (hm : l.length ≤ maxLen) : Own8 w base (some ⟨g, 0, none⟩) l.length l.length l :=
  ⟨by simp, .inr ⟨g, l.length, (bv l).toArray, rfl, hb, h, Nat.le_refl _, hm, by simp, List.take_of_length_le (by simp)⟩⟩
end
def WideRel2 (W1 : World) (g x n m : Nat) (i : Value) (wr : World) : Prop :=
  ∃ k, k ≤ n ∧ k ≤ m ∧ i = .int .i64 (k : Nat) ∧ Hid (Blk8 wr g (wideK x n k)) ∧ Hid (Below W1.heap.size W1 wr)
end Go.Proofs.Ytmkkhknbokfciaa
/-
  A Writer's calls within a law, and a law's own slice of bytes beside them. No condition.
-/
namespace Go.Proofs.Ytmkkhknbokfciaa
set_option maxRecDepth 20000
open Go.RowKit

/-- No block is both. -/
def Ap (a b : Option Nat) : Prop := ∀ k, a = some k → b ≠ some k
theorem Ap.symm {a b : Option Nat} (h : Ap a b) : Ap b a := fun k e e' => h k e' e
theorem Ap.none_left {b : Option Nat} : Ap none b := fun _ h => by cases h
theorem Ap.none_right {b : Option Nat} : Ap b none := fun _ _ h => by cases h
theorem Ap.new {W : World} {a a' b : Option Nat} (h : Ap a b) (hn : NewOr W a a') (hb : ∀ k, b = some k → k < W.heap.size) : Ap a' b := by
  rcases hn with rfl | ⟨k, rfl, hk⟩
  · exact h
  · intro j e e'
    cases e
    have := hb _ e'
    omega
theorem Ap.late {a b : Option Nat} {n : Nat} (ha : ∀ k, a = some k → k < n) (hb : ∀ k, b = some k → n ≤ k) : Ap a b := fun k e e' => by have := ha k e; have := hb k e'; omega
/-- A law's own slice of bytes. -/
structure BS (B : Nat) (w0 W : World) (A : Option Addr) (n cap : Nat) (l : List UInt8) : Prop where
  own : Own8 W 0 A n cap l
  below : Below B w0 W
  hA : ∀ k, blockOf A = some k → B ≤ k
section
variable {B : Nat} {w0 W W' : World} {A : Option Addr} {n cap : Nat} {l : List UInt8} {p : Nat} {g : Option Nat} {l' : List UInt8}
theorem BS.lt (h : BS B w0 W A n cap l) : ∀ k, blockOf A = some k → k < W.heap.size := fun _ hk => (h.own.lt hk).2
theorem BS.later (h : BS B w0 W A n cap l) (hB : B ≤ W.heap.size) (hb : Below W.heap.size W W') : BS B w0 W' A n cap l :=
  ⟨h.own.keep (S := fun _ => False) (Only.ofBelow hb) (fun _ _ h => h), h.below.trans (hb.mono hB), h.hA⟩
theorem BS.grown {A' : Option Addr} {n' cap' : Nat} {l2 : List UInt8} (h : BS B w0 W A n cap l) (hB : B ≤ W.heap.size) (h1 : Own8 W' 0 A' n' cap' l2) (ho : Only (fun k => blockOf A = some k) W W') (hn : NewOr W (blockOf A) (blockOf A')) : BS B w0 W' A' n' cap' l2 :=
  ⟨h1, ho.below h.below h.hA hB, hn.ge hB h.hA⟩
end
end Go.Proofs.Ytmkkhknbokfciaa
/-
  A Reader's calls within a law, beside a Writer's. No condition.
-/
namespace Go.Proofs.Ytmkkhknbokfciaa
set_option maxRecDepth 20000
open Go.RowKit

theorem RdS.dlt {T : TypeId} {B : Nat} {w0 W : World} {q : Nat} {d : Option Nat} {s : RS} (h : RdS T B w0 W q d s) : ∀ k, d = some k → k < W.heap.size := h.rd.dlt
theorem uint_none {s : RS} (h : (parse s.l).2 = 0) : rUint s = (0, ⟨s.l, true⟩) := if_pos (.inr h)
theorem uint_some {l : List UInt8} (h : (parse l).2 ≠ 0) : rUint ⟨l, false⟩ = ((parse l).1, ⟨l.drop (parse l).2, false⟩) := if_neg (by simpa using h)
theorem text_ok {l : List UInt8} {m : Int} (h : ¬ ((parse l).2 = 0 ∨ m < 0 ∨ m < ((parse l).1 : Int) ∨ l.length < (parse l).2 + (parse l).1)) : rText ⟨l, false⟩ m = ((l.drop (parse l).2).take (parse l).1, ⟨l.drop ((parse l).2 + (parse l).1), false⟩) := if_neg (by simpa using h)
theorem text_not {l : List UInt8} {m : Int} (h : (parse l).2 = 0 ∨ m < 0 ∨ m < ((parse l).1 : Int) ∨ l.length < (parse l).2 + (parse l).1) : rText ⟨l, false⟩ m = ([], ⟨l, true⟩) := if_pos (.inr h)
end Go.Proofs.Ytmkkhknbokfciaa
/-
  The statements' own put: a wide number of 1, 2, 4 or 8 bytes. No condition.
-/
namespace Go.Proofs.Ytmkkhknbokfciaa
open Go.RowKit

theorem wideL_mod (x : Nat) (N : Nat) : ∀ n, n ≤ N → wideL (x % 256 ^ N) n = wideL x n := by
  intro n
  induction n with
  | zero => intro _; rfl
  | succ n ih =>
    intro h
    rw [wideL, wideL, ih (by omega)]
    congr 3
    have e : 256 ^ N = 256 ^ n * 256 ^ (N - n) := by rw [← Nat.pow_add]; congr 1; omega
    rw [e, Nat.mod_mul_right_div_self]
    obtain ⟨m, hm⟩ : ∃ m, N - n = m + 1 := ⟨N - n - 1, by omega⟩
    rw [hm, Nat.pow_succ, Nat.mul_comm, Nat.mod_mul_right_mod]
theorem i64_and3 (n : Int) : bits .and .i64 n 3 = n % 4 := by
  have h3 : (BitVec.ofInt 64 3).toNat = 2 ^ 2 - 1 := by decide
  have key : (BitVec.ofInt 64 n &&& BitVec.ofInt 64 3).toNat = (n % ((2 ^ 64 : Nat) : Int)).toNat % 2 ^ 2 := by
    rw [BitVec.toNat_and, BitVec.toNat_ofInt, h3, Nat.and_two_pow_sub_one_eq_mod]
  show IntKind.i64.wrap ((BitVec.ofInt 64 n &&& BitVec.ofInt 64 3).toNat : Nat) = n % 4
  rw [key, IntKind.wrap_i64]
  omega
end Go.Proofs.Ytmkkhknbokfciaa
/-
  Arguments opened: a number, a text, texts, and a statement's own calls. No condition.
-/
namespace Go.Proofs.Ytmkkhknbokfciaa
set_option maxRecDepth 20000
open Go.ChangeShapes Go.WideShapes Go.ChangeAt Go.WideMaps Go.WideElems Go.RowKit

theorem cellsStr : Try.prog.cellsOf 9 = 1 := by kernel_rfl
/-- A slice's address under which these texts lie. -/
def StrsIn (w : World) (A : Option Addr) (ss : List ByteArray) : Prop :=
  0 < ss.length → ∃ b off, A = some ⟨b, off, none⟩ ∧ b < w.heap.size ∧ ∀ k, k < ss.length → w.cell? ⟨b, off + k, none⟩ = some (.string (ss.getD k ByteArray.empty))
/-- A slice's address under which these calls lie. -/
def AsksIn (w : World) (A : Option Addr) (aks : List (Int × Int)) : Prop :=
  0 < aks.length → ∃ b off, A = some ⟨b, off, none⟩ ∧ b < w.heap.size ∧ ∀ k, k < aks.length → w.cell? ⟨b, off + k * 2, none⟩ = some (.int .i64 (aks.getD k (0, 0)).1) ∧ w.cell? ⟨b, off + k * 2 + 1, none⟩ = some (.int .i64 (aks.getD k (0, 0)).2)
def I64 (n : Int) : Prop := -9223372036854775808 ≤ n ∧ n ≤ 9223372036854775807
section
variable {H : Type} {enc : TypeId × Value → H} {W : World} {base : Nat} {v : Value} {d : DataW H} {p : List MemPlace}
theorem arg_int (hv : Value.okWide Try.prog W .any base 3 v) (h : DataW.Trod enc Try.prog W 0 (fun _ => true) true 3 v d p) : ∃ n : Int, v = .int .i64 n ∧ (-9223372036854775808 ≤ n ∧ n ≤ 9223372036854775807) := by
  obtain ⟨n, rfl, _, _, hw⟩ := open_int Try.underlying3 hv h
  exact ⟨n, rfl, wf_i64 hw⟩
theorem arg_u64 (hv : Value.okWide Try.prog W .any base 22 v) (h : DataW.Trod enc Try.prog W 0 (fun _ => true) true 22 v d p) : ∃ n : Nat, v = .int .u64 (n : Int) ∧ n < 18446744073709551616 := by
  obtain ⟨n, rfl, _, _, hw⟩ := open_int Try.underlying22 hv h
  obtain ⟨k, rfl, hk⟩ := wf_u64 hw
  exact ⟨k, rfl, hk⟩
theorem arg_str (hv : Value.okWide Try.prog W .any base 9 v) (h : DataW.Trod enc Try.prog W 0 (fun _ => true) true 9 v d p) : ∃ s : ByteArray, v = .string s ∧ s.size ≤ maxLen := by
  obtain ⟨s, rfl, _, _, hs⟩ := Go.ChangeMaps.open_string Try.underlying9 hv h
  exact ⟨s, rfl, hs⟩
theorem arg_strs (hv : Value.okWide Try.prog W .any base 52 v) (h : DataW.Trod enc Try.prog W 0 (fun _ => true) true 52 v d p) :
    ∃ (A : Option Addr) (ss : List ByteArray) (cap : Nat), v = .slice A ss.length cap ∧ ss.length ≤ maxLen ∧ StrsIn W A ss ∧ ∀ s ∈ ss, s.size ≤ maxLen := by
  obtain ⟨a0, len, cap, rfl⟩ := okWide_slice Try.underlying52 hv
  obtain ⟨fuel, hf⟩ := h
  rcases Deep.open_strs Try.underlying52 Try.underlying9 cellsStr hf with ⟨hcs, _⟩ | ⟨a, len', cap', m, Sx, hcs, _, hl, hm, hmm, _, hcell⟩
  · obtain ⟨rfl, rfl, rfl⟩ : a0 = none ∧ len = 0 ∧ cap = 0 := by simpa [Value.cells] using hcs
    exact ⟨none, [], 0, rfl, by simp, fun h => absurd h (by simp), fun s hs => by cases hs⟩
  · obtain ⟨rfl, rfl, rfl⟩ : a0 = some a ∧ len = len' ∧ cap = cap' := by simpa [Value.cells] using hcs
    simp only [if_true] at hmm
    refine ⟨some a, (List.range len).map Sx, cap, by simp, by simp; omega, fun hn => ?_, fun s hs => ?_⟩
    · have hn' : 0 < m := by simp at hn; omega
      obtain ⟨b, off, rfl⟩ : ∃ b off, a = ⟨b, off, none⟩ := by
        have h0 := (hcell 0 hn').1
        obtain ⟨b, off, spot⟩ := a
        have hspot : spot = none := by simpa [Addr.add] using World.cell?_spot h0
        subst hspot
        exact ⟨b, off, rfl⟩
      refine ⟨b, off, rfl, ?_, fun k hk => ?_⟩
      · have h0 := (hcell 0 hn').1
        rw [add_mk] at h0
        exact World.block_lt_of_cell? _ _ h0
      · have hk1 : k < len := by simpa using hk
        have h1 := (hcell k (by omega)).1
        rw [add_mk] at h1
        rw [h1]
        simp [List.getD, hk1]
    · obtain ⟨i, hi, rfl⟩ := List.mem_map.1 hs
      exact (hcell i (by have := List.mem_range.1 hi; omega)).2
end
end Go.Proofs.Ytmkkhknbokfciaa
