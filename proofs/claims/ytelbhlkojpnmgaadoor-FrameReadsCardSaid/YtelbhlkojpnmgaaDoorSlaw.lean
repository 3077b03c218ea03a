/-
  What a row needs whose law reads the sum's table (a tied card's row): the table read off the row's condition; arguments of bytes with their size; the row's end where the call leaves all that was there as it was. No other condition.
-/
import Derived.Test.YtelbhlkojpnmgaaDoorSwords
import Derived.Test.YtelbhlkojpnmgaaDoorGb
import Derived.LaidMore
import Derived.Stop.Joined
import Derived.Lib.LaidTab
namespace Go.Proofs.YtelbhlkojpnmgaaDoor
set_option maxRecDepth 20000
open Go.ChangeShapes Go.WideShapes Go.ChangeAt Go.WideMaps Go.WideElems Go.RowKit

def laid1 : List (String × DataW Unit) := [("caucus/sum.halves", Rows.laid_caucus_sum_halves)]
theorem gHalves : Tryd.prog.globalNamed "caucus/sum.halves" = some 0 := by kernel_rfl
theorem tHalves : (Tryd.prog.globals[0]?).map (·.type) = some 92 := by kernel_rfl
theorem cells16 : Tryd.prog.cellsOf 92 = 16 := by kernel_rfl
theorem cells32 : Tryd.prog.cellsOf 73 = 1 := by kernel_rfl
theorem bytes8 : Tryd.prog.bytesOf 5 = 1 := by kernel_rfl
def halvesZ : List Int := Crc.halves.map fun (n : Nat) => (n : Int)
theorem halvesZ_eq {H : Type} : (Rows.laid_caucus_sum_halves : DataW H) = Lib.tabData .u32 halvesZ := rfl

/-- The door's own heap meets the condition. -/
theorem door_met (os : Os) (args : Array Value) : laidMetH Tryd.prog laid1 ((World.doorLaid Tryd.prog 400 os).forCall (fun _ _ => 0) ⟨#[], args, []⟩).memory :=
  laidMetH_of_parts3 (fuel := 8) (laidMet_of_run' 8 (by kernel_rfl) (by kernel_rfl)) (by kernel_rfl) (by kernel_rfl)

theorem tab_of_laid {W : World} (h : laidMetH Tryd.prog laid1 W) : Tab W := by
  rw [MakeChecks.laidMetH_plain _ _ _ (by kernel_rfl)] at h
  unfold laid1 at h
  rw [halvesZ_eq] at h
  have hT := Lib.tabIs_of_head gHalves tHalves Tryd.underlying92 Tryd.underlying73 cells32 cells16 h
  intro k hk
  rw [hT.cell gHalves k (by simpa [halvesZ, Crc.halves] using hk)]
  have e : ∀ k < 16, halvesZ.getD k 0 = ((Crc.half k : Nat) : Int) := by decide
  rw [e k hk]

theorem wf_u32 {n : Int} (h : (Lit.int .u32 n).wf = true) : ∃ k : Nat, n = (k : Int) ∧ k < 4294967296 := by
  have hb : 0 ≤ n ∧ n ≤ 4294967295 := by simpa [Lit.wf, IntKind.min, IntKind.max, IntKind.bits, IntKind.signed] using h
  exact ⟨n.toNat, by omega, by omega⟩

section
variable {H : Type} {enc : TypeId × Value → H}
/-- An argument of bytes: what it holds, and how much room it takes at the most. -/
theorem arg_bytes_sized {W : World} {base : Nat} {v : Value} {d : DataW H} {p : List MemPlace} (hv : Value.okWide Tryd.prog W .any base 23 v) (h : DataW.Trod enc Tryd.prog W 0 (fun _ => true) true 23 v d p) :
    ∃ (A : Option Addr) (l : List UInt8) (cap : Nat), v = .slice A l.length cap ∧ l.length ≤ cap ∧ (A = none → cap = 0) ∧ Bytes W W.heap.size A l ∧
      ∀ (ts : List TypeId) (ds : List (DataW H)) (j : Nat), (DataW.weightsEach Tryd.prog ts ds).all (· ≤ reachBytes) = true → ts[j]? = some 23 → ds[j]? = some d → cap ≤ 140737488351232 := by
  obtain ⟨a0, len, cap, rfl⟩ := okWide_slice Tryd.underlying23 hv
  obtain ⟨fuel, hf⟩ := h
  rcases open_ints Tryd.underlying23 Tryd.underlying5 cells8 hf with ⟨hcs, _⟩ | ⟨a, len', cap', zs, hcs, _, hl, hm, hz, hx, hcell, hwz⟩
  · obtain ⟨rfl, rfl, rfl⟩ : a0 = none ∧ len = 0 ∧ cap = 0 := by simpa [Value.cells] using hcs
    exact ⟨none, [], 0, rfl, by simp, fun _ => rfl, Bytes.nil_, fun _ _ _ _ _ _ => by omega⟩
  · obtain ⟨rfl, rfl, rfl⟩ : a0 = some a ∧ len = len' ∧ cap = cap' := by simpa [Value.cells] using hcs
    simp only [if_true] at hz
    refine ⟨some a, (zs.take len).map fun n => UInt8.ofNat n.toNat, cap, ?_, by simp; omega, fun h => by (cases h), fun hn => ?_, fun ts ds j hs ht hd => ?_⟩
    · congr 1
      simp
      omega
    · have hn' : 0 < zs.length := by simp at hn; omega
      obtain ⟨b, off, rfl, hc⟩ := ints_at hcell hn'
      refine ⟨b, off, rfl, World.block_lt_of_cell? _ _ (hc 0 hn'), fun k hk => ?_⟩
      have hk1 : k < len := by simp at hk; omega
      have hk2 : k < zs.length := by simp at hk; omega
      rw [hc k hk2]
      have hw := wf_u8_lt (hwz zs[k] (List.getElem_mem hk2))
      simp only [at8, List.getD, List.getElem?_map, List.getElem?_take, if_pos hk1, List.getElem?_eq_getElem hk2, Option.map_some, Option.getD_some]
      rw [← hw]
    · simp only [Prod.mk.injEq] at hx
      have hr := sized_slice hs ht (hd.trans (by rw [hx.1])) Tryd.underlying23
      rw [bytes8] at hr
      simp [lits] at hr
      unfold reachBytes at hr
      omega

/-- A law's row, out of its walk: it answers true, and what was there stays as it was. -/
theorem slaw_lifted (F : FuncId) (fn : Func) (s : ChangeSpec) (os : Os) (started : os.Started)
    (hno : Tryd.prog.inits.idxOf? F = none) (hfn : Tryd.prog.funcs[F]? = some fn) (hvars : s.vars = [])
    (hspec : ∀ ds : List (DataW H), ds.length = fn.params.toList.length → s.fn H ds = { results := [.lit (.bool true)], args := ds })
    (hrt : fn.resultTypes = #[4]) (hread : ∀ t ∈ fn.params.toList, Tryd.prog.readableRec t = true ∧ t < Tryd.prog.types.size)
    (witness : ∃ (w : World) (tape : Tape) (i : Input), w.os = os ∧ (w.forCall tape i).Shaped Tryd.prog ∧ i.vars = [] ∧ Input.okWide Tryd.prog (w.forCall tape i) .any w.heap.size F i ∧
      ((s.pre enc Tryd.prog fn [] false (w.forCall tape i).memory i.args ∧ laidMetH Tryd.prog laid1 (w.forCall tape i).memory) ∧ sizedMet enc Tryd.prog fn (OpenSpec.ofChange s) false (w.forCall tape i).memory i.args) ∧
      ({} : Assume).holds Tryd.prog (lone (Frame.enter Tryd.prog F i.args .normal) [] (w.forCall tape i)))
    (walk : ∀ (W : World) (base : Nat) (args : Array Value) (ds : List (DataW H)) (p : List MemPlace), Tab W →
      (∀ (j : Nat) t v, fn.params[j]? = some t → args[j]? = some v → Value.okWide Tryd.prog W .any base t v) →
      DataW.TrodAll enc Tryd.prog W 0 (fun _ => true) true fn.params.toList args.toList ds p →
      (DataW.weightsEach Tryd.prog fn.params.toList ds).all (· ≤ reachBytes) = true →
      Calls Tryd.prog F args W fun e W' => e = .returned (.bool true) ∧ Hid (Below W.heap.size W W')) :
    ReturnsInHanded {} Tryd.checked os F .any (fun w args => (s.pre enc Tryd.prog fn [] false w args ∧ laidMetH Tryd.prog laid1 w) ∧ sizedMet enc Tryd.prog fn (OpenSpec.ofChange s) false w args)
      (s.post enc Tryd.prog fn false true false false) := by
  refine returnsInHanded_of_change_and (C := Tryd.checked) (X := fun w _ => laidMetH Tryd.prog laid1 w) (fun _ _ _ hh h => h.of_heap hh) own started hno hfn witness ?_
  intro W base args ds gs before hval hW _ hsz hL _
  have hW' := hW
  have hlt := hW.lt
  obtain ⟨p, q, hA, hV, rfl, hfz, hnd⟩ := hW
  rw [hvars] at hV
  obtain ⟨rfl, rfl⟩ := trodVars_none hV
  have hvt : s.plain.varTypes Tryd.prog = [] := by
    have e : s.plain.vars = [] := hvars
    unfold DataSpec.varTypes
    rw [e]
    rfl
  have hsz : (DataW.weightsEach Tryd.prog (fn.params.toList ++ s.plain.varTypes Tryd.prog) (ds ++ [])).all (· ≤ reachBytes) = true := hsz
  rw [hvt] at hsz
  simp only [List.append_nil] at hsz hW' hlt
  have hA : DataW.TrodAll enc Tryd.prog W 0 (fun _ => true) true fn.params.toList args.toList ds p := hA
  have hlen := (trodAll_length hA).2
  refine (walk W base args ds p (tab_of_laid hL) hval hA hsz).mono fun e W' ⟨he, hb⟩ => ?_
  subst he
  have hs := hspec ds hlen
  refine ⟨_, rfl, ds, [], p, [], p, [], hW', ?_, ?_, ?_, ?_, fun h => by cases h⟩
  · rw [List.append_nil, hs, hrt]
    exact trodAll_mk1 (shut_bool Tryd.underlying4 _)
  · rw [List.append_nil, hs]
    exact trodAll_kept hb.out hread hlt hA
  · rw [List.append_nil, hs, hvars]
    rfl
  · exact hb.out.frame _
end

end Go.Proofs.YtelbhlkojpnmgaaDoor
