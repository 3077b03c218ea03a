/-
  The library's Clone and Compact at lists of lives. For lists of at most 2^40 lives; Compact's row is the program's own.
-/
import Derived.Test.YtadpbcbgmopfaaaPref
import Derived.Lib.SliceRun
import Derived.Lib.SlicesCompact
namespace Go.Proofs.Ytadpbcbgmopfaaa
set_option maxRecDepth 20000
open Go.RowKit
open Go.Lib (keeps compactUpTo CompInv)

/-- A row of lives that may be written. -/
def RowP (w : World) (g o : Nat) (d : Array Life) : Prop := ∀ t, t < d.size → (w.cell? ⟨g, o + t * 2, none⟩ = some (.int .i64 d[t]!.1) ∧ w.cell? ⟨g, o + t * 2 + 1, none⟩ = some (.int .u64 d[t]!.2)) ∧ w.frozen? ⟨g, o + t * 2, none⟩ = false ∧ w.frozen? ⟨g, o + t * 2 + 1, none⟩ = false
theorem RowP.drewN {w : World} {g o : Nat} {d : Array Life} (h : RowP w g o d) (q : Nat) : RowP (w.drewN q) g o d := h
theorem RowP.drew {w : World} {g o : Nat} {d : Array Life} (h : RowP w g o d) : RowP w.drew g o d := h
theorem get_set_same (d : Array Life) (i : Nat) (u : Life) (h : i < d.size) : (d.setIfInBounds i u)[i]! = u := by
  rw [getElem!_pos _ _ (by simpa using h)]; simp
theorem get_set_other (d : Array Life) (i j : Nat) (u : Life) (h : j < d.size) (hne : j ≠ i) : (d.setIfInBounds i u)[j]! = d[j]! := by
  rw [getElem!_pos (d.setIfInBounds i u) j (by simpa using h), getElem!_pos d j h, Array.getElem_setIfInBounds_ne]
  exact Ne.symm hne
theorem RowP.set {w : World} {g o : Nat} {d : Array Life} (h : RowP w g o d) (i : Nat) (u : Life) (hi : i < d.size) :
    RowP ((w.setCell ⟨g, o + i * 2, none⟩ (.int .i64 u.1)).setCell ⟨g, o + i * 2 + 1, none⟩ (.int .u64 u.2)) g o (d.setIfInBounds i u) := by
  intro t ht
  have ht' : t < d.size := by simpa using ht
  obtain ⟨⟨c1, c2⟩, f1, f2⟩ := h t ht'
  refine ⟨?_, by simpa using f1, by simpa using f2⟩
  have ne : ∀ a b : Nat, a ≠ b → (⟨g, a, none⟩ : Addr) ≠ ⟨g, b, none⟩ := fun a b hab e => by simp at e <;> omega
  by_cases e : t = i
  · subst e
    rw [get_set_same d t u ht']
    constructor
    · rw [World.cell?_setCell_other _ _ _ _ (ne _ _ (by omega)), World.cell?_setCell_same _ _ _ c1]
    · exact World.cell?_setCell_same _ _ _ ((World.cell?_setCell_other _ _ _ _ (ne _ _ (by omega))).trans c2)
  · rw [get_set_other d i t u ht' e]
    constructor
    · rw [World.cell?_setCell_other _ _ _ _ (ne _ _ (by omega)), World.cell?_setCell_other _ _ _ _ (ne _ _ (by omega)), c1]
    · rw [World.cell?_setCell_other _ _ _ _ (ne _ _ (by omega)), World.cell?_setCell_other _ _ _ _ (ne _ _ (by omega)), c2]
/-- What the row holds, as a list in memory. -/
theorem RowP.lives {w : World} {g o : Nat} {d : Array Life} {L : List Life} (hg : g < w.heap.size) (h : RowP w g o d) (hL : L.length ≤ d.size) (he : ∀ j, j < L.length → atL L j = d[j]!) : Lives w w.heap.size (some ⟨g, o, none⟩) L := fun _ => by
  refine ⟨g, o, rfl, hg, fun k hk => ?_⟩
  rw [he k hk]
  exact (h k (by omega)).1
theorem setCells_other (g : Nat) : ∀ (vs : List Value) (s : Nat) (w : World) (t : Nat), t < s → (w.setCells g s vs).cell? ⟨g, t, none⟩ = w.cell? ⟨g, t, none⟩
  | [], _, _, _, _ => rfl
  | v :: r, s, w, t, h => by
    rw [World.setCells, setCells_other g r (s + 1) _ t (by omega)]
    exact World.cell?_setCell_other _ _ _ _ (fun e => by simp at e <;> omega)
theorem setCells_onlyP (g : Nat) : ∀ (vs : List Value) (o : Nat) (w : World), Only (fun k => k = g) w (w.setCells g o vs)
  | [], _, w => Only.refl _ w
  | v :: r, o, w => ((Only.refl (fun k => k = g) w).setCell (p := ⟨g, o, none⟩) (.inl rfl) v).trans (setCells_onlyP g r (o + 1) _) fun _ _ h => h
theorem zeroP (w : World) : (zeroValue 70).run Try.prog w = .ok (.agg #[.int .i64 0, .int .u64 0]) w := by kernel_rfl
theorem zeroP_cells (n : Nat) : ∀ v ∈ (Builtin.zeroCells #[.int .i64 0, .int .u64 0] n).toList, v.oneCell' = true := by
  intro v hv
  simp only [Builtin.zeroCells, Array.toList_map, List.mem_map] at hv
  obtain ⟨i, _, rfl⟩ := hv
  have : i % 2 = 0 ∨ i % 2 = 1 := by omega
  show (#[Value.int .i64 0, Value.int .u64 0][i % 2]!).oneCell' = true
  rcases this with e | e <;> rw [e] <;> rfl
theorem clearP (g o n c : Nat) (w : World) (d : Array Life) (k : Nat) (h : RowP w g o d) (hk : k + n = d.size) (hn : 0 < n) :
    ∃ w', (∀ ty, (Builtin.clear_ #[74] ty #[.slice (some ⟨g, o + k * 2, none⟩) n c]).run Try.prog w = .ok (.tuple #[]) w') ∧ Hid (Only (fun b => b = g) w w') ∧ Hid (∀ t, t < o + k * 2 → w'.cell? ⟨g, t, none⟩ = w.cell? ⟨g, t, none⟩) := by
  have hl : (Builtin.zeroCells #[.int .i64 0, .int .u64 0] n).toList.length = n * 2 := by simp [Builtin.zeroCells]
  have hcf : ∀ j, j < n * 2 → (w.cell? ⟨g, o + k * 2 + 0 + j, none⟩).isSome = true ∧ w.frozen? ⟨g, o + k * 2 + 0 + j, none⟩ = false := by
    intro j hj
    obtain ⟨⟨c1, c2⟩, f1, f2⟩ := h (k + j / 2) (by omega)
    rcases Nat.mod_two_eq_zero_or_one j with e | e
    · rw [show o + (k + j / 2) * 2 = o + k * 2 + 0 + j by omega] at c1 f1
      rw [c1, f1]; exact ⟨rfl, rfl⟩
    · rw [show o + (k + j / 2) * 2 + 1 = o + k * 2 + 0 + j by omega] at c2 f2
      rw [c2, f2]; exact ⟨rfl, rfl⟩
  have hst := run_storeCells_cells (P := Try.prog) g (o + k * 2) (Builtin.zeroCells #[.int .i64 0, .int .u64 0] n).toList 0 w (fun j hj => (hcf j (by omega)).1) (fun j hj => (hcf j (by omega)).2) (zeroP_cells n)
  refine ⟨_, fun ty => ?_, setCells_onlyP g (Builtin.zeroCells #[.int .i64 0, .int .u64 0] n).toList (o + k * 2) w, fun t ht => setCells_other g _ _ w t ht⟩
  simp only [Nat.add_zero] at hst
  obtain ⟨m, rfl⟩ : ∃ m, n = m + 1 := ⟨n - 1, by omega⟩
  have hz : (Value.agg #[.int .i64 0, .int .u64 0]).cells = #[.int .i64 0, .int .u64 0] := rfl
  simp [Builtin.clear_, run_underlying Try.underlying74, hz, hst]

theorem cloneP_any (A : Option Addr) (l : List Life) (n c : Nat) (w : World) (h : Lives w w.heap.size A l) (hn : l.length = n) (hb : n ≤ 1099511627776) (hA : A = none → c = 0) :
    Calls Try.prog 83 #[.slice A n c] w fun e w' => ∃ A' c', e = .returned (.slice A' n c') ∧ Hid (OwnP w' w.heap.size A' n c' l) ∧ Hid (Below w.heap.size w w') := by
  have HL := Lib.hid h
  have HN := Lib.hid hn
  clear h hn
  go_enter Try.func83, Try.ntmps83
  have q22 : ∀ (w : World) (a : Option Addr) (n c n' c' : Nat), (binOp .eql 74 (.slice a n c) (.slice none n' c')).run Try.prog w = .ok (.bool a.isNone) w := fun w a n c n' c' => Lib.run_eql_slice_nil w _ _ a n c n' c' Try.underlying74
  cases A with
  | none =>
    have hl : l = [] := HL.out.none_
    subst hl
    have h0 : n = 0 := by simpa using HN.out.symm
    subst h0
    go_wp2
    go_ret
    exact ⟨none, 0, rfl, Lib.hid OwnP.nil_, Lib.hid (Below.refl _ _)⟩
  | some a =>
    go_wp2_with (at_builtin; refine wpList_appendP rfl _ _ rfl w.heap.size _ 0 _ [] rfl ?qc0 (World.ownsRow_made w #[] 0 (Nat.le_refl _) (Nat.zero_le _) (by simp)) (some a) n c w.heap.size l rfl ?qc1 (fun e => by cases e) ?qc2 ?qc3 ?_)
    case qc0 => simp
    case qc1 => exact HN.out
    case qc2 => exact HL.out.below ((Below.refl _ w).alloc (Nat.le_refl _) _)
    case qc3 => omega
    intro A' c' w' h1 h2 h3
    go_wp2
    go_ret
    refine ⟨A', c', by simp, ?_, ?_⟩
    · simpa using h1
    · exact Lib.hid (h2.out.below ((Below.refl _ w).alloc (Nat.le_refl _) _) (by rintro k e; simp [blockOf] at e; omega) (by simp))

theorem atL_toList (d : Array Life) (k : Nat) (h : k < d.size) : atL d.toList k = d[k]! := by
  rw [atL_lt (by simpa using h), getElem!_pos d k h]
  simp
set_option maxHeartbeats 4000000 in
/-- The library's Compact on a row of lives of the program's own: of neighbours that are one, one stays. -/
theorem compactP_any (g o cap : Nat) (d : Array Life) (w : World) (h : RowP w g o d) (hg : g < w.heap.size) (hsz : d.size ≤ 1099511627776) (hcap : d.size ≤ cap) :
    Calls Try.prog 85 #[.slice (some ⟨g, o, none⟩) d.size cap] w fun e w' => e = .returned (.slice (some ⟨g, o, none⟩) (compactUpTo d d.size).length cap) ∧ Hid (Only (fun b => b = g) w w') ∧ Hid (Lives w' w'.heap.size (some ⟨g, o, none⟩) (compactUpTo d d.size)) := by
  have same : ∀ q, (∀ j, j < d.size → keeps d j = true) → (compactUpTo d d.size).length = d.size ∧ Lives (w.drewN q) w.heap.size (some ⟨g, o, none⟩) (compactUpTo d d.size) := by
    intro q hall
    have e : compactUpTo d d.size = d.toList := by rw [Lib.compactUpTo_all d _ hall, Lib.range_map_get]
    rw [e]
    exact ⟨by simp, (h.drewN q).lives hg (by simp) fun j hj => atL_toList d j (by simpa using hj)⟩
  have HS := Lib.hid same
  have HG := Lib.hid hg
  have HH := Lib.hid h
  clear same h hg
  generalize hr : (compactUpTo d d.size).length = r at *
  have HR := Lib.hid hr
  clear hr
  generalize hm : d.size = m at *
  have HM := Lib.hid hm
  clear hm
  go_enter Try.func85, Try.ntmps85
  by_cases h2 : m < 2
  · have h2' : (m : Int) < 2 := by omega
    go_wp2
    go_ret
    obtain ⟨e1, e2⟩ := HS.out 0 (fun j hj => Lib.keeps_lt_one d j (by omega))
    exact ⟨by rw [e1]; rfl, Lib.hid (Only.refl _ _), e2⟩
  · have h2' : ¬ (m : Int) < 2 := by omega
    go_wp2
    go_loopw [3] (fun s3 wr => ∃ k q : Nat, 1 ≤ k ∧ k ≤ m ∧ s3 = .int .i64 k ∧ wr = w.drewN q ∧ Hid (∀ j, j < k → keeps d j = true)) (fun i _ => m - (intOf i).toNat)
    case atStart => exact ⟨1, 0, Nat.le_refl _, by omega, rfl, rfl, Lib.hid (Lib.keeps_lt_one d)⟩
    case round =>
      obtain ⟨k, q, hk1, hk, rfl, rfl, hall⟩ := hrel
      by_cases hlt : k < m
      · obtain ⟨⟨c1, c2⟩, _, _⟩ := HH.out k (by rw [HM.out]; omega)
        obtain ⟨⟨d1, d2⟩, _, _⟩ := HH.out (k - 1) (by rw [HM.out]; omega)
        have g0 : (0 : Int) ≤ (k : Int) := by omega
        have g1 : (k : Int) < (m : Int) := by omega
        have he := fun w => eq_run d[k]!.1 d[k]!.2 d[k - 1]!.1 d[k - 1]!.2 w
        have hgd := fun op a b w => guard_run op a b d[k]!.1 d[k]!.2 d[k - 1]!.1 d[k - 1]!.2 w
        have E1 := Lib.hid (show (d[k]!.1, d[k]!.2) = d[k]! from rfl)
        have E2 := Lib.hid (show (d[k - 1]!.1, d[k - 1]!.2) = d[k - 1]! from rfl)
        generalize d[k]!.1 = x1 at *
        generalize d[k]!.2 = x2 at *
        generalize d[k - 1]!.1 = y1 at *
        generalize d[k - 1]!.2 = y2 at *
        by_cases hdup : ((x1, x2) : Life) = (y1, y2)
        · rw [decide_eq_true hdup] at he
          have HD := Lib.hid (show d[k]! = d[k - 1]! by rw [← E1.out, hdup, E2.out])
          clear hdup
          have hck : ¬ cap = k := by omega
          go_wp2_with fail
          go_quiet (fail)
          go_wp2
          clear c1 c2 d1 d2 he hgd g0 g1
          go_loopw [3, 5] (fun s3 s5 wr => ∃ kk k2 : Nat, ∃ dk : Array Life, 1 ≤ k2 ∧ k + k2 ≤ m ∧ kk < k + k2 ∧ dk.size = m ∧ s3 = .int .i64 kk ∧ s5 = .int .i64 k2 ∧ Hid (RowP wr g o dk) ∧ Hid (Only (fun b => b = g) w wr) ∧ Hid (CompInv d (k + k2) kk dk)) (fun _ i _ => m - (intOf i).toNat)
          case atStart => exact ⟨k, 1, d, Nat.le_refl _, by omega, by omega, HM.out, rfl, rfl, Lib.hid (HH.out.drewN _), Lib.hid ((Only.refl _ _).drewN _), Lib.hid (CompInv.start hall.out (Lib.keeps_neg (by omega) HD.out))⟩
          case round =>
            obtain ⟨kk, k2, dk, h1, hle, hkk, hds, rfl, rfl, hrow, honly, hinv⟩ := hrel
            by_cases hlt2 : k + k2 < m
            · obtain ⟨⟨c1, c2⟩, _, _⟩ := hrow.out (k + k2) (by omega)
              obtain ⟨⟨d1, d2⟩, _, _⟩ := hrow.out (k + k2 - 1) (by omega)
              obtain ⟨⟨e1, e2⟩, f1, f2⟩ := hrow.out kk (by omega)
              rw [show o + (k + k2) * 2 = o + k * 2 + k2 * 2 by omega] at c1 c2
              rw [show o + (k + k2 - 1) * 2 = o + k * 2 + (k2 - 1) * 2 by omega] at d1 d2
              have g0 : (0 : Int) ≤ (k2 : Int) := by omega
              have g1 : (k2 : Int) < ((m - k : Nat) : Int) := by omega
              have g3 : (kk : Int) < (m : Int) := by omega
              have he := fun w => ne_run dk[k + k2]!.1 dk[k + k2]!.2 dk[k + k2 - 1]!.1 dk[k + k2 - 1]!.2 w
              have hgd := fun op a b w => guard_run op a b dk[k + k2]!.1 dk[k + k2]!.2 dk[k + k2 - 1]!.1 dk[k + k2 - 1]!.2 w
              have F1 := Lib.hid (show (dk[k + k2]!.1, dk[k + k2]!.2) = d[k + k2]! from hinv.out.high _ (by omega))
              have F2 := Lib.hid (show (dk[k + k2 - 1]!.1, dk[k + k2 - 1]!.2) = d[k + k2 - 1]! from hinv.out.high _ (by omega))
              generalize dk[k + k2]!.1 = u1 at *
              generalize dk[k + k2]!.2 = u2 at *
              generalize dk[k + k2 - 1]!.1 = v1 at *
              generalize dk[k + k2 - 1]!.2 = v2 at *
              have HST := Lib.hid (hrow.out.set kk (u1, u2) (by omega))
              generalize dk[kk]!.1 = old1 at *
              generalize dk[kk]!.2 = old2 at *
              by_cases hu : ((u1, u2) : Life) = (v1, v2)
              · rw [decide_eq_true hu] at he
                have HU := Lib.hid (show d[k + k2]! = d[k + k2 - 1]! by rw [← F1.out, hu, F2.out])
                clear hu
                go_wp2_with fail
                go_quiet (fail)
                go_wp2
                go_roundw
                case rel => exact ⟨kk, k2 + 1, dk, by omega, by omega, by omega, hds, rfl, by go_num, Lib.hid (hrow.out.drewN _), Lib.hid (honly.out.drewN _), Lib.hid (hinv.out.skip (Lib.keeps_neg (by omega) HU.out))⟩
                case measure => simp [intOf]; omega
              · rw [decide_eq_false hu] at he
                have HU := Lib.hid (show d[k + k2]! ≠ d[k + k2 - 1]! by rw [← F1.out, ← F2.out]; exact hu)
                clear hu
                go_wp2_with fail
                go_quiet (fail)
                go_wp2
                go_roundw
                case rel =>
                  refine ⟨kk + 1, k2 + 1, dk.setIfInBounds kk (u1, u2), by omega, by omega, by omega, by simpa using hds, by go_num, by go_num, ?_, ?_, ?_⟩
                  · exact Lib.hid HST.out
                  · exact Lib.hid (((honly.out.setCell (p := ⟨g, o + kk * 2, none⟩) (.inl rfl) _).setCell (p := ⟨g, o + kk * 2 + 1, none⟩) (.inl rfl) _).drewN _)
                  · have := hinv.out.keep (by rw [HM.out]; exact hlt2) (Lib.keeps_pos HU.out)
                    rw [← F1.out] at this
                    exact Lib.hid this
                case measure => simp [intOf]; omega
            · have hend : k + k2 = m := by omega
              subst hend
              have hck2 : ¬ cap = kk := by omega
              have g1 : ¬ (k2 : Int) < ((k + k2 - k : Nat) : Int) := by omega
              obtain ⟨W2, hcl, ho2, hlow⟩ := clearP g o (k + k2 - kk) (cap - kk) wr dk kk hrow.out (by omega) (by omega)
              go_wp2
              go_ret
              have hrk : r = kk := by rw [← HR.out, ← hinv.out.len]
              refine ⟨by rw [hrk]; rfl, Lib.hid (honly.out.trans ho2.out fun _ _ h => h), Lib.hid fun _ => ⟨g, o, rfl, Nat.lt_of_lt_of_le HG.out (Nat.le_trans honly.out.size ho2.out.size), fun j hj => ?_⟩⟩
              rw [HR.out, hrk] at hj
              have hlw := hinv.out.low j hj
              have ea : atL (compactUpTo d (k + k2)) j = dk[j]! := by simp [atL, List.getD, hlw]
              rw [ea, hlow.out _ (by omega), hlow.out _ (by omega)]
              exact (hrow.out j (by omega)).1
        · rw [decide_eq_false hdup] at he
          have HD := Lib.hid (show d[k]! ≠ d[k - 1]! by rw [← E1.out, ← E2.out]; exact hdup)
          clear hdup
          go_wp2_with fail
          go_quiet (fail)
          go_wp2
          go_roundw
          case rel => exact ⟨k + 1, q + nq, by omega, by omega, by go_num, rfl, Lib.hid fun j hj => by
            by_cases e : j = k
            · subst e
              exact Lib.keeps_pos HD.out
            · exact hall.out j (by omega)⟩
          case measure => simp [intOf]; omega
      · obtain rfl : k = m := by omega
        have g1 : ¬ (k : Int) < (k : Int) := by omega
        go_wp2
        go_ret
        obtain ⟨e1, e2⟩ := HS.out q hall.out
        exact ⟨by rw [e1]; rfl, Lib.hid ((Only.refl _ _).drewN q), e2⟩
end Go.Proofs.Ytadpbcbgmopfaaa
