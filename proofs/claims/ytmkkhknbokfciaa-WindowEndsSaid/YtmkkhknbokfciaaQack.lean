/-
  Package window's Acked. For senders of at most 2000 bodies of at most 1,000,000 bytes.
-/
import Derived.Test.YtmkkhknbokfciaaQackp
import Derived.Test.YtmkkhknbokfciaaQpush
import Derived.Test.YtmkkhknbokfciaaQround
namespace Go.Proofs.Ytmkkhknbokfciaa
set_option maxRecDepth 20000
open Go.RowKit Go.Shelf
attribute [local go_sem] Oper.semAt_some wideDepth wideFn

theorem orws_cells {w w' : World} {base : Nat} {A : Option Addr} {n c : Nat} {ls : List (List UInt8)} (h : ORws w base A n c ls) (hk : ∀ (k : Nat) (o : Obj), w.heap[k]? = some o → o.isCells = true → w'.heap[k]? = some o) : ORws w' base A n c ls := by
  obtain ⟨vs, h1, h2, h3⟩ := h
  refine ⟨vs, ⟨h1.1, ?_⟩, h2, fun k hk' => ?_⟩
  · rcases h1.2 with h4 | ⟨g, c', cur, hv, hg, hh, hrest⟩
    · exact .inl h4
    · exact .inr ⟨g, c', cur, hv, hg, hk _ _ hh rfl, hrest⟩
  · obtain ⟨A', c', e1, e2, e3⟩ := h3 k hk'
    refine ⟨A', c', e1, own8_at e2 (fun g hg => ?_), e3⟩
    obtain ⟨_, cur, hh, _⟩ := e2.block hg
    rw [hh]
    exact hk _ _ hh rfl
theorem cells_grown {W W' : World} {row : Option Nat} (hg : W.grownBy W' row) (hr : ∀ r, row = some r → ∃ o : Obj, W.heap[r]? = some o ∧ o.isCells = false) : ∀ (k : Nat) (o : Obj), W.heap[k]? = some o → o.isCells = true → W'.heap[k]? = some o := fun k o h hc =>
  (hg.block k (lt_of_heap h) (fun e => by
    obtain ⟨o', ho, hc'⟩ := hr k e.symm
    rw [h] at ho
    cases ho
    rw [hc] at hc'
    cases hc')).trans h
theorem cells_putObj {W : World} {D : Nat} {o : Obj} (hK : W.heap[D]? = some (.deferred (some []))) : ∀ (k : Nat) (o' : Obj), W.heap[k]? = some o' → o'.isCells = true → (W.putObj D o).heap[k]? = some o' := fun k o' h hc => by
  by_cases e : k = D
  · subst e
    rw [hK] at h
    cases h
    cases hc
  · exact (World.putObj_heap_other e).trans h
/-- What lies when a round has answered. -/
def AckX (rr ff : Nat) (w : World) (b u n : Nat) (ls : List (List UInt8)) (W : World) : Prop :=
  ∃ A3 c3, SRow rr u A3 (n - (u - b)) c3 W ∧ W.heap[ff]? = some (.cells #[.bool true] 4 (0, 0)) ∧ ORws W w.heap.size A3 (n - (u - b)) c3 (ls.drop (u - b)) ∧ Below w.heap.size w W
theorem ackX_own (rr ff : Nat) (w : World) (b u n : Nat) (ls : List (List UInt8)) (B : Nat) (hB : w.heap.size ≤ B) : OwnFrom B (fun (_ : Unit) W => AckX rr ff w b u n ls W) := fun _ X Y row hs hg hr => by
  obtain ⟨A3, c3, h1, h2, h3, h4⟩ := hs
  have hk := cells_grown hg (fun r e => (hr r e).2)
  exact ⟨A3, c3, hk _ _ h1 rfl, hk _ _ h2 rfl, orws_cells h3 hk, h4.grown hg h4.size (fun k e => Nat.le_trans hB (hr k e).1)⟩
theorem run_loadBool {w : World} {g : Nat} {v : Bool} (h : w.heap[g]? = some (.cells #[.bool v] 4 (0, 0))) : (loadVar 4 ⟨g, 0, none⟩).run Try.prog w = .ok (.bool v) w := by
  have hc : w.cell? ⟨g, 0, none⟩ = some (.bool v) := by simpa using cell_plain h 0
  simp [go_sem, loadVar, hc]
theorem ORws.keepTy {w w' : World} {base : Nat} {A : Option Addr} {n c G : Nat} {ls : List (List UInt8)} {cs : Array Value} {t : TypeId} {fr : Nat × Nat} (h : ORws w base A n c ls) (hr : w.heap[G]? = some (.cells cs t fr)) (h1t : t ≠ 26) (h2t : t ≠ 5) (ho : Only (fun k => k = G) w w') : ORws w' base A n c ls := by
  obtain ⟨vs, h1, h2, h3⟩ := h
  refine ⟨vs, h1.keep ho (fun k e hk => ?_), h2, fun k hk => ?_⟩
  · subst hk
    rcases h1.2 with ⟨hv, _⟩ | ⟨g, c', cur, hv, hg, hh, _⟩
    · have hv' : A = none ∧ n = 0 ∧ c = 0 := by simpa using hv
      rw [hv'.1] at e
      cases e
    · have hv' : A = some ⟨g, 0, none⟩ ∧ c = c' := by simpa using hv
      rw [hv'.1] at e
      have e' : g = k := Option.some.inj e
      rw [e', hr] at hh
      injection hh with hh
      injection hh with _ h5 _
      exact h1t h5
  · obtain ⟨A', c', e1, e2, e3⟩ := h3 k hk
    refine ⟨A', c', e1, e2.keep ho (fun g hg hk => ?_), e3⟩
    subst hk
    obtain ⟨_, cur, hh, _⟩ := e2.block hg
    rw [hr] at hh
    injection hh with hh
    injection hh with _ h5 _
    exact h2t h5
/-- The two results stored. -/
theorem ack_store {rr ff n c : Nat} {w V : World} {ls : List (List UInt8)} {A : Option Addr} {b0 : Int} {A0 : Option Addr} {n0 c0 : Nat} {x : Bool} (y : Int) (t : Bool) (hR : SRow rr b0 A0 n0 c0 V) (hF : V.heap[ff]? = some (.cells #[.bool x] 4 (0, 0))) (hO : ORws V w.heap.size A n c ls) (hB : Below w.heap.size w V) (h1 : w.heap.size ≤ rr) (h2 : w.heap.size ≤ ff) :
    SRow rr y A n c (((V.setCell ⟨rr, 0, none⟩ (.int .u64 y)).setCell ⟨rr, 1, none⟩ (.slice A n c)).setCell ⟨ff, 0, none⟩ (.bool t)) ∧ (((V.setCell ⟨rr, 0, none⟩ (.int .u64 y)).setCell ⟨rr, 1, none⟩ (.slice A n c)).setCell ⟨ff, 0, none⟩ (.bool t)).heap[ff]? = some (.cells #[.bool t] 4 (0, 0)) ∧
      ORws (((V.setCell ⟨rr, 0, none⟩ (.int .u64 y)).setCell ⟨rr, 1, none⟩ (.slice A n c)).setCell ⟨ff, 0, none⟩ (.bool t)) w.heap.size A n c ls ∧ Only (fun k => k = rr ∨ k = ff) V (((V.setCell ⟨rr, 0, none⟩ (.int .u64 y)).setCell ⟨rr, 1, none⟩ (.slice A n c)).setCell ⟨ff, 0, none⟩ (.bool t)) ∧
      Below w.heap.size w (((V.setCell ⟨rr, 0, none⟩ (.int .u64 y)).setCell ⟨rr, 1, none⟩ (.slice A n c)).setCell ⟨ff, 0, none⟩ (.bool t)) := by
  have hrf : rr ≠ ff := fun e => by
    unfold SRow at hR
    rw [e, hF] at hR
    simp at hR
  have O3 := only_two V rr (.int .u64 y) (.slice A n c)
  have S3 : SRow rr y A n c _ := hR.set2 y A n c
  have F3 := (O3.block ff (lt_of_heap hF) (fun e => hrf e.symm)).trans hF
  have R3 := hO.keepRow hR O3
  generalize (V.setCell ⟨rr, 0, none⟩ (.int .u64 y)).setCell ⟨rr, 1, none⟩ (.slice A n c) = Va at *
  have O4 : Only (fun k => k = ff) Va (Va.setCell ⟨ff, 0, none⟩ (.bool t)) := (Only.refl (fun k => k = ff) Va).setCell (p := ⟨ff, 0, none⟩) (.inl rfl) _
  have OO : Only (fun k => k = rr ∨ k = ff) V (Va.setCell ⟨ff, 0, none⟩ (.bool t)) := (O3.weak (S := fun k => k = rr ∨ k = ff) fun _ _ e => .inl e).trans O4 fun _ _ e => .inr e
  refine ⟨S3.keep O4 hrf, by simp [World.setCell, Array.getElem?_modify, F3], R3.keepTy F3 (by decide) (by decide) O4, OO, OO.below hB (fun k e => by rcases e with rfl | rfl <;> assumption) hB.size⟩
set_option maxHeartbeats 8000000 in
theorem ack_any (b : Nat) (A : Option Addr) (n c u : Nat) (ls : List (List UInt8)) (w : World) (hl : ls.length = n) (hi : Rws w w.heap.size A ls) (hc : n ≤ c) (hr : n ≤ 2000) (hls : ∀ k, k < n → (bodK ls k).length ≤ 1000000) (hb : b < 18446744073709551616) (hu : u < 18446744073709551616) :
    Calls Try.prog 19 #[.agg #[.int .u64 (b : Int), .slice A n c], .int .u64 (u : Int)] w (AckE w b ls u) := by
  obtain ⟨W1, hW1⟩ : ∃ W1, w.alloc (.cells #[.int .u64 (b : Int), .slice A n c] 25) = W1 := ⟨_, rfl⟩
  obtain ⟨W2, hW2⟩ : ∃ W2, W1.alloc (.cells #[.int .u64 (u : Int)] 22) = W2 := ⟨_, rfl⟩
  obtain ⟨W3, hW3⟩ : ∃ W3, W2.alloc (.cells #[.int .u64 0, .slice none 0 0] 25) = W3 := ⟨_, rfl⟩
  obtain ⟨W4, hW4⟩ : ∃ W4, W3.alloc (.cells #[.bool false] 4) = W4 := ⟨_, rfl⟩
  have s1 : W1.heap.size = w.heap.size + 1 := by rw [← hW1]; simp
  have s2 : W2.heap.size = w.heap.size + 2 := by rw [← hW2, World.size_alloc, s1]
  have s3 : W3.heap.size = w.heap.size + 3 := by rw [← hW3, World.size_alloc, s2]
  have s4 : W4.heap.size = w.heap.size + 4 := by rw [← hW4, World.size_alloc, s3]
  have b1 : Below w.heap.size w W1 := by rw [← hW1]; exact qbox _ _
  have b2 : Below W1.heap.size W1 W2 := by rw [← hW2]; exact qbox _ _
  have b3 : Below W2.heap.size W2 W3 := by rw [← hW3]; exact qbox _ _
  have b4 : Below W3.heap.size W3 W4 := by rw [← hW4]; exact qbox _ _
  have P4 := Lib.hid (show SRow w.heap.size b A n c W4 from (((show SRow w.heap.size b A n c W1 by rw [← hW1]; exact qnew _ _ _).below b2).below b3).below b4)
  have U4 := Lib.hid (show W4.cell? ⟨w.heap.size + 1, 0, none⟩ = some (.int .u64 (u : Int)) from qold (qold (show W2.cell? ⟨w.heap.size + 1, 0, none⟩ = some (.int .u64 (u : Int)) by rw [← hW2, ← s1]; exact (cell_of_row _ _ 0 _ _ (0, 0) (qnew W1 #[.int .u64 (u : Int)] 22)).trans rfl) b3) b4)
  have R4 := Lib.hid (show SRow (w.heap.size + 2) 0 none 0 0 W4 from (show SRow (w.heap.size + 2) 0 none 0 0 W3 by rw [← hW3, ← s2]; exact qnew _ _ _).below b4)
  have F4 := Lib.hid (show W4.heap[w.heap.size + 3]? = some (.cells #[.bool false] 4 (0, 0)) by rw [← hW4, ← s3]; exact qnew _ _ _)
  have B4 := Lib.hid (show Below w.heap.size w W4 from qtr (qtr (qtr b1 b2) b3) b4)
  have hWW : ((((w.alloc (.cells #[.int .u64 (b : Int), .slice A n c] 25)).alloc (.cells #[.int .u64 (u : Int)] 22)).alloc (.cells #[.int .u64 0, .slice none 0 0] 25)).alloc (.cells #[.bool false] 4)) = W4 := by rw [hW1, hW2, hW3, hW4]
  have I4 := Lib.hid ((hi.below B4.out).more B4.out.size)
  have S4 := Lib.hid s4
  have HL := Lib.hid hl
  have HC := Lib.hid hc
  have HLs := Lib.hid hls
  have HQ1 : Hid (∀ A' c' w' e, ackOk b ls u → ORws w' w.heap.size A' (n - (u - b)) c' (ls.drop (u - b)) → Below w.heap.size w w' → e = .returned (.tuple #[.agg #[.int .u64 (u : Nat), .slice A' (n - (u - b)) c'], .bool true]) → AckE w b ls u e w') := Lib.hid (fun A' c' w' e h ho hb he => ackE_yes h hl ho hb he)
  have HQ2 : Hid (∀ A' c' w' e, ¬ ackOk b ls u → ORws w' w.heap.size A' n c' ls → Below w.heap.size w w' → e = .returned (.tuple #[.agg #[.int .u64 (b : Nat), .slice A' n c'], .bool false]) → AckE w b ls u e w') := Lib.hid (fun A' c' w' e h ho hb he => ackE_no h hl ho hb he)
  clear hi hl hls hc hW1 hW2 hW3 hW4 s1 s2 s3 s4 b1 b2 b3 b4
  generalize AckE w b ls u = Q0 at *
  refine calls_of_marks Try.func19 rfl ?_
  simp only [Try.ntmps19, List.size_toArray, List.length_cons, List.length_nil, Nat.reduceAdd, Nat.reduceSub, Array.replicate_succ, Array.replicate_zero, List.push_toArray, List.append_toArray, List.nil_append, List.cons_append]
  obtain ⟨k0, k1⟩ := P4.out.box
  go_wp2_with fail
  clear k0 k1 hWW
  have hE2 : w.heap.size + 2 = w.heap.size + 1 + 1 := rfl
  have hE3 : w.heap.size + 3 = w.heap.size + 1 + 1 + 1 := rfl
  rw [hE2] at R4
  rw [hE3] at F4
  clear hE2 hE3
  generalize hrr : w.heap.size + 1 + 1 = rr at *
  generalize hff : rr + 1 = ff at *
  have HRR := Lib.hid hrr
  have HFF := Lib.hid hff
  clear hrr hff
  refine (due_any b n c A ls W4 HL.out I4.out HC.out).mono ?_
  rintro e W5 ⟨hcase, hb5⟩
  obtain ⟨b', A', c', rfl, hyes, hsum, hpos⟩ : ∃ b' A' c', e = .returned (.agg #[.int .u64 ((b' : Nat) : Int), .slice A' (dueS b ls) c']) ∧ (mayS b ls → b' = b ∧ A' = A) ∧ b' + dueS b ls < 9223372036854775808 ∧ (0 < dueS b ls → mayS b ls) := by
    rcases hcase with ⟨hm, rfl⟩ | ⟨hm, rfl⟩
    · exact ⟨b, A, c, rfl, fun _ => ⟨rfl, rfl⟩, by have := hm.2.1; have := (dueS_le b ls).1; omega, fun _ => hm⟩
    · refine ⟨0, none, 0, by rw [dueS_not hm]; rfl, fun h => absurd h hm, by rw [dueS_not hm]; omega, fun h => by rw [dueS_not hm] at h; omega⟩
  clear hcase
  have hd := dueS_le b ls
  have HOK := Lib.hid (show ackOk b ls u ↔ b < u ∧ u ≤ b + dueS b ls from Iff.rfl)
  generalize dueS b ls = d at *
  have P5 := Lib.hid (P4.out.below hb5.out)
  have U5 := Lib.hid (qold U4.out hb5.out)
  have R5 := Lib.hid (R4.out.below hb5.out)
  have F5 := Lib.hid ((hb5.out.block ff (lt_of_heap F4.out)).trans F4.out)
  have B5 := Lib.hid (qtr B4.out hb5.out)
  have I5 := Lib.hid ((I4.out.below hb5.out).more hb5.out.size)
  have S5 := Lib.hid (show w.heap.size + 4 ≤ W5.heap.size by have := S4.out; have := hb5.out.size; omega)
  clear P4 U4 R4 F4 B4 I4 S4 hb5
  have HY := Lib.hid hyes
  have HP := Lib.hid hpos
  have HS := Lib.hid hsum
  have HD := Lib.hid hd
  clear hyes hpos hsum hd
  go_wp2_with fail
  refine (numbered_any b' A' d c' W5).mono ?_
  rintro e W6 ⟨rfl, hx6, hb6, hs6⟩
  have P6 := Lib.hid (P5.out.below hb6.out)
  have U6 := Lib.hid (qold U5.out hb6.out)
  have R6 := Lib.hid (R5.out.below hb6.out)
  have F6 := Lib.hid ((hb6.out.block ff (lt_of_heap F5.out)).trans F5.out)
  have B6 := Lib.hid (qtr B5.out hb6.out)
  have I6 := Lib.hid ((I5.out.below hb6.out).more hb6.out.size)
  have S6 := Lib.hid (show w.heap.size + 4 ≤ W6.heap.size by have := S5.out; have := hb6.out.size; omega)
  clear P5 U5 R5 F5 B5 I5 S5 hb6
  obtain ⟨vals, hvals⟩ : ∃ vals : Nat → Value, 0 < d → ∃ bb off, A' = some ⟨bb, off, none⟩ ∧ bb < W6.heap.size ∧ ∀ i, i < d → W6.cell? ⟨bb, off + i, none⟩ = some (vals i) := by
    by_cases hd0 : 0 < d
    · obtain ⟨_, rfl⟩ := HY.out (HP.out hd0)
      obtain ⟨bb, off, rfl, hlt, hcs⟩ := I6.out (by have := HD.out; have := HL.out; omega)
      refine ⟨fun i => (W6.cell? ⟨bb, off + i, none⟩).getD undef, fun _ => ⟨bb, off, rfl, hlt, fun i hi => ?_⟩⟩
      obtain ⟨A9, c9, h9, _⟩ := hcs i (by have := HD.out; have := HL.out; omega)
      show _ = some ((W6.cell? ⟨bb, off + i, none⟩).getD undef)
      rw [h9]
      rfl
    · exact ⟨fun _ => undef, fun h => absurd h hd0⟩
  have hseq := numbered1_any W5.heap.size b' A' d c' vals (fun _ => True) W6 hx6 HS.out (fun hn => by
    obtain ⟨bb, off, e, h1, h2⟩ := hvals hn
    exact ⟨bb, off, e, trivial, h1, h2⟩) trivial
  clear hvals
  go_wp2_with fail
  refine wp_rangeG (lb := #[.pointer (some ⟨W5.heap.size, 0, none⟩)]) rfl (enters_of Try.func39 (by kernel_rfl) rfl) hseq (fun i vs b' W' e => by rw [e]; rfl) (fun i vs b' _ _ _ _ hs _ _ => hs)
    (fun i W' => ¬ (b' < u ∧ u ≤ b' + i) ∧ Below W6.heap.size W6 W')
    (fun cc i W' => (cc = .ret ∧ ackOk b ls u) ∧ AckX rr ff w b u n ls W')
    (OwnFrom.and (ownFrom_pure _ _) (ownFrom_below (Nat.le_refl _) (Nat.le_refl _)))
    (fun cc => OwnFrom.and (ownFrom_pure _ _) (fun i X Y row hs hg hr => ackX_own rr ff w b u n ls W6.heap.size (by have := S6.out; omega) () X Y row hs hg hr))
    ⟨by omega, Below.refl _ _⟩
    (fun vs => { tmps := #[.agg #[.int .u64 (b : Int), .slice A n c], .int .u64 (u : Int), .pointer (some ⟨w.heap.size, 0, none⟩), .pointer (some ⟨w.heap.size + 1, 0, none⟩), .pointer (some ⟨rr, 0, none⟩), .pointer (some ⟨ff, 0, none⟩), vs.getD 0 undef, .agg #[.int .u64 (b : Int), .slice A n c], .agg #[.int .u64 (b' : Int), .slice A' d c'], .func (.func 39) #[] #[.pointer (some ⟨W5.heap.size, 0, none⟩)], vs.getD 0 undef, vs.getD 1 undef, undef, undef, undef, undef, undef, undef, undef, undef, undef, undef, undef, undef, undef, undef, undef], defers := [] }) ?assign ?body ?done ?stop
  case assign =>
    intro l2 vs W' K hvs hK
    obtain ⟨x, y, rfl⟩ := two_of hvs
    gi_wp2
    exact hK
  case stop =>
    rintro cc i W' hi ⟨⟨rfl, hok⟩, A3, c3, h1, h2, h3, h4⟩ hK
    have hk := cells_putObj (o := .deferred none) hK
    go_wp2
    refine leave_mark hK (qres_cell rfl _ _ rr ff 25 #[.int .u64 u, .slice A3 (n - (u - b)) c3] (0, 0) _ (.bool true) rfl (hk _ _ h1 rfl) Try.underlying25 rfl (by kernel_rfl) rfl ?_) ?_
    · exact run_loadBool (hk _ _ h2 rfl)
    · exact HQ1.out A3 c3 _ _ hok (orws_cells h3 hk) (h4.trans (belowK_b (w := w) (Nat.le_refl _) W' W6.heap.size _ _ (by have := S6.out; omega) hK rfl rfl)) rfl
  case done =>
    rintro W' ⟨hno, hb'⟩ hK
    have hno2 : ¬ ackOk b ls u := fun h => by
      rw [HOK.out] at h
      obtain ⟨rfl, _⟩ := HY.out (HP.out (by omega))
      exact hno ⟨h.1, h.2⟩
    have HNo := Lib.hid hno2
    have P8 := Lib.hid (P6.out.below hb')
    have R8 := Lib.hid (R6.out.below hb')
    have F8 := Lib.hid ((hb'.block ff (lt_of_heap F6.out)).trans F6.out)
    have B8 := Lib.hid (qtr B6.out hb')
    have I8 := Lib.hid ((I6.out.below hb').more hb'.size)
    have HK := Lib.hid hK
    have HKs := Lib.hid (show W6.heap.size < W'.heap.size from lt_of_heap hK)
    clear hno hno2 hb' hK P6 U6 R6 F6 B6 I6
    obtain ⟨k0, k1⟩ := P8.out.box
    simp only [Exit.inBlock, Exit.then]
    go_wp2_with fail
    refine (copied_any b A n c ls W' HL.out I8.out hr HLs.out).mono ?_
    rintro e W9 ⟨A9, c9, rfl, ho9, hb9⟩
    have R9 := Lib.hid (R8.out.below hb9.out)
    have F9 := Lib.hid ((hb9.out.block ff (lt_of_heap F8.out)).trans F8.out)
    have B9 := Lib.hid (qtr B8.out hb9.out)
    have HK9 := Lib.hid ((hb9.out.block _ (lt_of_heap HK.out)).trans HK.out)
    have O9 := Lib.hid (ho9.out.lower (show W6.heap.size + 1 ≤ W'.heap.size by have := HKs.out; omega))
    clear k0 k1 P8 R8 F8 B8 I8 HK ho9 hb9
    have hrr2 : w.heap.size ≤ rr ∧ w.heap.size ≤ ff ∧ rr < W6.heap.size ∧ ff < W6.heap.size := by have := S6.out; have := HRR.out; have := HFF.out; omega
    obtain ⟨t1, t2, t3, t4, t5⟩ := ack_store (b : Int) false R9.out F9.out (O9.out.lower (show w.heap.size ≤ W6.heap.size + 1 by have := S6.out; omega)) B9.out hrr2.1 hrr2.2.1
    have hK8 := (t4.block W6.heap.size (lt_of_heap HK9.out) (by omega)).trans HK9.out
    have hk := cells_putObj (o := .deferred none) hK8
    obtain ⟨z0, z1⟩ := R9.out.box
    have f0 := frozen_plain R9.out 0
    have f1 := frozen_plain R9.out 1
    have ya := (only_two W9 rr (.int .u64 b) (.slice A9 n c9)).block ff (lt_of_heap F9.out) (by have := HFF.out; omega)
    have y0 : ((W9.setCell ⟨rr, 0, none⟩ (.int .u64 b)).setCell ⟨rr, 1, none⟩ (.slice A9 n c9)).cell? ⟨ff, 0, none⟩ = some (.bool false) := by simpa using cell_plain (ya.trans F9.out) 0
    have y1 := frozen_plain (ya.trans F9.out) 0
    clear ya
    have T1 := Lib.hid (hk _ _ t1 rfl)
    have T2 := Lib.hid (hk _ _ t2 rfl)
    have T3 := Lib.hid (orws_cells t3 hk)
    have T5 := Lib.hid (t5.trans (belowK_b (w := w) (Nat.le_refl _) _ W6.heap.size _ (.deferred none) (by have := S6.out; omega) hK8 rfl rfl))
    have T8 := Lib.hid hK8
    clear t1 t2 t3 t4 t5 hk hK8
    go_wp2
    refine leave_mark T8.out (qres_cell rfl _ _ rr ff 25 #[.int .u64 b, .slice A9 n c9] (0, 0) _ (.bool false) rfl T1.out Try.underlying25 rfl (by kernel_rfl) rfl (run_loadBool T2.out)) ?_
    exact HQ2.out A9 c9 _ _ HNo.out T3.out T5.out rfl
  case body =>
    rintro l2 i vs b9 W7 hi hW7 hb9 ⟨hno, hbel⟩ rfl
    have P7 := Lib.hid (P6.out.below hbel)
    have U7 := Lib.hid (qold U6.out hbel)
    have R7 := Lib.hid (R6.out.below hbel)
    have F7 := Lib.hid ((hbel.block ff (lt_of_heap F6.out)).trans F6.out)
    have B7 := Lib.hid (qtr B6.out hbel)
    have I7 := Lib.hid ((I6.out.below hbel).more hbel.size)
    have hdd := HD.out
    have hpp := HP.out (by omega)
    obtain ⟨rfl, rfl⟩ := HY.out hpp
    have hLs := HL.out
    have hmix : Try.prog.follows .mixedOrders = true := by kernel_rfl
    have HB7 := Lib.hid hbel
    have hu7 := U7.out
    have hss := HS.out
    clear hseq P6 U6 R6 F6 B6 I6 hbel
    simp only [Array.getD_eq_getD_getElem?, List.getElem?_toArray, List.getElem?_cons_zero, List.getElem?_cons_succ, Option.getD_some]
    by_cases hq : b' + 1 + i = u
    · have hok : ackOk b' ls u := by rw [HOK.out]; omega
      have HOk := Lib.hid hok
      obtain ⟨k, hk⟩ : ∃ k, k = i + 1 := ⟨_, rfl⟩
      have hub : u - b' = k := by omega
      have e5 : IntKind.u64.wrap ((u : Int) - (b' : Int)) = (k : Int) := by rw [wrapU (by omega) (by omega)]; omega
      have g6 : (k : Int) ≤ (n : Int) := by omega
      have g7 : (n : Int) ≤ (c : Int) := by have := HC.out; omega
      have q1 : (((b' + 1 + i : Nat) : Int) == (u : Int)) = true := by rw [beq_iff_eq]; omega
      have q2 : ((b' : Int) + 1 + (i : Int) == (u : Int)) = true := by rw [beq_iff_eq]; omega
      obtain ⟨A3, i1⟩ : ∃ A3, (if c = k then A' else Option.map (fun x => x.add k) A') = A3 := ⟨_, rfl⟩
      have hcut := cutA_rws (k := k) I7.out hLs HC.out
      unfold cutA at hcut
      rw [i1] at hcut
      have HCo := Lib.hid (fun V (hb' : Below W7.heap.size W7 V) => copied_any (u : Int) A3 (n - k) (c - k) (ls.drop k) V (by rw [List.length_drop, hLs]) ((hcut.below hb').more hb'.size) (by omega) (fun j hj => by rw [bodK_drop]; exact HLs.out _ (by omega)))
      have HX : Hid (∀ A9 c9 V (hb' : Below W7.heap.size W7 V), ORws V W7.heap.size A9 (n - k) c9 (ls.drop k) → postG (fun _ => True) (fun i W' => ¬ (b' < u ∧ u ≤ b' + i) ∧ Below W6.heap.size W6 W') (fun cc _ W' => (cc = .ret ∧ ackOk b' ls u) ∧ AckX rr ff w b' u n ls W') W6.heap.size b9 (i + 1) W7 .ret { tmps := #[], defers := [] } (((V.setCell ⟨rr, 0, none⟩ (.int .u64 u)).setCell ⟨rr, 1, none⟩ (.slice A9 (n - k) c9)).setCell ⟨ff, 0, none⟩ (.bool true))) := Lib.hid (fun A9 c9 V hb' ho => by
        have hrr2 : w.heap.size ≤ rr ∧ w.heap.size ≤ ff ∧ rr < W6.heap.size ∧ ff < W6.heap.size := by have := S6.out; have := HRR.out; have := HFF.out; omega
        obtain ⟨t1, t2, t3, t4, t5⟩ := ack_store (u : Int) true (R7.out.below hb') ((hb'.block ff (lt_of_heap F7.out)).trans F7.out) (ho.lower (show w.heap.size ≤ W7.heap.size by have := S6.out; omega)) (qtr B7.out hb') hrr2.1 hrr2.2.1
        refine ⟨⟨Nat.le_trans hb'.size t4.size, fun j hj _ hlt => (t4.block j (Nat.lt_of_lt_of_le hlt hb'.size) (by omega)).trans (hb'.block j hlt)⟩, ⟨rfl, HOk.out⟩, A9, c9, by rw [hub]; exact t1, t2, by rw [hub]; exact t3, t5⟩)
      obtain ⟨k0, k1⟩ := P7.out.box
      obtain ⟨z0, z1⟩ := R7.out.box
      have f0 := frozen_plain R7.out 0
      have f1 := frozen_plain R7.out 1
      have y0 : W7.cell? ⟨ff, 0, none⟩ = some (.bool false) := by simpa using cell_plain F7.out 0
      have y1 := frozen_plain F7.out 0
      clear hq hok hk hub hcut
      have HZ : Hid (∀ A9 c9 V, Below W7.heap.size W7 V → SRow rr 0 none 0 0 V ∧ ((V.setCell ⟨rr, 0, none⟩ (.int .u64 u)).setCell ⟨rr, 1, none⟩ (.slice A9 (n - k) c9)).cell? ⟨ff, 0, none⟩ = some (.bool false) ∧ ((V.setCell ⟨rr, 0, none⟩ (.int .u64 u)).setCell ⟨rr, 1, none⟩ (.slice A9 (n - k) c9)).frozen? ⟨ff, 0, none⟩ = false) := Lib.hid (fun A9 c9 V hb' => by
        have h1 := (hb'.block ff (lt_of_heap F7.out)).trans F7.out
        have h2 := ((only_two V rr (.int .u64 u) (.slice A9 (n - k) c9)).block ff (lt_of_heap h1) (by have := HFF.out; omega)).trans h1
        exact ⟨R7.out.below hb', by simpa using cell_plain h2 0, frozen_plain h2 0⟩)
      clear z0 z1 f0 f1 y0 y1 HB7
      gi_wp2
      refine round_still_tail 9 hmix (by kernel_rfl) (fun ⟨_, _, h⟩ => h) (by kernel_rfl) ?_
      simp only [List.take_succ_cons, List.take_zero, List.drop_succ_cons, List.drop_zero]
      repeat still_step
      try refine wpStill_nil ?_
      go_wp2_with fail
      refine (HCo.out W7.drew ⟨rfl, rfl, rfl, Nat.le_refl _, fun _ _ => rfl⟩).mono ?_
      rintro e V1 ⟨A9, c9, rfl, o9, b9'⟩
      obtain ⟨hz, y0, y1⟩ := HZ.out A9 c9 V1 (undrew b9'.out)
      obtain ⟨z0, z1⟩ := hz.box
      have f0 := frozen_plain hz 0
      have f1 := frozen_plain hz 1
      have HXX := Lib.hid (HX.out A9 c9 V1 (undrew b9'.out) o9.out)
      clear hz HX HZ HCo o9 b9'
      go_wp2
      gi_wp2
      exact HXX.out
    · have q1 : (((b' + 1 + i : Nat) : Int) == (u : Int)) = false := by rw [beq_eq_false_iff_ne]; omega
      have q2 : ((b' : Int) + 1 + (i : Int) == (u : Int)) = false := by rw [beq_eq_false_iff_ne]; omega
      have HN2 := Lib.hid (show ¬ (b' < u ∧ u ≤ b' + (i + 1)) by omega)
      obtain ⟨k0, k1⟩ := P7.out.box
      clear hq
      gi_wp2
      exact ⟨⟨Nat.le_refl _, fun _ _ _ _ => rfl⟩, by have := HN2.out; omega, HB7.out⟩
end Go.Proofs.Ytmkkhknbokfciaa
