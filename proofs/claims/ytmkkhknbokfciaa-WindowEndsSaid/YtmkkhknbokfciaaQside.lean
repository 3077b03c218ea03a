/-
  Both sides of a window in memory: a side's six cells, its own rows; what each store leaves. No condition.
-/
import Derived.Test.YtmkkhknbokfciaaQinv
import Derived.Test.YtmkkhknbokfciaaQack
namespace Go.Proofs.Ytmkkhknbokfciaa
set_option maxRecDepth 20000
open Go.RowKit

theorem GR.cellsKept {T : TypeId} {sz : Nat} {w w' : World} {base n cap : Nat} {A : Option Addr} {vs : List Value} (h : GR T sz w base A n cap vs) (hk : ∀ (k : Nat) (o : Obj), w.heap[k]? = some o → o.isCells = true → w'.heap[k]? = some o) : GR T sz w' base A n cap vs := by
  refine ⟨h.1, ?_⟩
  rcases h.2 with h1 | ⟨g, c, cur, hv, hg, hh, hrest⟩
  · exact .inl h1
  · exact .inr ⟨g, c, cur, hv, hg, hk g _ hh rfl, hrest⟩
/-- What turns no block of bytes nor of rows of bytes leaves rows of bodies alone. -/
theorem ORws.off {w w' : World} {base : Nat} {A : Option Addr} {n c : Nat} {ls : List (List UInt8)} (h : ORws w base A n c ls) {S : Nat → Prop} (ho : Only S w w') (h1 : ∀ k cur, w.heap[k]? = some (.cells cur 26 (0, 0)) → ¬ S k) (h2 : ∀ k cur, w.heap[k]? = some (.cells cur 5 (0, 0)) → ¬ S k) : ORws w' base A n c ls := by
  obtain ⟨vs, g1, g2, g3⟩ := h
  refine ⟨vs, g1.keep ho (fun k e => ?_), g2, fun k hk => ?_⟩
  · rcases g1.2 with ⟨hv, _⟩ | ⟨g, c', cur, hv, hg, hh, _⟩
    · have hv' : A = none ∧ n = 0 ∧ c = 0 := by simpa using hv
      rw [hv'.1] at e
      cases e
    · have hv' : A = some ⟨g, 0, none⟩ ∧ c = c' := by simpa using hv
      rw [hv'.1] at e
      have e' : g = k := Option.some.inj e
      rw [e'] at hh
      exact h1 k cur hh
  · obtain ⟨A', c', e1, e2, e3⟩ := g3 k hk
    refine ⟨A', c', e1, e2.keep ho (fun g hg => ?_), e3⟩
    obtain ⟨_, cur, hh, _⟩ := e2.block hg
    exact h2 g cur hh

abbrev tSide : TypeId := 55
abbrev tCop : TypeId := 62
abbrev tStr : TypeId := 9
/-- A side's row. -/
def sideRow (b : Nat) (A : Option Addr) (n c : Nat) (g : Nat) (P : Option Addr) (np cp : Nat) (T : Option Addr) (nt ct : Nat) (Y : Option Addr) (ny cy : Nat) : Array Value :=
  #[.int .u64 (b : Int), .slice A n c, .int .u64 (g : Int), .slice P np cp, .slice T nt ct, .slice Y ny cy]
/-- Both sides in memory. -/
structure SideM (G B : Nat) (s : Sd) (A : Option Addr) (n c : Nat) (P : Option Addr) (np cp : Nat) (T : Option Addr) (nt ct : Nat) (Y : Option Addr) (ny cy : Nat) (W : World) : Prop where
  row : W.heap[G]? = some (.cells #[.int .u64 (s.b : Int), .slice A n c, .int .u64 (s.g : Int), .slice P np cp, .slice T nt ct, .slice Y ny cy] 55 (0, 0))
  hG : B ≤ G
  own : ORws W B A n c s.ls
  pushed : GR tStr 1 W B P np cp (s.ps.map strV)
  taken : GR tStr 1 W B T nt ct (s.ts.map strV)
  way : GR tCop 2 W B Y ny cy (copVs s.ys)
  apart : ∀ k, blockOf P = some k → blockOf T ≠ some k
/-- Where its blocks lie, left open. -/
def Side (G B : Nat) (s : Sd) (W : World) : Prop := ∃ A c P cp T ct Y cy, SideM G B s A s.ls.length c P s.ps.length cp T s.ts.length ct Y s.ys.length cy W
section
variable {G B : Nat} {s : Sd} {A P T Y : Option Addr} {n c np cp nt ct ny cy : Nat} {W W' : World}
namespace SideM
theorem ln (h : SideM G B s A n c P np cp T nt ct Y ny cy W) : s.ls.length = n := h.own.len
theorem lp (h : SideM G B s A n c P np cp T nt ct Y ny cy W) : s.ps.length = np := by have := h.pushed.len; simpa using this
theorem lt (h : SideM G B s A n c P np cp T nt ct Y ny cy W) : s.ts.length = nt := by have := h.taken.len; simpa using this
theorem ly (h : SideM G B s A n c P np cp T nt ct Y ny cy W) : s.ys.length = ny := by have := h.way.len; rw [copVs_length] at this; omega
theorem side (h : SideM G B s A n c P np cp T nt ct Y ny cy W) : Side G B s W := by
  have h1 := h.ln
  have h2 := h.lp
  have h3 := h.lt
  have h4 := h.ly
  subst h1 h2 h3 h4
  exact ⟨A, c, P, cp, T, ct, Y, cy, h⟩
theorem on (h : SideM G B s A n c P np cp T nt ct Y ny cy W) (hb : Below W.heap.size W W') : SideM G B s A n c P np cp T nt ct Y ny cy W' :=
  ⟨(hb.block G (lt_of_heap h.row)).trans h.row, h.hG, h.own.on hb, h.pushed.on hb, h.taken.on hb, h.way.on hb, h.apart⟩
theorem cell (h : SideM G B s A n c P np cp T nt ct Y ny cy W) : W.cell? ⟨G, 0, none⟩ = some (.int .u64 (s.b : Int)) ∧ W.cell? ⟨G, 1, none⟩ = some (.slice A n c) ∧ W.cell? ⟨G, 2, none⟩ = some (.int .u64 (s.g : Int)) ∧ W.cell? ⟨G, 3, none⟩ = some (.slice P np cp) ∧ W.cell? ⟨G, 4, none⟩ = some (.slice T nt ct) ∧ W.cell? ⟨G, 5, none⟩ = some (.slice Y ny cy) :=
  ⟨by simpa using cell_plain h.row 0, by simpa using cell_plain h.row 1, by simpa using cell_plain h.row 2, by simpa using cell_plain h.row 3, by simpa using cell_plain h.row 4, by simpa using cell_plain h.row 5⟩
theorem frozen (h : SideM G B s A n c P np cp T nt ct Y ny cy W) (k : Nat) : W.frozen? ⟨G, k, none⟩ = false := frozen_plain h.row k
theorem rows (h : SideM G B s A n c P np cp T nt ct Y ny cy W) (ho : Only (fun k => k = G) W W') : ORws W' B A n c s.ls ∧ GR tStr 1 W' B P np cp (s.ps.map strV) ∧ GR tStr 1 W' B T nt ct (s.ts.map strV) ∧ GR tCop 2 W' B Y ny cy (copVs s.ys) := by
  have hr := h.row
  have key : ∀ (T : TypeId), T ≠ 55 → ∀ k cur, W.heap[k]? = some (.cells cur T (0, 0)) → ¬ k = G := fun T hT k cur hk e => by
    subst e
    rw [hr] at hk
    simp only [Option.some.injEq, Obj.cells.injEq] at hk
    exact hT hk.2.1.symm
  exact ⟨h.own.off ho (key _ (by decide)) (key _ (by decide)), h.pushed.off ho (key _ (by decide)), h.taken.off ho (key _ (by decide)), h.way.off ho (key _ (by decide))⟩
theorem setSender (h : SideM G B s A n c P np cp T nt ct Y ny cy W) (b' : Nat) {A' : Option Addr} {n' c' : Nat} {ls' : List (List UInt8)} (ho : ORws W B A' n' c' ls') : SideM G B { s with b := b', ls := ls' } A' n' c' P np cp T nt ct Y ny cy ((W.setCell ⟨G, 0, none⟩ (.int .u64 (b' : Int))).setCell ⟨G, 1, none⟩ (.slice A' n' c')) := by
  have hO := only_two W G (.int .u64 (b' : Int)) (.slice A' n' c')
  have h2 := (show SideM G B { s with ls := ls' } A' n' c' P np cp T nt ct Y ny cy (W.setCell ⟨G, 1, none⟩ (.slice A' n' c')) → True from fun _ => trivial)
  obtain ⟨_, h4, h5, h6⟩ := h.rows hO
  have hr := h.row
  refine ⟨?_, h.hG, ?_, h4, h5, h6, h.apart⟩
  · simp [World.setCell, Array.getElem?_modify, hr]
  · exact ho.keepTy hr (by decide) (by decide) hO
theorem setGot (h : SideM G B s A n c P np cp T nt ct Y ny cy W) (g' : Nat) : SideM G B { s with g := g' } A n c P np cp T nt ct Y ny cy (W.setCell ⟨G, 2, none⟩ (.int .u64 (g' : Int))) := by
  have hO := (Only.refl (fun k => k = G) W).setCell (p := ⟨G, 2, none⟩) (.inl rfl) (.int .u64 (g' : Int))
  obtain ⟨h3, h4, h5, h6⟩ := h.rows hO
  have hr := h.row
  refine ⟨?_, h.hG, h3, h4, h5, h6, h.apart⟩
  simp [World.setCell, Array.getElem?_modify, hr]
/-- Behind an append onto one of its rows of strings or copies. -/
theorem grown (h : SideM G B s A n c P np cp T nt ct Y ny cy W) {X : Option Addr} {E : TypeId} (hE : ∀ k, blockOf X = some k → ∃ cur, W.heap[k]? = some (.cells cur E (0, 0))) (h1 : E ≠ 55) (h2 : E ≠ 26) (h3 : E ≠ 5) (ho : Only (fun k => blockOf X = some k) W W') :
    W'.heap[G]? = some (.cells #[.int .u64 (s.b : Int), .slice A n c, .int .u64 (s.g : Int), .slice P np cp, .slice T nt ct, .slice Y ny cy] 55 (0, 0)) ∧ ORws W' B A n c s.ls := by
  have key : ∀ (T : TypeId), E ≠ T → ∀ k cur, W.heap[k]? = some (.cells cur T (0, 0)) → ¬ blockOf X = some k := fun T hT k cur hk e => by
    obtain ⟨cur', he⟩ := hE k e
    rw [he] at hk
    simp only [Option.some.injEq, Obj.cells.injEq] at hk
    exact hT hk.2.1
  refine ⟨(ho.block G (lt_of_heap h.row) ?_).trans h.row, h.own.off ho (key _ h2) (key _ h3)⟩
  intro e
  obtain ⟨cur', he⟩ := hE G e
  have hr := h.row
  rw [hr] at he
  simp only [Option.some.injEq, Obj.cells.injEq] at he
  exact h1 he.2.1.symm
theorem setPushed (h : SideM G B s A n c P np cp T nt ct Y ny cy W) {P' : Option Addr} {np' cp' : Nat} {l : List UInt8} (hp : GR tStr 1 W' B P' np' cp' (s.ps.map strV ++ [strV l])) (ho : Only (fun k => blockOf P = some k) W W') (hn : NewOr W (blockOf P) (blockOf P')) :
    SideM G B { s with ps := s.ps ++ [l] } A n c P' np' cp' T nt ct Y ny cy (W'.setCell ⟨G, 3, none⟩ (.slice P' np' cp')) ∧ Only (fun k => k = G ∨ blockOf P = some k) W (W'.setCell ⟨G, 3, none⟩ (.slice P' np' cp')) := by
  obtain ⟨hr, h3⟩ := h.grown h.pushed.ty (by decide) (by decide) (by decide) ho
  have h5 := h.taken.keep ho (fun k e e2 => h.apart k e2 e)
  have h6 : GR tCop 2 W' B Y ny cy (copVs s.ys) := h.way.off ho (fun k cur hk e => by
    obtain ⟨cur', he⟩ := h.pushed.ty k e
    rw [he] at hk
    simp only [Option.some.injEq, Obj.cells.injEq] at hk
    exact absurd hk.2.1 (by decide))
  have hap : ∀ k, blockOf P' = some k → blockOf T ≠ some k := fun k e e2 => by
    rcases hn with h1 | ⟨j, h1, hj⟩
    · rw [h1] at e; exact h.apart k e e2
    · rw [h1] at e
      have := (h.taken.bs k e2).2
      cases e
      omega
  have hM : SideM G B { s with ps := s.ps } A n c P np cp T nt ct Y ny cy W' → True := fun _ => trivial
  have hO := (Only.refl (fun k => k = G) W').setCell (p := ⟨G, 3, none⟩) (.inl rfl) (.slice P' np' cp')
  have key : ∀ (T : TypeId), T ≠ 55 → ∀ k cur, W'.heap[k]? = some (.cells cur T (0, 0)) → ¬ k = G := fun T hT k cur hk e => by
    subst e
    rw [hr] at hk
    simp only [Option.some.injEq, Obj.cells.injEq] at hk
    exact hT hk.2.1.symm
  refine ⟨⟨?_, h.hG, h3.off hO (key _ (by decide)) (key _ (by decide)), ?_, h5.off hO (key _ (by decide)), h6.off hO (key _ (by decide)), hap⟩, ?_⟩
  · simp [World.setCell, Array.getElem?_modify, hr]
  · show GR tStr 1 _ B P' np' cp' ((s.ps ++ [l]).map strV)
    rw [List.map_append]
    exact hp.off hO (key _ (by decide))
  · exact (ho.weak (S := fun k => k = G ∨ blockOf P = some k) (fun _ _ h => .inr h)).trans hO (fun _ _ h => .inl h)
theorem setTaken (h : SideM G B s A n c P np cp T nt ct Y ny cy W) {T' : Option Addr} {nt' ct' : Nat} {l : List UInt8} (hp : GR tStr 1 W' B T' nt' ct' (s.ts.map strV ++ [strV l])) (ho : Only (fun k => blockOf T = some k) W W') (hn : NewOr W (blockOf T) (blockOf T')) :
    SideM G B { s with ts := s.ts ++ [l] } A n c P np cp T' nt' ct' Y ny cy (W'.setCell ⟨G, 4, none⟩ (.slice T' nt' ct')) ∧ Only (fun k => k = G ∨ blockOf T = some k) W (W'.setCell ⟨G, 4, none⟩ (.slice T' nt' ct')) := by
  obtain ⟨hr, h3⟩ := h.grown h.taken.ty (by decide) (by decide) (by decide) ho
  have h5 := h.pushed.keep ho (fun k e e2 => h.apart k e e2)
  have h6 : GR tCop 2 W' B Y ny cy (copVs s.ys) := h.way.off ho (fun k cur hk e => by
    obtain ⟨cur', he⟩ := h.taken.ty k e
    rw [he] at hk
    simp only [Option.some.injEq, Obj.cells.injEq] at hk
    exact absurd hk.2.1 (by decide))
  have hap : ∀ k, blockOf P = some k → blockOf T' ≠ some k := fun k e e2 => by
    rcases hn with h1 | ⟨j, h1, hj⟩
    · rw [h1] at e2; exact h.apart k e e2
    · rw [h1] at e2
      have := (h.pushed.bs k e).2
      cases e2
      omega
  have hO := (Only.refl (fun k => k = G) W').setCell (p := ⟨G, 4, none⟩) (.inl rfl) (.slice T' nt' ct')
  have key : ∀ (T : TypeId), T ≠ 55 → ∀ k cur, W'.heap[k]? = some (.cells cur T (0, 0)) → ¬ k = G := fun T hT k cur hk e => by
    subst e
    rw [hr] at hk
    simp only [Option.some.injEq, Obj.cells.injEq] at hk
    exact hT hk.2.1.symm
  refine ⟨⟨?_, h.hG, h3.off hO (key _ (by decide)) (key _ (by decide)), h5.off hO (key _ (by decide)), ?_, h6.off hO (key _ (by decide)), hap⟩, ?_⟩
  · simp [World.setCell, Array.getElem?_modify, hr]
  · show GR tStr 1 _ B T' nt' ct' ((s.ts ++ [l]).map strV)
    rw [List.map_append]
    exact hp.off hO (key _ (by decide))
  · exact (ho.weak (S := fun k => k = G ∨ blockOf T = some k) (fun _ _ h => .inr h)).trans hO (fun _ _ h => .inl h)
/-- A new row of copies, whatever it stands for: made out of the old one, or in memory of its own. -/
theorem setWay (h : SideM G B s A n c P np cp T nt ct Y ny cy W) {X Y' : Option Addr} {ny' cy' : Nat} {ys' : List (Nat × List UInt8)} (hX : ∀ k, blockOf X = some k → ∃ cur, W.heap[k]? = some (.cells cur tCop (0, 0))) (hp : GR tCop 2 W' B Y' ny' cy' (copVs ys')) (ho : Only (fun k => blockOf X = some k) W W') :
    SideM G B { s with ys := ys' } A n c P np cp T nt ct Y' ny' cy' (W'.setCell ⟨G, 5, none⟩ (.slice Y' ny' cy')) ∧ Only (fun k => k = G ∨ blockOf X = some k) W (W'.setCell ⟨G, 5, none⟩ (.slice Y' ny' cy')) := by
  obtain ⟨hr, h3⟩ := h.grown hX (by decide) (by decide) (by decide) ho
  have hkey : ∀ k cur, W.heap[k]? = some (.cells cur tStr (0, 0)) → ¬ blockOf X = some k := fun k cur hk e => by
    obtain ⟨cur', he⟩ := hX k e
    rw [he] at hk
    simp only [Option.some.injEq, Obj.cells.injEq] at hk
    exact absurd hk.2.1 (by decide)
  have h4 := h.pushed.off ho hkey
  have h5 := h.taken.off ho hkey
  have hO := (Only.refl (fun k => k = G) W').setCell (p := ⟨G, 5, none⟩) (.inl rfl) (.slice Y' ny' cy')
  have key : ∀ (T : TypeId), T ≠ 55 → ∀ k cur, W'.heap[k]? = some (.cells cur T (0, 0)) → ¬ k = G := fun T hT k cur hk e => by
    subst e
    rw [hr] at hk
    simp only [Option.some.injEq, Obj.cells.injEq] at hk
    exact hT hk.2.1.symm
  refine ⟨⟨?_, h.hG, h3.off hO (key _ (by decide)) (key _ (by decide)), h4.off hO (key _ (by decide)), h5.off hO (key _ (by decide)), hp.off hO (key _ (by decide)), h.apart⟩, ?_⟩
  · simp [World.setCell, Array.getElem?_modify, hr]
  · exact (ho.weak (S := fun k => k = G ∨ blockOf X = some k) (fun _ _ h => .inr h)).trans hO (fun _ _ h => .inl h)
/-- Where its rows lie. -/
theorem bases (h : SideM G B s A n c P np cp T nt ct Y ny cy W) : ∀ k, (k = G ∨ blockOf P = some k ∨ blockOf T = some k ∨ blockOf Y = some k) → B ≤ k := fun k hk => by
  rcases hk with rfl | hk | hk | hk
  · exact h.hG
  · exact (h.pushed.bs k hk).1
  · exact (h.taken.bs k hk).1
  · exact (h.way.bs k hk).1
end SideM
end
/-- A side just made. -/
theorem side_new (W : World) : SideM W.heap.size W.heap.size ⟨0, [], 0, [], [], []⟩ none 0 0 none 0 0 none 0 0 none 0 0 (W.alloc (.cells #[.int .u64 0, .slice none 0 0, .int .u64 0, .slice none 0 0, .slice none 0 0, .slice none 0 0] 55)) :=
  ⟨qnew W _ _, Nat.le_refl _, ORws.nil_, GR.nil_, GR.nil_, GR.nil_, fun k e => by cases e⟩
end Go.Proofs.Ytmkkhknbokfciaa
