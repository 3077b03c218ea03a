/-
  The program's Sorted: the lives of a list in their order, each once, in new memory. For lists of at most 2^40 lives.
-/
import Derived.Test.YtgkldjolnbnehaaGc
import Derived.Test.YtgkldjolnbnehaaLaid
import Derived.Shelf.SlSortCmp.WholeK
import Derived.Shelf.SlSortCmp.NoneTotal
import Derived.Lib.AppendZerosOnto
import Derived.Test.YtgkldjolnbnehaaGb
import Derived.Shelf.SlicesE.Compact
import Derived.Deep.Matrix
namespace Go.Proofs.Ytgkldjolnbnehaa
set_option maxRecDepth 20000
open Go.RowKit
open Go.Lib (keeps compactUpTo CompInv)
open Go.Sort (HoldsK putRowK flatK SWO PermIn SortedIn)

theorem swoL : SWO (ltOf cmpL) where
  irrefl x := by simp only [ltOf]; exact decide_eq_false (by rw [cmpL_lt]; exact before_irrefl x)
  trans x y z h1 h2 := by
    simp only [ltOf, decide_eq_true_iff, cmpL_lt] at *
    exact before_trans h1 h2
  ntrans x y z h1 h2 := by
    simp only [ltOf, decide_eq_false_iff_not, cmpL_lt] at *
    intro h
    rcases before_total x y with h3 | h3 | h3
    · exact h1 h3
    · subst h3; exact h2 h
    · exact h2 (before_trans h3 h)
theorem cmpLaysL (blk off size : Nat) (w : World) : CmpLays Try.prog 89 #[] encP 2 cmpL blk off size w := fun _ _ _ _ x y => order_any x y _
theorem encP_len (x : Life) : (encP x).length = 2 := rfl
theorem encP_one (x : Life) : ∀ v ∈ encP x, v.oneCell' = true := by
  intro v hv
  simp [encP] at hv
  rcases hv with rfl | rfl <;> rfl
theorem holdsK_of {w : World} {g : Nat} {l : List Life} (h : ∀ j v, (flatP l)[j]? = some v → w.cell? ⟨g, j, none⟩ = some v ∧ w.frozen? ⟨g, j, none⟩ = false) : HoldsK encP 2 w g 0 l.toArray := by
  intro j hj
  rw [Sort.size_flatK] at hj
  have hj' : j < l.length * 2 := by simpa using hj
  rw [Sort.get_flatK encP 2 l.toArray j (by simpa using hj), Nat.zero_add]
  have hg : l.toArray[j / 2]! = atL l (j / 2) := by
    rw [getElem!_pos l.toArray (j / 2) (by simp; omega), atL_lt (by omega)]
    simp
  rw [hg]
  obtain ⟨h1, h2⟩ := flatP_get l (j / 2) (by omega)
  rcases Nat.mod_two_eq_zero_or_one j with e | e
  · rw [show j / 2 * 2 = j by omega] at h1
    rw [e]
    exact h _ _ h1
  · rw [show j / 2 * 2 + 1 = j by omega] at h2
    rw [e]
    exact h _ _ h2
theorem rowP_of {w : World} {g : Nat} {d : Array Life} (h : HoldsK encP 2 w g 0 d) : RowP w g 0 d := fun t ht => by
  have h0 := h.cell (i := t) (c := 0) ht (by omega)
  have h1 := h.cell (i := t) (c := 1) ht (by omega)
  exact ⟨⟨h0.1, h1.1⟩, h0.2, h1.2⟩
theorem only_sortWorld (w : World) (g n : Nat) (d : Array Life) (os : Array Obj) : Only (fun k => k = g) w (sortWorldK encP 2 w g 0 n d os) := by
  refine ⟨rfl, rfl, rfl, ?_, fun k hk hne => ?_⟩
  · simp [sortWorldK, Sort.grow, putRowK, Sort.putRow, Sort.mapBlock, Sort.ahead]
  · have hk' : k < (putRowK encP 2 (Sort.ahead w n) g 0 d).heap.size := by simpa [putRowK, Sort.putRow, Sort.mapBlock, Sort.ahead] using hk
    simp only [sortWorldK, Sort.grow]
    rw [Array.getElem?_append_left hk']
    simp [putRowK, Sort.putRow, Sort.mapBlock, Sort.ahead, Array.getElem?_modify, Ne.symm hne]
/-- SortFunc at lives, by the program's order. -/
theorem sortP_any (g cap : Nat) (l : List Life) (n : Nat) (w : World) (hn : l.length = n) (hb : n ≤ 1099511627776) (hg : g < w.heap.size) (h : ∀ j v, (flatP l)[j]? = some v → w.cell? ⟨g, j, none⟩ = some v ∧ w.frozen? ⟨g, j, none⟩ = false) :
    Calls Try.prog 87 #[.slice (some ⟨g, 0, none⟩) n cap, orderV] w fun e w' => e = .returned (.tuple #[]) ∧
      ∃ d, Hid (d.size = n ∧ d.toList.Perm l ∧ ∀ i j, i < j → j < d.size → ¬ before d[j]! d[i]!) ∧ Hid (RowP w' g 0 d) ∧ Hid (Only (fun k => k = g) w w') := by
  have hsz : l.toArray.size = n := by simpa using hn
  have hcon := AnyQ.slices_SortFunc Try.sortP 2 Try.isAgg24 Try.sizeOf24 encP encP_len encP_one cmpL swoL 89 #[] g 0 cap l.toArray w enters_order (cmpLaysL g 0 l.toArray.size w) (holdsK_of h) hg (by omega)
  change Calls Try.prog 87 _ _ _ at hcon
  rw [hsz] at hcon
  refine hcon.mono ?_
  rintro e w' ⟨rfl, d, m, os, hp, hs, rfl⟩
  have hds : d.size = n := hp.1.trans hsz
  refine ⟨rfl, d, Lib.hid ⟨hds, ?_, fun i j hij hj => ?_⟩, Lib.hid (rowP_of ?_), Lib.hid (only_sortWorld w g m d os)⟩
  · have h3 := hp.2.2
    have e1 : d.extract 0 n = d := by rw [← hds]; simp
    have e2 : l.toArray.extract 0 n = l.toArray := by rw [← hsz]; simp
    rw [e1, e2] at h3
    simpa using h3
  · have := hs i j (Nat.zero_le _) hij (by omega)
    simp only [ltOf, decide_eq_false_iff_not, cmpL_lt] at this
    exact this
  · unfold sortWorldK
    refine Sort.holdsK_grow encP 2 _ os g 0 d (by simpa [putRowK, Sort.putRow, Sort.mapBlock, Sort.ahead] using hg) ?_
    exact Sort.holdsK_putRowK encP 2 _ g 0 l.toArray d (Sort.holdsK_ahead encP 2 w m g 0 _ (holdsK_of h)) (by rw [hds, hsz])
theorem sort_none (w : World) : Calls Try.prog 87 #[.slice none 0 0, orderV] w fun e w' => e = .returned (.tuple #[]) ∧ w' = w :=
  AnyF.slices_SortFunc_none Try.sortP none 0 orderV w
theorem compact_none (w : World) : Calls Try.prog 88 #[.slice none 0 0] w fun e w' => e = .returned (.slice none 0 0) ∧ w' = w := by
  go_enter Try.func88, Try.ntmps88
  go_wp2
  go_ret
  exact ⟨rfl, rfl⟩
set_option maxHeartbeats 1000000 in
theorem sorted_any (A : Option Addr) (l : List Life) (n c : Nat) (w : World) (h : Lives w w.heap.size A l) (hn : l.length = n) (hb : n ≤ 1099511627776) (hA : A = none → c = 0) :
    Calls Try.prog 70 #[.slice A n c] w fun e w' => ∃ A' c', e = .returned (.slice A' (setL l).length c') ∧ Hid (Lives w' w'.heap.size A' (setL l)) ∧ Hid (A' = none → c' = 0) ∧ Hid ((setL l).length ≤ c') ∧ Hid (Below w.heap.size w w') := by
  have HCL := Lib.hid (cloneP_any A l n c w h hn hb hA)
  have HN := Lib.hid hn
  clear h hn hA
  go_enter Try.func70, Try.ntmps70
  go_wp2_with fail
  refine HCL.out.mono ?_
  rintro e W1 ⟨A1, c1, rfl, ho, hb1⟩
  clear HCL
  have HF := Lib.hid ho.out.form
  have HCap := Lib.hid ho.out.cap_le
  go_wp2_with fail
  refine (order_is _).mono ?_
  rintro e w1 ⟨rfl, rfl⟩
  rcases HF.out with ⟨rfl, h0, rfl⟩ | ⟨g, rfl, hgb, hgl⟩
  · subst h0
    have hl : l = [] := List.eq_nil_of_length_eq_zero HN.out
    subst hl
    go_wp2_with fail
    refine (sort_none _).mono ?_
    rintro e W2 ⟨rfl, rfl⟩
    go_wp2_with fail
    refine (compact_none _).mono ?_
    rintro e W3 ⟨rfl, rfl⟩
    go_wp2
    go_ret
    exact ⟨none, 0, rfl, Lib.hid Lives.nil_, Lib.hid (fun _ => rfl), Lib.hid (Nat.le_refl _), hb1⟩
  · have HSrt := Lib.hid (sortP_any g c1 l n w1 HN.out hb hgl (fun j v hv => (ho.out.cells rfl).2 j v hv))
    have hgw := Lib.hid (show w.heap.size ≤ g from hgb)
    have hgl := Lib.hid hgl
    clear ho
    go_wp2_with fail
    refine HSrt.out.mono ?_
    rintro e W2 ⟨rfl, d, hd, hrow, hon⟩
    obtain ⟨hd1, hd2, hd3⟩ := hd.out
    have HCp := Lib.hid (compactP_any g 0 c1 d W2 hrow.out (Nat.lt_of_lt_of_le hgl.out hon.out.size) (by omega) (by rw [hd1]; exact HCap.out))
    rw [compact_set l d hd2 hd3, hd1] at HCp
    clear HSrt hd hd1 hd2 hd3 hrow
    go_wp2_with fail
    refine HCp.out.mono ?_
    rintro e W3 ⟨rfl, hon2, hlv⟩
    have HLen := Lib.hid (Nat.le_trans (setL_length l) (by rw [HN.out]; exact HCap.out))
    go_wp2
    go_ret
    exact ⟨_, _, rfl, hlv, Lib.hid (fun e => by cases e), HLen, Lib.hid ((hon.out.trans hon2.out fun _ _ h => h).below hb1.out (fun k e => by rw [e]; exact hgw.out) hb1.out.size)⟩
end Go.Proofs.Ytgkldjolnbnehaa
/-
  Lists of lists of lives: whether the statements call them heavy; the library's Grow and Concat, the program's Union. For at most 2^30 lists of at most 2^40 lives together.
-/
namespace Go.Proofs.Ytgkldjolnbnehaa
set_option maxRecDepth 20000
open Go.RowKit

abbrev listAt (ls : List (List Life)) (k : Nat) : List Life := ls.getD k []
/-- A slice's address under which these lists lie. -/
def ListsP (w : World) (B : Nat) (A : Option Addr) (ls : List (List Life)) : Prop :=
  0 < ls.length → ∃ b off, A = some ⟨b, off, none⟩ ∧ b < B ∧ ∀ k, k < ls.length → ∃ A' cap, w.cell? ⟨b, off + k, none⟩ = some (.slice A' (listAt ls k).length cap) ∧ Lives w B A' (listAt ls k) ∧ (A' = none → cap = 0)
theorem ListsP.below {w w' : World} {B : Nat} {A : Option Addr} {ls : List (List Life)} (h : ListsP w B A ls) (hb : Below B w w') : ListsP w' B A ls := fun hn => by
  obtain ⟨b, off, e, hlt, hc⟩ := h hn
  refine ⟨b, off, e, hlt, fun k hk => ?_⟩
  obtain ⟨A', cap, h1, h2, h3⟩ := hc k hk
  exact ⟨A', cap, (hb.cell (p := ⟨b, off + k, none⟩) hlt).trans h1, h2.below hb, h3⟩
theorem ListsP.on {w w' : World} {A : Option Addr} {ls : List (List Life)} (h : ListsP w w.heap.size A ls) (hb : Below w.heap.size w w') : ListsP w' w'.heap.size A ls := fun hn => by
  obtain ⟨b, off, e, hlt, hc⟩ := h.below hb hn
  refine ⟨b, off, e, Nat.lt_of_lt_of_le hlt hb.size, fun k hk => ?_⟩
  obtain ⟨A', cap, h1, h2, h3⟩ := hc k hk
  exact ⟨A', cap, h1, h2.more hb.size, h3⟩
/-- Are lists longer than the statements go through? -/
def heavyB (ls : List (List Life)) : Bool := decide (∃ k, k < ls.length ∧ 300 < (listAt ls k).length) || decide (20 < ls.length)
theorem OwnP.base {w : World} {base n cap : Nat} {A : Option Addr} {l : List Life} (h : OwnP w base A n cap l) : ∀ k, blockOf A = some k → base ≤ k := fun k e => by
  rcases h.form with ⟨rfl, _⟩ | ⟨g, rfl, hg, _⟩
  · cases e
  · obtain rfl : g = k := by simpa [blockOf] using e
    exact hg
theorem OwnP.cut {w : World} {base n cap : Nat} {A : Option Addr} {l : List Life} (h : OwnP w base A n cap l) (k : Nat) (hk : k ≤ n) (hA : A ≠ none) : OwnP w base A k cap (l.take k) := by
  have hl := h.len
  refine ⟨by rw [flatP_length, List.length_take]; omega, ?_⟩
  rcases h.2 with ⟨hv, hx⟩ | ⟨g, c, cur, hv, hb, hh, hnc, hm, hcs, htk⟩
  · exact absurd (by simpa using hv : A = none ∧ n = 0 ∧ cap = 0).1 hA
  · have hv' : A = some ⟨g, 0, none⟩ ∧ cap = c := by simpa using hv
    obtain ⟨rfl, rfl⟩ := hv'
    refine .inr ⟨g, cap, cur, rfl, hb, hh, by omega, hm, hcs, ?_⟩
    have e : flatP l = flatP (l.take k) ++ flatP (l.drop k) := by rw [← flatP_append, List.take_append_drop]
    have e2 : cur.toList.take (k * 2) = (cur.toList.take (n * 2)).take (k * 2) := by rw [List.take_take, Nat.min_eq_left (by omega)]
    rw [e2, htk, e, List.take_append_of_le_length (by rw [flatP_length, List.length_take]; omega), List.take_of_length_le (by rw [flatP_length, List.length_take]; omega)]
theorem zeros_flat : ∀ k : Nat, (Builtin.zeroCells #[.int .i64 0, .int .u64 0] k).toList = flatP (List.replicate k (0, 0)) := by
  intro k
  apply List.ext_getElem?
  intro j
  by_cases hj : j < k * 2
  · have hz : (Builtin.zeroCells #[.int .i64 0, .int .u64 0] k).toList[j]? = some (#[Value.int .i64 0, Value.int .u64 0][j % 2]!) := by
      simp [Builtin.zeroCells, hj]
    obtain ⟨h1, h2⟩ := flatP_get (List.replicate k (0, 0)) (j / 2) (by simp; omega)
    have e0 : atL (List.replicate k ((0 : Int), (0 : Int))) (j / 2) = (0, 0) := by simp [atL, List.getD, show j / 2 < k by omega]
    rw [e0] at h1 h2
    rw [hz]
    rcases Nat.mod_two_eq_zero_or_one j with e | e
    · rw [show j / 2 * 2 = j by omega] at h1
      rw [h1, e]; rfl
    · rw [show j / 2 * 2 + 1 = j by omega] at h2
      rw [h2, e]; rfl
  · rw [List.getElem?_eq_none (by simp [Builtin.zeroCells]; omega), List.getElem?_eq_none (by rw [flatP_length]; simp; omega)]
/-- How many lives the first k lists have. -/
def lenUpTo (ls : List (List Life)) (k : Nat) : Nat := (ls.take k).flatten.length
theorem take_flat_succ (ls : List (List Life)) (k : Nat) (hk : k < ls.length) : (ls.take (k + 1)).flatten = (ls.take k).flatten ++ listAt ls k := by
  rw [List.take_add_one, List.getElem?_eq_getElem hk]
  have : listAt ls k = ls[k] := by simp [listAt, List.getD, hk]
  rw [this]
  simp only [Option.toList, List.flatten_append, List.flatten_cons, List.flatten_nil, List.append_nil]
theorem lenUpTo_succ (ls : List (List Life)) (k : Nat) (hk : k < ls.length) : lenUpTo ls (k + 1) = lenUpTo ls k + (listAt ls k).length := by
  unfold lenUpTo
  rw [take_flat_succ ls k hk, List.length_append]
theorem lenUpTo_le (ls : List (List Life)) : ∀ k, k ≤ ls.length → lenUpTo ls k ≤ ls.flatten.length := by
  intro k _
  have e : ls.flatten = (ls.take k).flatten ++ (ls.drop k).flatten := by rw [← List.flatten_append, List.take_append_drop]
  rw [e, List.length_append]
  unfold lenUpTo
  omega
end Go.Proofs.Ytgkldjolnbnehaa
/-
  The library's BinarySearchFunc at lives that rise; the program's look-up, what it keeps of a list, Meet, Minus, Same. For lists of at most 2^40 lives.
-/
namespace Go.Proofs.Ytgkldjolnbnehaa
set_option maxRecDepth 20000
open Go.RowKit
open Go.Sort (grow)

theorem search_mem {l : List Life} {p : Life} {i : Nat} (hr : Rising l) (h1 : ∀ t, t < i → before (atL l t) p) (h2 : ∀ t, i ≤ t → t < l.length → ¬ before (atL l t) p) : p ∈ l ↔ i < l.length ∧ cmpL (atL l i) p = 0 := by
  constructor
  · intro hm
    obtain ⟨j, hj, e⟩ := List.getElem_of_mem hm
    have ej : atL l j = p := by rw [atL_lt hj]; exact e
    have hij : i ≤ j := by
      rcases Nat.lt_or_ge j i with h | h
      · have := h1 j h
        rw [ej] at this
        exact absurd this (before_irrefl p)
      · exact h
    refine ⟨by omega, (cmpL_zero _ _).2 ?_⟩
    rcases Nat.lt_or_ge i j with h | h
    · have hb := List.pairwise_iff_getElem.1 hr i j (by omega) hj h
      rw [← atL_lt (show i < l.length by omega), ← atL_lt hj, ej] at hb
      exact absurd hb (h2 i (Nat.le_refl _) (by omega))
    · have : i = j := by omega
      rw [this]; exact ej
  · rintro ⟨hi, hc⟩
    rw [← (cmpL_zero _ _).1 hc]
    exact atL_mem hi
theorem rising_mono {l : List Life} {p : Life} (hr : Rising l) {a b : Nat} (hab : a ≤ b) (hb : b < l.length) (h : before (atL l b) p) : before (atL l a) p := by
  rcases Nat.lt_or_ge a b with hlt | hge
  · have := List.pairwise_iff_getElem.1 hr a b (by omega) hb hlt
    rw [← atL_lt (show a < l.length by omega), ← atL_lt hb] at this
    exact before_trans this h
  · have : a = b := by omega
    rw [this]; exact h
set_option maxHeartbeats 4000000 in
theorem search_any (A : Option Addr) (l : List Life) (n c : Nat) (p : Life) (w : World) (h : Lives w w.heap.size A l) (hr : Rising l) (hn : l.length = n) (hb : n ≤ 1099511627776) :
    Calls Try.prog 92 #[.slice A n c, lifeV p, orderV] w fun e w' => ∃ i : Int, e = .returned (.tuple #[.int .i64 i, .bool (decide (p ∈ l))]) ∧ Hid (Below w.heap.size w w') := by
  have B1 := Lib.hid ((Below.refl w.heap.size w).alloc (Nat.le_refl _) (.cells #[.int .i64 p.1, .int .u64 p.2] 24))
  have HM := Lib.hid (fun i h1 h2 => search_mem (p := p) (i := i) hr h1 h2)
  have HMo := Lib.hid (fun a b (hab : a ≤ b) (hb : b < l.length) h => rising_mono (p := p) hr hab hb h)
  have HC := Lib.hid (fun x W => order_any x p W)
  have HCl := Lib.hid (fun x => cmpL_lt x p)
  generalize hres : decide (p ∈ l) = r
  have HR := Lib.hid hres
  have HL := Lib.hid h
  have HN := Lib.hid hn
  clear hres h hn hr
  obtain ⟨p1, p2⟩ := p
  obtain ⟨k1, k2⟩ := one_new w p1 p2
  simp only at B1
  have mixed : Try.prog.follows .mixedOrders = true := by kernel_rfl
  have eg := enters_order
  go_enter Try.func92, Try.ntmps92
  go_wp2_with fail
  generalize w.alloc (.cells #[.int .i64 p1, .int .u64 p2] 24) = W2 at *
  generalize hB : w.heap.size = B at k1 k2 ⊢
  have HB := Lib.hid hB
  have K1 := Lib.hid k1
  have K2 := Lib.hid k2
  clear hB k1 k2
  obtain ⟨n0, hn0⟩ : ∃ n0, n0 = n := ⟨_, rfl⟩
  go_loopw [9, 10] (fun s t wr => ∃ lo hi : Nat, lo ≤ hi ∧ hi ≤ n ∧ s = .int .i64 lo ∧ t = .int .i64 hi ∧ Hid (Below W2.heap.size W2 wr) ∧ Hid (∀ j, j < lo → before (atL l j) (p1, p2)) ∧ Hid (∀ j, hi ≤ j → j < n → ¬ before (atL l j) (p1, p2))) (fun s t _ => (intOf t).toNat - (intOf s).toNat)
  case atStart => exact ⟨0, n, Nat.zero_le _, Nat.le_refl _, rfl, rfl, Lib.hid (Below.refl _ _), Lib.hid (fun j hj => absurd hj (Nat.not_lt_zero _)), Lib.hid (fun j h1 h2 => by omega)⟩
  case round =>
    obtain ⟨lo, hi, hlh, hhn, rfl, rfl, hbw, hlow, hhigh⟩ := hrel
    have kb1 := cell_below K1.out hbw.out
    have kb2 := cell_below K2.out hbw.out
    have hBl : B < wr.heap.size := World.block_lt_of_cell? wr _ kb1
    have q1 := fun n os => cell_grown (n := n) (os := os) hBl kb1
    have q2 := fun n os => cell_grown (n := n) (os := os) (a := ⟨B, 1, none⟩) hBl kb2
    clear kb1 kb2 hBl
    by_cases hlt : lo < hi
    · obtain ⟨mid, hmid⟩ : ∃ mid, mid = (lo + hi) / 2 := ⟨_, rfl⟩
      have hm : ((lo : Int) + (hi : Int)) / 2 = (mid : Int) := by omega
      have hm1 : lo ≤ mid := by omega
      have hm2 : mid < hi := by omega
      clear hmid
      obtain ⟨b, off, rfl, hbb, hc1, hc2⟩ := (HL.out.below B1.out).at_ (k := mid) (by rw [HN.out]; omega)
      have hbb2 : b < W2.heap.size := World.block_lt_of_cell? W2 _ hc1
      have hbb3 : b < wr.heap.size := Nat.lt_of_lt_of_le hbb2 hbw.out.size
      have q3 := fun n os => cell_grown (n := n) (os := os) (a := ⟨b, off + mid * 2, none⟩) hbb3 ((hbw.out.cell (p := ⟨b, off + mid * 2, none⟩) hbb2).trans hc1)
      have q4 := fun n os => cell_grown (n := n) (os := os) (a := ⟨b, off + mid * 2 + 1, none⟩) hbb3 ((hbw.out.cell (p := ⟨b, off + mid * 2 + 1, none⟩) hbb2).trans hc2)
      clear hc1 hc2 hbb hbb2 hbb3
      have HC2 := Lib.hid (HC.out (atL l (mid)))
      have HCl2 := Lib.hid (HCl.out (atL l (mid)))
      have HAt := Lib.hid (show atL l (mid) = atL l (mid) from rfl)
      generalize hx : atL l (mid) = x at *
      have HX := Lib.hid hx
      clear hx HAt
      obtain ⟨x1, x2⟩ := x
      simp only at q3 q4
      have g0 : (0 : Int) ≤ (mid : Int) := by omega
      have g1 : (lo : Int) < (hi : Int) := by omega
      have g2 : (mid : Int) < (n : Int) := by omega
      go_wp2_with fail
      by_cases hc : before (x1, x2) (p1, p2)
      · have hcl : cmpL (x1, x2) (p1, p2) < 0 := HCl2.out.2 hc
        have HLo := Lib.hid (show ∀ j, j < mid + 1 → before (atL l j) (p1, p2) from fun j hj => HMo.out j (mid) (by omega) (by rw [HN.out]; omega) (by rw [HX.out]; exact hc))
        clear hc HCl2 HC
        generalize cmpL (x1, x2) (p1, p2) = cv at *
        go_quiet_grown (first | (go_at_fn 89; refine Calls.grown_of (HC2.out _)))
        go_wp2
        go_roundw
        case rel => exact ⟨mid + 1, hi, by omega, hhn, by first | rfl | (go_num), rfl, Lib.hid (btr hbw.out (grow_below _ _ _)), HLo, hhigh⟩
        case measure => simp [intOf]; omega
      · have hcl : ¬ cmpL (x1, x2) (p1, p2) < 0 := fun h => hc (HCl2.out.1 h)
        have HHi := Lib.hid (show ∀ j, mid ≤ j → j < n → ¬ before (atL l j) (p1, p2) from fun j h1 h2 h3 => hc (by rw [← HX.out]; exact HMo.out (mid) j h1 (by rw [HN.out]; exact h2) h3))
        clear hc HCl2 HC
        generalize cmpL (x1, x2) (p1, p2) = cv at *
        go_quiet_grown (first | (go_at_fn 89; refine Calls.grown_of (HC2.out _)))
        go_wp2
        go_roundw
        case rel => exact ⟨lo, mid, by omega, by omega, rfl, by first | rfl | (go_num), Lib.hid (btr hbw.out (grow_below _ _ _)), hlow, HHi⟩
        case measure => simp [intOf]; omega
    · obtain rfl : lo = hi := by omega
      have g1 : ¬ (lo : Int) < (lo : Int) := by omega
      have HM2 := HM.out lo hlow.out (by rw [HN.out]; exact hhigh.out)
      rw [HN.out] at HM2
      by_cases hlt2 : lo < n
      · obtain ⟨b, off, rfl, hbb, hc1, hc2⟩ := (HL.out.below B1.out).at_ (k := lo) (by rw [HN.out]; exact hlt2)
        have hbb2 : b < W2.heap.size := World.block_lt_of_cell? W2 _ hc1
        have hbb3 : b < wr.heap.size := Nat.lt_of_lt_of_le hbb2 hbw.out.size
        have q3 := fun n os => cell_grown (n := n) (os := os) (a := ⟨b, off + lo * 2, none⟩) hbb3 ((hbw.out.cell (p := ⟨b, off + lo * 2, none⟩) hbb2).trans hc1)
        have q4 := fun n os => cell_grown (n := n) (os := os) (a := ⟨b, off + lo * 2 + 1, none⟩) hbb3 ((hbw.out.cell (p := ⟨b, off + lo * 2 + 1, none⟩) hbb2).trans hc2)
        clear hc1 hc2 hbb hbb2 hbb3
        have HC2 := Lib.hid (HC.out (atL l lo))
        have HM3 := Lib.hid HM2
        clear HM2
        generalize atL l lo = x at *
        obtain ⟨x1, x2⟩ := x
        simp only at q3 q4
        have g0 : (0 : Int) ≤ (lo : Int) := by omega
        have g2 : (lo : Int) < (n : Int) := by omega
        clear HC HCl HM HMo hlow hhigh
        generalize cmpL (x1, x2) (p1, p2) = cv at *
        go_wp2_with fail
        by_cases hz : cv = 0
        · have : r = true := by rw [← HR.out]; exact decide_eq_true (HM3.out.2 ⟨hlt2, hz⟩)
          subst this hz
          go_quiet_grown (first | (go_at_fn 89; refine Calls.grown_of (HC2.out _)))
          go_wp2
          go_ret2
          first | exact ⟨_, rfl, Lib.hid (btr B1.out (btr hbw.out (grow_below _ _ _)))⟩ | exact ⟨⟨_, rfl⟩, Lib.hid (btr B1.out (btr hbw.out (grow_below _ _ _)))⟩
        · have : r = false := by rw [← HR.out]; exact decide_eq_false (fun h => hz (HM3.out.1 h).2)
          subst this
          have hz2 : (cv == 0) = false := by simp [hz]
          go_quiet_grown (first | (go_at_fn 89; refine Calls.grown_of (HC2.out _)))
          go_wp2
          go_ret2
          first | exact ⟨_, rfl, Lib.hid (btr B1.out (btr hbw.out (grow_below _ _ _)))⟩ | exact ⟨⟨_, rfl⟩, Lib.hid (btr B1.out (btr hbw.out (grow_below _ _ _)))⟩
      · have : r = false := by rw [← HR.out]; exact decide_eq_false (fun h => hlt2 (HM2.1 h).1)
        subst this
        have g2 : ¬ (lo : Int) < (n : Int) := by omega
        clear HC HCl HM HMo hlow hhigh HM2
        go_wp2_with fail
        refine wp_region_quiet_grown mixed (by kernel_rfl) ?_
        iterate 5 (quiet_step (fail))
        iterate 8 (generalize hact : ({ tmps := _, defers := [] } : Act) = aa; refine wpQuiet_skip (by rw [← hact]; kernel_rfl) ?_; subst hact; simp only [Act.put, List.setIfInBounds_toArray, List.set_cons_succ, List.set_cons_zero])
        iterate 3 (quiet_step (fail))
        refine wpQuiet_nil ?_
        intro _ hw'
        obtain ⟨⟨nq, osq⟩, hw''⟩ := hw'
        subst hw''
        go_wp2
        go_ret2
        first | exact ⟨_, rfl, Lib.hid (btr B1.out (btr hbw.out (grow_below _ _ _)))⟩ | exact ⟨⟨_, rfl⟩, Lib.hid (btr B1.out (btr hbw.out (grow_below _ _ _)))⟩
/-- What the look-up's closure has caught: a list that rises. -/
def Caught (B n c : Nat) (A : Option Addr) (l : List Life) (w : World) : Prop := w.cell? ⟨B, 0, none⟩ = some (.slice A n c) ∧ Lives w w.heap.size A l ∧ Rising l ∧ l.length = n
theorem Caught.on {B n c : Nat} {A : Option Addr} {l : List Life} {w w' : World} (h : Caught B n c A l w) (hb : Below w.heap.size w w') : Caught B n c A l w' := ⟨cell_below h.1 hb, h.2.1.on hb, h.2.2⟩
set_option maxHeartbeats 2000000 in
theorem look_any (B : Nat) (A : Option Addr) (l : List Life) (n c : Nat) (p : Life) (w : World) (h : Caught B n c A l w) (hb : n ≤ 1099511627776) :
    Calls Try.prog 91 #[lifeV p, .pointer (some ⟨B, 0, none⟩)] w fun e w' => e = .returned (.bool (decide (p ∈ l))) ∧ Hid (Below w.heap.size w w') := by
  have B1 := Lib.hid ((Below.refl w.heap.size w).alloc (Nat.le_refl _) (.cells #[.int .i64 p.1, .int .u64 p.2] 24))
  have HS := Lib.hid (fun W (hW : Below w.heap.size w W) => search_any A l n c p W (h.2.1.on hW) h.2.2.1 h.2.2.2 hb)
  generalize decide (p ∈ l) = r at *
  have hcell := h.1
  obtain ⟨p1, p2⟩ := p
  obtain ⟨k1, k2⟩ := one_new w p1 p2
  simp only at B1
  have kc := cell_at_old (.cells #[.int .i64 p1, .int .u64 p2] 24) hcell
  clear h hcell
  go_enter Try.func91, Try.ntmps91
  go_wp2_with fail
  generalize w.alloc (.cells #[.int .i64 p1, .int .u64 p2] 24) = W2 at *
  generalize hB : w.heap.size = B2 at k1 k2 ⊢
  have HB := Lib.hid hB
  clear hB
  go_region_held (fun w' => w'.cell? ⟨B2, 0, none⟩ = some (.int .i64 p1) ∧ w'.cell? ⟨B2, 1, none⟩ = some (.int .u64 p2) ∧ w'.cell? ⟨B, 0, none⟩ = some (.slice A n c)) (first | go_keep | exact kk.out)
    (first | (go_at_call 75; refine (order_is _).mono ?_; rintro e w1 ⟨rfl, rfl⟩) | (go_at_call 92; refine (HS.out _ (btr B1.out (bdl (Below.refl _ _)))).mono ?_; rintro e w1 ⟨i, rfl, hb1⟩; have BB := Lib.hid (btd B1.out hb1.out); have kk : Hid (w1.cell? ⟨B2, 0, none⟩ = some (.int .i64 p1) ∧ w1.cell? ⟨B2, 1, none⟩ = some (.int .u64 p2) ∧ w1.cell? ⟨B, 0, none⟩ = some (.slice A n c)) := Lib.hid ⟨cell_below k1 (bdl hb1.out), cell_below k2 (bdl hb1.out), cell_below kc (bdl hb1.out)⟩))
  all_goals
    go_wp2
    go_ret
    exact ⟨rfl, BB⟩
set_option maxHeartbeats 1000000 in
theorem among_any (A : Option Addr) (l : List Life) (n c : Nat) (w : World) (h : Lives w w.heap.size A l) (hn : l.length = n) (hb : n ≤ 1099511627776) (hA : A = none → c = 0) :
    Calls Try.prog 76 #[.slice A n c] w fun e w' => ∃ B A' c' m, e = .returned (.func (.func 91) #[] #[.pointer (some ⟨B, 0, none⟩)]) ∧ Hid (Caught B m c' A' (setL l) w') ∧ Hid (m ≤ n) ∧ Hid (Below w.heap.size w w') := by
  have HS := Lib.hid (sorted_any A l n c w h hn hb hA)
  have HLe := Lib.hid (Nat.le_trans (setL_length l) (Nat.le_of_eq hn))
  clear h hn hA
  go_enter Try.func76, Try.ntmps76
  go_wp2_with fail
  refine HS.out.mono ?_
  rintro e W1 ⟨A1, c1, rfl, hl, hA1, hc1, hb1⟩
  have HQ := Lib.hid (show Caught W1.heap.size (setL l).length c1 A1 (setL l) (W1.alloc (.cells #[.slice A1 (setL l).length c1] 27)) from ⟨cell_at_new W1 _ _ 0 _ rfl, hl.out.on ((Below.refl _ _).alloc (Nat.le_refl _) _), rising_setL l, rfl⟩)
  have HB2 := Lib.hid ((Below.refl W1.heap.size W1).alloc (Nat.le_refl _) (.cells #[.slice A1 (setL l).length c1] 27))
  clear HS
  generalize (setL l).length = m at *
  go_wp2
  go_ret
  exact ⟨_, A1, c1, m, rfl, HQ, HLe, Lib.hid (btr hb1.out HB2.out)⟩
theorem OwnP.base' {w : World} {base n cap : Nat} {A : Option Addr} {l : List Life} (h : OwnP w base A n cap l) : ∀ k, blockOf A = some k → base ≤ k := fun k e => by
  rcases h.form with ⟨rfl, _⟩ | ⟨g, rfl, hg, _⟩
  · cases e
  · obtain rfl : g = k := by simpa [blockOf] using e
    exact hg
set_option maxHeartbeats 4000000 in
theorem kept_any (A : Option Addr) (l : List Life) (n c : Nat) (g : Nat) (cb : Array Value) (f : Life → Bool) (w : World) (h : Lives w w.heap.size A l) (hn : l.length = n) (hb : n ≤ 1099511627776) (hA : A = none → c = 0)
    (eg : ∀ args w, (callFunc g args).run Try.prog w = .ok (.enter g args) w)
    (hf : ∀ p W, Below w.heap.size w W → Calls Try.prog g (#[lifeV p] ++ cb) W fun e w' => e = .returned (.bool (f p)) ∧ Hid (Below W.heap.size W w')) :
    Calls Try.prog 77 #[.slice A n c, .func (.func g) #[] cb] w fun e w' => ∃ A' c' m, e = .returned (.slice A' m c') ∧ Hid (((setL l).filter f).length = m) ∧ Hid (Lives w' w'.heap.size A' ((setL l).filter f)) ∧ Hid (A' = none → c' = 0) ∧ Hid (m ≤ c') ∧ Hid (m ≤ n) ∧ Hid (Below w.heap.size w w') := by
  have HS := Lib.hid (sorted_any A l n c w h hn hb hA)
  have HLe := Lib.hid (Nat.le_trans (setL_length l) (Nat.le_of_eq hn))
  have HF := Lib.hid hf
  clear h hn hA hf
  go_enter Try.func77, Try.ntmps77
  go_wp2_with fail
  refine HS.out.mono ?_
  rintro e W1 ⟨A1, c1, rfl, hl, hA1, hc1, hb1⟩
  clear HS
  generalize hS : setL l = S at *
  have HSS := Lib.hid hS
  clear hS
  generalize hm : S.length = m at *
  have HM := Lib.hid hm
  have hmn := HLe.out
  clear hm
  go_wp2
  go_loopw [5, 11] (fun s i wr => ∃ k : Nat, ∃ A' c' t, k ≤ m ∧ t ≤ k ∧ s = .slice A' t c' ∧ i = .int .i64 k ∧ Hid (OwnP wr W1.heap.size A' t c' ((S.take k).filter f)) ∧ Hid (Below W1.heap.size W1 wr)) (fun _ i _ => m - (intOf i).toNat)
  case atStart => exact ⟨0, none, 0, 0, Nat.zero_le _, Nat.le_refl _, rfl, rfl, Lib.hid OwnP.nil_, Lib.hid (Below.refl _ _)⟩
  case round =>
    obtain ⟨k, A2, c2, t, hk, htk, rfl, rfl, ho2, hb2⟩ := hrel
    by_cases hlt : k < m
    · obtain ⟨b, off, rfl, hbb, h1, h2⟩ := (hl.out.below hb2.out).at_ (k := k) (by rw [HM.out]; exact hlt)
      have g0 : (0 : Int) ≤ (k : Int) := by omega
      have g1 : (k : Int) < (m : Int) := by omega
      have HT := Lib.hid (show (S.take (k + 1)).filter f = (S.take k).filter f ++ (if f (atL S k) then [atL S k] else []) from by
        rw [List.take_add_one, List.getElem?_eq_getElem (by rw [HM.out]; exact hlt), List.filter_append, atL_lt (by rw [HM.out]; exact hlt)]
        simp only [Option.toList, List.filter_cons, List.filter_nil])
      generalize atL S k = x at *
      have HC := Lib.hid (HF.out x)
      obtain ⟨x1, x2⟩ := x
      simp only at h1 h2
      obtain ⟨k1, k2⟩ := one_new wr x1 x2
      have B3 := Lib.hid ((Below.refl wr.heap.size wr).alloc (Nat.le_refl _) (.cells #[.int .i64 x1, .int .u64 x2] 24))
      have ho3 := Lib.hid (ho2.out.on B3.out)
      go_wp2_with fail
      generalize wr.alloc (.cells #[.int .i64 x1, .int .u64 x2] 24) = W2 at *
      generalize hB : wr.heap.size = B at k1 k2 ⊢
      have HB := Lib.hid hB
      clear hB h1 h2
      go_wp2_with fail
      refine (HC.out W2 (btr hb1.out (btr hb2.out B3.out))).mono ?_
      rintro e W3 ⟨rfl, hb3⟩
      have ho4 := Lib.hid (ho3.out.on hb3.out)
      have hb4 := Lib.hid (btr hb2.out (btr B3.out hb3.out))
      have m1 := cell_below k1 hb3.out
      have m2 := cell_below k2 hb3.out
      clear k1 k2 ho3 ho2 B3 hb3 HC
      cases hfx : f (x1, x2) with
      | true =>
        rw [hfx, if_pos rfl] at HT
        have HN := Lib.hid (lives_new W3 [(x1, x2)])
        have B5 := Lib.hid ((Below.refl W3.heap.size W3).alloc (Nat.le_refl _) (.cells (flatP [(x1, x2)]).toArray 24))
        have ho5 := Lib.hid (ho4.out.on B5.out)
        clear hfx
        go_wp2_with (at_builtin; refine wpList_appendP rfl _ _ rfl W1.heap.size A2 t c2 _ rfl ?qc0 ho5.out (some ⟨W3.heap.size, 0, none⟩) 1 1 _ [(x1, x2)] rfl rfl (fun e => by cases e) HN.out (by omega) ?_)
        case qc0 => exact (btr hb4.out B5.out).size
        intro A6 c6 W6 e1 e2 e3
        go_wp2
        go_roundw
        case rel => exact ⟨k + 1, A6, c6, t + 1, by omega, by omega, rfl, by go_num, Lib.hid (by rw [HT.out]; exact e1.out), Lib.hid (e2.out.below (btr hb4.out B5.out) ho5.out.base' (btr hb4.out B5.out).size)⟩
        case measure => simp [intOf]; omega
      | false =>
        rw [hfx] at HT
        clear hfx
        go_wp2
        go_roundw
        case rel => exact ⟨k + 1, A2, c2, t, by omega, by omega, rfl, by go_num, Lib.hid (by rw [HT.out]; simpa using ho4.out), hb4⟩
        case measure => simp [intOf]; omega
    · obtain rfl : k = m := by omega
      have g1 : ¬ (k : Int) < (k : Int) := by omega
      have HTk := Lib.hid (show S.take k = S by rw [← HM.out, List.take_length])
      go_wp2
      go_ret
      have ho := ho2.out
      rw [HTk.out, ← HSS.out] at ho
      exact ⟨A2, c2, t, rfl, Lib.hid ho.len, Lib.hid ho.lives, Lib.hid ho.none_cap, Lib.hid ho.cap_le, Lib.hid (by omega), Lib.hid (btr hb1.out hb2.out)⟩
theorem enters_look : ∀ args w, (callFunc 91 args).run Try.prog w = .ok (.enter 91 args) w := enters_of Try.func91 (by kernel_rfl) rfl
theorem meet_eq (a b : List Life) : (setL a).filter (fun p => decide (p ∈ setL b)) = meetL a b := by
  rw [setL_filter]
  unfold meetL
  congr 1
  apply List.filter_congr
  intro p _
  rw [Bool.eq_iff_iff, decide_eq_true_iff, decide_eq_true_iff, mem_setL]
theorem minus_eq (a b : List Life) : (setL a).filter (fun p => !decide (p ∈ setL b)) = minusL a b := by
  rw [setL_filter]
  unfold minusL
  congr 1
  apply List.filter_congr
  intro p _
  congr 1
  rw [Bool.eq_iff_iff, decide_eq_true_iff, decide_eq_true_iff, mem_setL]
set_option maxHeartbeats 1000000 in
theorem meet_any (A1 A2 : Option Addr) (a b : List Life) (n1 n2 c1 c2 : Nat) (w : World) (h1 : Lives w w.heap.size A1 a) (h2 : Lives w w.heap.size A2 b) (hn1 : a.length = n1) (hn2 : b.length = n2) (hb1 : n1 ≤ 1099511627776) (hb2 : n2 ≤ 1099511627776) (hA1 : A1 = none → c1 = 0) (hA2 : A2 = none → c2 = 0) :
    Calls Try.prog 58 #[.slice A1 n1 c1, .slice A2 n2 c2] w fun e w' => ∃ A' c' m, e = .returned (.slice A' m c') ∧ Hid ((meetL a b).length = m) ∧ Hid (Lives w' w'.heap.size A' (meetL a b)) ∧ Hid (A' = none → c' = 0) ∧ Hid (m ≤ c') ∧ Hid (m ≤ n1) ∧ Hid (Below w.heap.size w w') := by
  have HAm := Lib.hid (among_any A2 b n2 c2 w h2 hn2 hb2 hA2)
  have HK := Lib.hid (fun W (hW : Below w.heap.size w W) cb f hf => kept_any A1 a n1 c1 91 cb f W (h1.on hW) hn1 hb1 hA1 enters_look hf)
  rw [← meet_eq]
  clear h1 h2 hn1 hn2
  go_enter Try.func58, Try.ntmps58
  go_wp2_with fail
  refine HAm.out.mono ?_
  rintro e W1 ⟨B, A3, c3, m, rfl, hc, hm, hbW⟩
  go_wp2_with fail
  refine (HK.out W1 hbW.out #[.pointer (some ⟨B, 0, none⟩)] (fun p => decide (p ∈ setL b)) (fun p W hW => look_any B A3 (setL b) m c3 p W (hc.out.on hW) (Nat.le_trans hm.out hb2))).mono ?_
  rintro e W2 ⟨A4, c4, m4, rfl, hl, hv, hA4, hc4, hm4, hbW2⟩
  clear HK HAm
  go_wp2
  go_ret
  exact ⟨A4, c4, m4, rfl, hl, hv, hA4, hc4, hm4, Lib.hid (btr hbW.out hbW2.out)⟩
end Go.Proofs.Ytgkldjolnbnehaa
/-
  Lists of lives as the statements hold them, and what the program's Union, Meet, Minus, Same, Sorted make of them. For lists of at most 2^40 lives.
-/
namespace Go.Proofs.Ytgkldjolnbnehaa
set_option maxRecDepth 20000
open Go.RowKit

/-- A slice of at most N lives. -/
structure Lst (W : World) (N : Nat) (A : Option Addr) (n c : Nat) (l : List Life) : Prop where
  lives : Lives W W.heap.size A l
  len : l.length = n
  le : n ≤ N
  cap : A = none → c = 0
theorem Lst.on {W W' : World} {N n c : Nat} {A : Option Addr} {l : List Life} (h : Lst W N A n c l) (hb : Below W.heap.size W W') : Lst W' N A n c l := ⟨h.lives.on hb, h.len, h.le, h.cap⟩
theorem Lst.more {W : World} {N N' n c : Nat} {A : Option Addr} {l : List Life} (h : Lst W N A n c l) (hN : N ≤ N') : Lst W N' A n c l := ⟨h.lives, h.len, Nat.le_trans h.le hN, h.cap⟩
section
variable {W : World} {N1 N2 n1 c1 n2 c2 : Nat} {A1 A2 : Option Addr} {a b : List Life}
theorem sorted_lst (h1 : Lst W N1 A1 n1 c1 a) (hN : N1 ≤ 1099511627776) :
    Calls Try.prog 70 #[.slice A1 n1 c1] W fun e w' => ∃ A' c' m, e = .returned (.slice A' m c') ∧ Hid (Lst w' N1 A' m c' (setL a)) ∧ Hid (Below W.heap.size W w') := by
  refine (sorted_any A1 a n1 c1 W h1.lives h1.len (Nat.le_trans h1.le hN) h1.cap).mono ?_
  rintro e w' ⟨A', c', rfl, hl, hA, hc, hb⟩
  exact ⟨A', c', _, rfl, Lib.hid ⟨hl.out, rfl, Nat.le_trans (setL_length a) (by rw [h1.len]; exact h1.le), hA.out⟩, hb⟩
theorem meet_lst (h1 : Lst W N1 A1 n1 c1 a) (h2 : Lst W N2 A2 n2 c2 b) (hN1 : N1 ≤ 1099511627776) (hN2 : N2 ≤ 1099511627776) :
    Calls Try.prog 58 #[.slice A1 n1 c1, .slice A2 n2 c2] W fun e w' => ∃ A' c' m, e = .returned (.slice A' m c') ∧ Hid (Lst w' N1 A' m c' (meetL a b)) ∧ Hid (Below W.heap.size W w') := by
  refine (meet_any A1 A2 a b n1 n2 c1 c2 W h1.lives h2.lives h1.len h2.len (Nat.le_trans h1.le hN1) (Nat.le_trans h2.le hN2) h1.cap h2.cap).mono ?_
  rintro e w' ⟨A', c', m, rfl, hl, hv, hA, hc, hm, hb⟩
  exact ⟨A', c', m, rfl, Lib.hid ⟨hv.out, hl.out, Nat.le_trans hm.out h1.le, hA.out⟩, hb⟩
theorem lists_two (h1 : Lst W N1 A1 n1 c1 a) (h2 : Lst W N2 A2 n2 c2 b) : ListsP (W.alloc (.cells #[.slice A1 n1 c1, .slice A2 n2 c2] 27)) (W.alloc (.cells #[.slice A1 n1 c1, .slice A2 n2 c2] 27)).heap.size (some ⟨W.heap.size, 0, none⟩) [a, b] := fun _ => by
  have hb : Below W.heap.size W (W.alloc (.cells #[.slice A1 n1 c1, .slice A2 n2 c2] 27)) := (Below.refl _ W).alloc (Nat.le_refl _) _
  refine ⟨_, 0, rfl, by simp, fun k hk => ?_⟩
  have : k = 0 ∨ k = 1 := by simp at hk; omega
  rcases this with rfl | rfl
  · exact ⟨A1, c1, by rw [show (listAt [a, b] 0).length = n1 from h1.len]; exact cell_at_new W _ _ 0 _ rfl, h1.lives.on hb, h1.cap⟩
  · exact ⟨A2, c2, by rw [show (listAt [a, b] 1).length = n2 from h2.len]; exact cell_at_new W _ _ 1 _ rfl, h2.lives.on hb, h2.cap⟩
end
theorem lists_three {W : World} {N1 N2 N3 n1 c1 n2 c2 n3 c3 : Nat} {A1 A2 A3 : Option Addr} {a b d : List Life} (h1 : Lst W N1 A1 n1 c1 a) (h2 : Lst W N2 A2 n2 c2 b) (h3 : Lst W N3 A3 n3 c3 d) : ListsP (W.alloc (.cells #[.slice A1 n1 c1, .slice A2 n2 c2, .slice A3 n3 c3] 27)) (W.alloc (.cells #[.slice A1 n1 c1, .slice A2 n2 c2, .slice A3 n3 c3] 27)).heap.size (some ⟨W.heap.size, 0, none⟩) [a, b, d] := fun _ => by
  have hb : Below W.heap.size W (W.alloc (.cells #[.slice A1 n1 c1, .slice A2 n2 c2, .slice A3 n3 c3] 27)) := (Below.refl _ W).alloc (Nat.le_refl _) _
  refine ⟨_, 0, rfl, by simp, fun k hk => ?_⟩
  have : k = 0 ∨ k = 1 ∨ k = 2 := by simp at hk; omega
  rcases this with rfl | rfl | rfl
  · exact ⟨A1, c1, by rw [show (listAt [a, b, d] 0).length = n1 from h1.len]; exact cell_at_new W _ _ 0 _ rfl, h1.lives.on hb, h1.cap⟩
  · exact ⟨A2, c2, by rw [show (listAt [a, b, d] 1).length = n2 from h2.len]; exact cell_at_new W _ _ 1 _ rfl, h2.lives.on hb, h2.cap⟩
  · exact ⟨A3, c3, by rw [show (listAt [a, b, d] 2).length = n3 from h3.len]; exact cell_at_new W _ _ 2 _ rfl, h3.lives.on hb, h3.cap⟩
theorem lists_one {W : World} {N1 n1 c1 : Nat} {A1 : Option Addr} {a : List Life} (h1 : Lst W N1 A1 n1 c1 a) : ListsP (W.alloc (.cells #[.slice A1 n1 c1] 27)) (W.alloc (.cells #[.slice A1 n1 c1] 27)).heap.size (some ⟨W.heap.size, 0, none⟩) [a] := fun _ => by
  have hb : Below W.heap.size W (W.alloc (.cells #[.slice A1 n1 c1] 27)) := (Below.refl _ W).alloc (Nat.le_refl _) _
  refine ⟨_, 0, rfl, by simp, fun k hk => ?_⟩
  obtain rfl : k = 0 := by simpa using hk
  exact ⟨A1, c1, by rw [show (listAt [a] 0).length = n1 from h1.len]; exact cell_at_new W _ _ 0 _ rfl, h1.lives.on hb, h1.cap⟩
theorem light_at {ls : List (List Life)} (h : heavyB ls = false) (k : Nat) (hk : k < ls.length) : (listAt ls k).length ≤ 300 := by
  unfold heavyB at h
  rw [Bool.or_eq_false_iff] at h
  have := of_decide_eq_false h.1
  rcases Nat.lt_or_ge 300 (listAt ls k).length with h2 | h2
  · exact absurd ⟨k, hk, h2⟩ this
  · exact h2
end Go.Proofs.Ytgkldjolnbnehaa
/-
  Rows of whole numbers that the program itself made; the library's Compact on them; the statements' own ints. For rows of at most 2^40 numbers.
-/
namespace Go.Proofs.Ytgkldjolnbnehaa
set_option maxRecDepth 20000
open Go.RowKit
open Go.Lib (keeps compactUpTo CompInv)
open Go.Sort (Holds putRow)

def iv (js : List Int) : List Value := js.map (Value.int .i64)
theorem iv_get {js : List Int} {k : Nat} (h : k < js.length) : (iv js)[k]? = some (.int .i64 (js.getD k 0)) := by simp [iv, List.getD, h]
theorem iv_one (js : List Int) : ∀ v ∈ iv js, v.oneCell' = true := by
  intro v hv
  obtain ⟨c, _, rfl⟩ := List.mem_map.1 hv
  rfl
theorem Try.infoI : (Try.prog.info? 3).map (fun i => (i.zero, i.size, i.bytes)) = some (some (.int .i64 0), 1, 8) := by kernel_rfl
def OwnI (w : World) (base : Nat) (A : Option Addr) (n cap : Nat) (js : List Int) : Prop := w.ownsRow base 3 1 (.slice A n cap) n (iv js)
section
variable {w w' : World} {base n cap : Nat} {A : Option Addr} {js : List Int}
theorem OwnI.len (h : OwnI w base A n cap js) : js.length = n := by
  have := h.1
  simpa [iv] using this
theorem OwnI.nil_ : OwnI w base none 0 0 [] := World.ownsRow_nil _ _ _ _
theorem OwnI.form (h : OwnI w base A n cap js) : (A = none ∧ n = 0 ∧ cap = 0) ∨ ∃ g, A = some ⟨g, 0, none⟩ ∧ base ≤ g ∧ g < w.heap.size := by
  rcases h.2 with ⟨hv, _⟩ | ⟨g, c, cur, hv, hg, hh, _⟩
  · exact .inl (by simpa using hv)
  · have hv' : A = some ⟨g, 0, none⟩ ∧ cap = c := by simpa using hv
    exact .inr ⟨g, hv'.1, hg, lt_of_heap hh⟩
theorem OwnI.cap_le (h : OwnI w base A n cap js) : n ≤ cap := by
  rcases h.2 with ⟨hv, hx⟩ | ⟨g, c, cur, hv, hb, hh, hnc, _⟩
  · omega
  · have hv' : A = some ⟨g, 0, none⟩ ∧ cap = c := by simpa using hv
    omega
theorem OwnI.cells (h : OwnI w base A n cap js) {g off : Nat} (hA : A = some ⟨g, off, none⟩) : off = 0 ∧ ∀ k, k < js.length → w.cell? ⟨g, k, none⟩ = some (.int .i64 (js.getD k 0)) ∧ w.frozen? ⟨g, k, none⟩ = false := by
  rcases h.2 with ⟨hv, hx⟩ | ⟨g', c, cur, hv, hb, hh, hnc, hm, hcs, htk⟩
  · have hv' : A = none ∧ n = 0 ∧ cap = 0 := by simpa using hv
    rw [hv'.1] at hA; cases hA
  · have hv' : A = some ⟨g', 0, none⟩ ∧ cap = c := by simpa using hv
    rw [hA] at hv'
    obtain ⟨rfl, rfl⟩ : g = g' ∧ off = 0 := by simpa using hv'.1
    refine ⟨rfl, fun k hk => ?_⟩
    have hj := iv_get hk
    rw [← htk, List.getElem?_take] at hj
    split at hj
    · have hj' : cur[k]? = some (.int .i64 (js.getD k 0)) := by simpa using hj
      constructor
      · rw [cell_of_row _ _ _ _ _ (0, 0) hh]; exact hj'
      · simp [World.frozen?, hh]
    · cases hj
theorem OwnI.ints (h : OwnI w base A n cap js) : IntsIn w A js := fun hn => by
  rcases h.form with ⟨_, h0, _⟩ | ⟨g, hA, _, hlt⟩
  · have := h.len; omega
  · subst hA
    exact ⟨g, 0, rfl, hlt, fun k hk => by rw [Nat.zero_add]; exact ((h.cells rfl).2 k hk).1⟩
theorem OwnI.on (h : OwnI w base A n cap js) (hb : Below w.heap.size w w') : OwnI w' base A n cap js := by
  refine ⟨h.1, ?_⟩
  rcases h.2 with h1 | ⟨g, c, cur, hv, hg, hh, hrest⟩
  · exact .inl h1
  · exact .inr ⟨g, c, cur, hv, hg, (hb.block g (lt_of_heap hh)).trans hh, hrest⟩
theorem OwnI.above (h : OwnI w base A n cap js) : ∀ k, blockOf A = some k → base ≤ k := fun k e => by
  rcases h.form with ⟨rfl, _⟩ | ⟨g, rfl, hg, _⟩
  · cases e
  · obtain rfl : g = k := by simpa [blockOf] using e
    exact hg
end
theorem ownI_value {w : World} {base n : Nat} {v : Value} {xs : List Value} (h : w.ownsRow base 3 1 v n xs) : ∃ A cap, v = .slice A n cap := by
  rcases h.2 with ⟨hv, hx⟩ | ⟨g, c, cur, hv, _⟩
  · refine ⟨none, 0, ?_⟩
    rw [hx]
    exact hv
  · exact ⟨_, _, hv⟩
section
variable {P : Program} {w : World}
/-- 'append(out, x)', x laid in a block of its own. -/
theorem wpList_appendI {ops : Array Oper} {rest : List Oper} {o : Oper} {a : Act} {Q : Exit → Act → World → Prop} (hgd : o.guard = none) (s x : Operand)
    (ho : o.op = .call { callee := .builtin .append, args := #[s, x], argTypes := #[62, 62] })
    (base : Nat) (A : Option Addr) (n cap : Nat) (js : List Int) (hs : a.eval s = .slice A n cap) (hbase : base ≤ w.heap.size) (hown : OwnI w base A n cap js)
    (b : Nat) (y : Int) (hx : a.eval x = .slice (some ⟨b, 0, none⟩) 1 1) (hc : w.cell? ⟨b, 0, none⟩ = some (.int .i64 y)) (hbytes : n + 1 ≤ 4398046511104)
    (h : ∀ A' cap' w', Hid (OwnI w' base A' (n + 1) cap' (js ++ [y])) → Hid (Only (fun k => blockOf A = some k) w w') → wpList Try.prog ops Q rest (a.put o.dst (.slice A' (n + 1) cap')) w') :
    wpList Try.prog ops Q (o :: rest) a w := by
  obtain ⟨i0, hi0, hz0, hz1, hz2⟩ := info_parts Try.infoI
  refine wpList_append_own_at _ hgd s x 62 ho base 3 i0 _ 1 8 Try.underlying62 hi0 hz0 hz1 hz2 rfl (by omega) (.slice A n cap) n (iv js) hs hown ⟨b, 0, none⟩ 1 1 [.int .i64 y] hx rfl (fun j u hu => ?_) (iv_one [y]) (by unfold maxLen; omega) (by omega) hbase ?_
  · obtain rfl : j = 0 := by have := (List.getElem?_eq_some_iff.1 hu).1; simpa using this
    rw [add_mk]
    have : u = .int .i64 y := by simpa using hu.symm
    rw [this]
    exact hc
  · intro v' w1 hown' hg _ hat
    obtain ⟨A', cap', rfl⟩ := ownI_value hown'
    rw [ownBlock_slice] at hg
    exact h A' cap' w1 (by unfold OwnI iv; rw [List.map_append]; exact hown') (Only.ofGrown hg)
end
theorem compactI_none (w : World) : Calls Try.prog 71 #[.slice none 0 0] w fun e w' => e = .returned (.slice none 0 0) ∧ w' = w := by
  go_enter Try.func71, Try.ntmps71
  go_wp2
  go_ret
  exact ⟨rfl, rfl⟩
theorem only_putRow (w : World) (g q : Nat) (d : Array Int) : Only (fun k => k = g) w (putRow (Value.int .i64) (Sort.ahead w q) g 0 d) := by
  refine ⟨rfl, rfl, rfl, by simp [Sort.putRow, Sort.mapBlock, Sort.ahead], fun k _ hne => ?_⟩
  simp [Sort.putRow, Sort.mapBlock, Sort.ahead, Array.getElem?_modify, Ne.symm hne]
theorem compactI_any (A : Option Addr) (n cap base : Nat) (js : List Int) (w : World) (h : OwnI w base A n cap js) (hb : n ≤ 1099511627776) :
    Calls Try.prog 71 #[.slice A n cap] w fun e w' => ∃ m, e = .returned (.slice A m cap) ∧ Hid (m = (compactUpTo js.toArray js.length).length) ∧ Hid (IntsIn w' A (compactUpTo js.toArray js.length)) ∧ Hid (Only (fun k => blockOf A = some k) w w') := by
  rcases h.form with ⟨rfl, rfl, rfl⟩ | ⟨g, rfl, hgb, hgl⟩
  · have hj : js = [] := List.eq_nil_of_length_eq_zero h.len
    subst hj
    refine (compactI_none w).mono ?_
    rintro e w' ⟨rfl, rfl⟩
    exact ⟨0, rfl, rfl, fun hh => absurd hh (by simp [compactUpTo]), Lib.hid (Only.refl _ _)⟩
  · have hl := h.len
    have hH : Holds (Value.int .i64) w g 0 js.toArray := fun j hj => by
      have hj' : j < js.length := by simpa using hj
      have := (h.cells rfl).2 j hj'
      rw [Nat.zero_add]
      have e : js.toArray[j]! = js.getD j 0 := by rw [getElem!_pos js.toArray j hj]; simp [List.getD, hj']
      rw [e]
      exact this
    have hcon := AnyE.slices_Compact Try.compactI (Value.int .i64) (fun _ => rfl) (EqlAt.intD _ _ _) (NeqAt.intD _ _ _) 0 (by intro w; kernel_rfl) g 0 cap js.toArray w hH (by rw [List.size_toArray]; omega) (by rw [List.size_toArray, hl]; exact h.cap_le)
    change Calls Try.prog 71 _ _ _ at hcon
    rw [List.size_toArray, hl] at hcon
    rw [hl]
    refine hcon.mono ?_
    rintro e w' ⟨rfl, q, rfl⟩
    have hle : (compactUpTo js.toArray n).length ≤ n := by
      have := List.length_filter_le (keeps js.toArray) (List.range n)
      simpa [compactUpTo] using this
    refine ⟨_, rfl, rfl, fun hn => ⟨g, 0, rfl, by simpa [Sort.putRow, Sort.mapBlock, Sort.ahead] using hgl, fun k hk => ?_⟩, Lib.hid ((only_putRow w g q _).weak fun k _ e => by rw [e]; rfl)⟩
    have hh := Sort.holds_putRow (Value.int .i64) (Sort.ahead w q) g 0 js.toArray (compactUpTo js.toArray n ++ List.replicate (n - (compactUpTo js.toArray n).length) 0).toArray hH (by simp; omega) k (by simp; omega)
    rw [hh.1]
    congr 2
    simp [List.getD, List.getElem?_append_left hk]
end Go.Proofs.Ytgkldjolnbnehaa
/-
  The nodes of lives: the program's answer and the document's. For lists of at most 2^38 lives.
-/
namespace Go.Proofs.Ytgkldjolnbnehaa
set_option maxRecDepth 20000
open Go.RowKit
open Go.Lib (keeps compactUpTo)
open Go.Sort (grow)

abbrev fstL (S : List Life) : List Int := S.map (·.1)
theorem fst_get (S : List Life) (k : Nat) (hk : k < S.length) : (fstL S).toArray[k]! = (atL S k).1 := by
  rw [getElem!_pos (fstL S).toArray k (by simpa using hk), atL_lt hk]
  simp
theorem fst_take_succ (S : List Life) (k : Nat) (hk : k < S.length) : fstL (S.take (k + 1)) = fstL (S.take k) ++ [(atL S k).1] := by
  rw [List.take_add_one, List.getElem?_eq_getElem hk, atL_lt hk]
  simp only [Option.toList, fstL, List.map_append, List.map_cons, List.map_nil]
/-- The nodes of a list's lives. -/
abbrev nodesOf (l : List Life) : List Int := compactUpTo (fstL (setL l)).toArray (setL l).length
set_option maxHeartbeats 2000000 in
theorem nodes_any (A : Option Addr) (l : List Life) (n c : Nat) (w : World) (h : Lives w w.heap.size A l) (hn : l.length = n) (hb : n ≤ 274877906944) (hA : A = none → c = 0) :
    Calls Try.prog 42 #[.slice A n c] w fun e w' => ∃ A' c' m, e = .returned (.slice A' m c') ∧ Hid ((nodesOf l).length = m) ∧ Hid (IntsIn w' A' (nodesOf l)) ∧ Hid (Below w.heap.size w w') := by
  have HS := Lib.hid (sorted_any A l n c w h hn (by omega) hA)
  have HLe := Lib.hid (Nat.le_trans (setL_length l) (Nat.le_of_eq hn))
  clear h hn hA
  go_enter Try.func42, Try.ntmps42
  go_wp2_with fail
  refine HS.out.mono ?_
  rintro e W1 ⟨A1, c1, rfl, hl, hA1, hc1, hb1⟩
  clear HS
  generalize hS : setL l = S at *
  have HSS := Lib.hid hS
  clear hS
  generalize hm : S.length = m at *
  have HM := Lib.hid hm
  have hmn := HLe.out
  clear hm
  go_wp2
  go_loopw [3, 9] (fun s i wr => ∃ k : Nat, ∃ A' c', k ≤ m ∧ s = .slice A' k c' ∧ i = .int .i64 k ∧ Hid (OwnI wr W1.heap.size A' k c' (fstL (S.take k))) ∧ Hid (Below W1.heap.size W1 wr)) (fun _ i _ => m - (intOf i).toNat)
  case atStart => exact ⟨0, none, 0, Nat.zero_le _, rfl, rfl, Lib.hid OwnI.nil_, Lib.hid (Below.refl _ _)⟩
  case round =>
    obtain ⟨k, A2, c2, hk, rfl, rfl, ho2, hb2⟩ := hrel
    by_cases hlt : k < m
    · obtain ⟨b, off, rfl, hbb, h1, h2⟩ := (hl.out.below hb2.out).at_ (k := k) (by rw [HM.out]; exact hlt)
      have g0 : (0 : Int) ≤ (k : Int) := by omega
      have g1 : (k : Int) < (m : Int) := by omega
      have HT := Lib.hid (fst_take_succ S k (by rw [HM.out]; exact hlt))
      generalize atL S k = x at *
      obtain ⟨x1, x2⟩ := x
      simp only at h1 h2
      obtain ⟨k1, k2⟩ := one_new wr x1 x2
      have B3 := Lib.hid ((Below.refl wr.heap.size wr).alloc (Nat.le_refl _) (.cells #[.int .i64 x1, .int .u64 x2] 24))
      have ho3 := Lib.hid (ho2.out.on B3.out)
      have hs2 : (wr.alloc (.cells #[.int .i64 x1, .int .u64 x2] 24)).heap.size = wr.heap.size + 1 := by simp
      have hkc := cell_at_new (wr.alloc (.cells #[.int .i64 x1, .int .u64 x2] 24)) #[.int .i64 x1] 3 0 _ rfl
      rw [hs2] at hkc
      have kc := Lib.hid hkc
      have B4 := Lib.hid ((Below.refl (wr.alloc (.cells #[.int .i64 x1, .int .u64 x2] 24)).heap.size (wr.alloc (.cells #[.int .i64 x1, .int .u64 x2] 24))).alloc (Nat.le_refl _) (.cells #[.int .i64 x1] 3))
      have ho4 := Lib.hid (ho3.out.on B4.out)
      have BB := Lib.hid (btr (btr hb2.out B3.out) B4.out)
      clear hs2 hkc
      go_wp2_with (at_builtin; refine wpList_appendI rfl _ _ rfl W1.heap.size A2 k c2 _ rfl BB.out.size ho4.out (wr.heap.size + 1) x1 rfl kc.out (by omega) ?_)
      intro A6 c6 W6 e1 e2
      go_wp2
      go_roundw
      case rel => exact ⟨k + 1, A6, c6, by omega, rfl, by go_num, Lib.hid (by rw [HT.out]; simpa using e1.out), Lib.hid (e2.out.below BB.out ho4.out.above BB.out.size)⟩
      case measure => simp [intOf]; omega
    · obtain rfl : k = m := by omega
      have g1 : ¬ (k : Int) < (k : Int) := by omega
      have HTk := Lib.hid (show S.take k = S by rw [← HM.out, List.take_length])
      have ho := ho2.out
      rw [HTk.out] at ho
      have HC := Lib.hid (compactI_any A2 k c2 W1.heap.size (fstL S) wr ho (by omega))
      have hab := Lib.hid ho.above
      clear ho
      go_wp2_with fail
      refine HC.out.mono ?_
      rintro e W5 ⟨m5, rfl, hm5, hi5, hon5⟩
      go_wp2
      go_ret
      have e0 : (fstL S).length = k := by simp only [List.length_map]; exact HM.out
      have hm5 := hm5.out
      have hi5 := hi5.out
      rw [e0] at hm5 hi5
      refine ⟨A2, c2, m5, rfl, Lib.hid ?_, Lib.hid ?_, Lib.hid (btr hb1.out (hon5.out.below hb2.out hab.out hb2.out.size))⟩
      · rw [hm5]; unfold nodesOf; rw [HSS.out, HM.out]
      · unfold nodesOf; rw [HSS.out, HM.out]; exact hi5
end Go.Proofs.Ytgkldjolnbnehaa
/-
  The document's Both and Kept. For lists of at most 2^36 lives.
-/
namespace Go.Proofs.Ytgkldjolnbnehaa
set_option maxRecDepth 20000
open Go.RowKit

theorem requal_true' {W : World} {A1 A2 : Option Addr} {a : List Life} {n1 c1 n2 c2 : Nat} (h1 : Lives W W.heap.size A1 a) (h2 : Lives W W.heap.size A2 a) (hn1 : a.length = n1) (hn2 : a.length = n2) (hb : n1 ≤ 1099511627776) :
    Calls Try.prog 22 #[.slice A1 n1 c1, .slice A2 n2 c2] W fun e w' => e = .returned (.bool true) ∧ Hid (Below W.heap.size W w') := by
  have h := requal_any A1 a n1 c1 A2 a n2 c2 W h1 h2 hn1 hn2 hb (by omega)
  rwa [decide_eq_true rfl] at h
theorem rsorted_lst' {W : World} {N1 n1 c1 : Nat} {A1 : Option Addr} {a : List Life} (h1 : Lst W N1 A1 n1 c1 a) (hN : N1 ≤ 274877906944) :
    Calls Try.prog 79 #[.slice A1 n1 c1] W fun e w' => ∃ A' c' m, e = .returned (.slice A' m c') ∧ Hid (Lst w' N1 A' m c' (setL a)) ∧ Hid (Below W.heap.size W w') := by
  refine (rsorted_any A1 a n1 c1 W h1.lives h1.len (Nat.le_trans h1.le hN)).mono ?_
  rintro e w' ⟨A', c', m, rfl, ho, hm, hb⟩
  exact ⟨A', c', m, rfl, Lib.hid ⟨ho.out.lives, ho.out.len, Nat.le_trans hm.out h1.le, ho.out.none_cap⟩, hb⟩
set_option maxHeartbeats 2000000 in
theorem rkept_any {W : World} {N1 N2 n1 c1 n2 c2 : Nat} {A1 A2 : Option Addr} {a b : List Life} (v : Bool) (h1 : Lst W N1 A1 n1 c1 a) (h2 : Lst W N2 A2 n2 c2 b) (hN1 : N1 ≤ 68719476736) (hN2 : N2 ≤ 68719476736) :
    Calls Try.prog 59 #[.slice A1 n1 c1, .slice A2 n2 c2, .bool v] W fun e w' => ∃ A' c' m, e = .returned (.slice A' m c') ∧ Hid (Lst w' N1 A' m c' (setL (a.filter fun p => decide (p ∈ b) == v))) ∧ Hid (Below W.heap.size W w') := by
  have H1 := Lib.hid h1
  have H2 := Lib.hid h2
  have hle1 := h1.le
  have hle2 := h2.le
  have HLen := Lib.hid h1.len
  clear h1 h2
  go_enter Try.func59, Try.ntmps59
  go_wp2
  go_loopw [7, 8] (fun s i wr => ∃ k : Nat, ∃ A' c' t, k ≤ n1 ∧ t ≤ k ∧ s = .slice A' t c' ∧ i = .int .i64 k ∧ Hid (OwnP wr W.heap.size A' t c' ((a.take k).filter fun p => decide (p ∈ b) == v)) ∧ Hid (Below W.heap.size W wr)) (fun _ i _ => n1 - (intOf i).toNat)
  case atStart => exact ⟨0, none, 0, 0, Nat.zero_le _, Nat.le_refl _, rfl, rfl, Lib.hid OwnP.nil_, Lib.hid (Below.refl _ _)⟩
  case round =>
    obtain ⟨k, A3, c3, t, hk, htk, rfl, rfl, ho, hb⟩ := hrel
    by_cases hlt : k < n1
    · obtain ⟨g, off, rfl, hgb, e1, e2⟩ := (H1.out.lives.below hb.out).at_ (k := k) (by rw [HLen.out]; exact hlt)
      have g0 : (0 : Int) ≤ (k : Int) := by omega
      have g1 : (k : Int) < (n1 : Int) := by omega
      have HT := Lib.hid (show (a.take (k + 1)).filter (fun p => decide (p ∈ b) == v) = (a.take k).filter (fun p => decide (p ∈ b) == v) ++ (if (decide (atL a k ∈ b) == v) = true then [atL a k] else []) from by
        rw [List.take_add_one, List.getElem?_eq_getElem (by rw [HLen.out]; exact hlt), List.filter_append, atL_lt (by rw [HLen.out]; exact hlt)]
        simp only [Option.toList, List.filter_cons, List.filter_nil])
      have HHas := Lib.hid (rhas_any A2 b n2 c2 (atL a k) wr (H2.out.on hb.out).lives H2.out.len (by omega))
      generalize atL a k = x at *
      obtain ⟨x1, x2⟩ := x
      simp only at e1 e2
      generalize decide (((x1, x2) : Life) ∈ b) = r at *
      go_wp2_with fail
      refine HHas.out.mono ?_
      rintro e W3 ⟨rfl, hb3⟩
      have B3 := Lib.hid (btr hb.out hb3.out)
      have ho3 := Lib.hid (ho.out.on hb3.out)
      have k1 := cell_below e1 hb3.out
      have k2 := cell_below e2 hb3.out
      clear e1 e2 HHas ho hb hb3 hgb
      by_cases hr : (r == v) = true
      · have hr' := hr
        rw [hr, if_pos rfl] at HT
        have HN := Lib.hid (lives_new W3 [(x1, x2)])
        have E5 := Lib.hid ((Below.refl W3.heap.size W3).alloc (Nat.le_refl _) (.cells (flatP [(x1, x2)]).toArray 24))
        have ho5 := Lib.hid (ho3.out.on E5.out)
        have BB := Lib.hid (btr B3.out E5.out)
        go_wp2_with (at_builtin; refine wpList_appendP rfl _ _ rfl W.heap.size A3 t c3 _ rfl BB.out.size ho5.out (some ⟨W3.heap.size, 0, none⟩) 1 1 _ [(x1, x2)] rfl rfl (fun e => by cases e) HN.out (by omega) ?_)
        intro A6 c6 W6 s1 s2 s3
        go_wp2
        go_roundw
        case rel => exact ⟨k + 1, A6, c6, t + 1, by omega, by omega, rfl, by go_num, Lib.hid (by rw [HT.out]; exact s1.out), Lib.hid (s2.out.below BB.out ho5.out.base0 BB.out.size)⟩
        case measure => simp [intOf]; omega
      · have hr' : (r == v) = false := by simpa using hr
        rw [hr'] at HT
        clear hr
        go_wp2
        go_roundw
        case rel => exact ⟨k + 1, A3, c3, t, by omega, by omega, rfl, by go_num, Lib.hid (by rw [HT.out]; simpa using ho3.out), B3⟩
        case measure => simp [intOf]; omega
    · obtain rfl : k = n1 := by omega
      have g1 : ¬ (k : Int) < (k : Int) := by omega
      have HTk := Lib.hid (show a.take k = a by rw [← HLen.out, List.take_length])
      have ho2 := ho.out
      rw [HTk.out] at ho2
      have HS := Lib.hid (rsorted_lst' (N1 := N1) (show Lst wr N1 A3 t c3 _ from ⟨ho2.lives, ho2.len, by omega, ho2.none_cap⟩) (by omega))
      clear ho2
      go_wp2_with fail
      refine HS.out.mono ?_
      rintro e W4 ⟨A4, c4, m4, rfl, hl4, hb4⟩
      go_wp2
      go_ret
      exact ⟨A4, c4, m4, rfl, hl4, Lib.hid (btr hb.out hb4.out)⟩
end Go.Proofs.Ytgkldjolnbnehaa
/-
  The program's Put, Get and GetSet: lives written, and read. For lists of at most 1000 lives whose numbers are unsigned, Readers of at most 2^46 bytes.
-/
namespace Go.Proofs.Ytgkldjolnbnehaa
set_option maxRecDepth 20000
open Go.RowKit

/-- A life's node, its lowest byte alone. -/
def lowB (q : Life) : Nat := (q.1 % 256).toNat
theorem lowB_lt (q : Life) : lowB q < 256 := by unfold lowB; omega
def putL (q : Life) : List UInt8 := wideL (lowB q) 1 ++ shortL q.2.toNat
def putsL (s : List Life) : List UInt8 := s.flatMap putL
theorem putsL_nil : putsL [] = [] := rfl
theorem putsL_cons (q : Life) (s : List Life) : putsL (q :: s) = putL q ++ putsL s := rfl
theorem putsL_append (s t : List Life) : putsL (s ++ t) = putsL s ++ putsL t := by simp [putsL]
abbrev Unsigned (s : List Life) : Prop := ∀ q ∈ s, 0 ≤ q.2 ∧ q.2 < 18446744073709551616
theorem putL_le (q : Life) (h : q.2 < 18446744073709551616) : (putL q).length ≤ 11 := by
  unfold putL
  have h9 : (18446744073709551616 : Nat) ≤ 128 ^ (9 + 1) := by decide
  have h8 : q.2.toNat < 128 ^ (9 + 1) := by omega
  have := shortL_le 9 q.2.toNat h8
  rw [List.length_append, wideL_length]
  omega
theorem putsL_le : ∀ (s : List Life), Unsigned s → (putsL s).length ≤ s.length * 11
  | [], _ => by simp [putsL]
  | q :: s, h => by
    have h1 := putsL_le s (fun x hx => h x (List.mem_cons_of_mem _ hx))
    have h2 := putL_le q (h q (by simp)).2
    rw [putsL_cons, List.length_append, List.length_cons]
    omega
theorem putsL_take_succ (s : List Life) (k : Nat) (hk : k < s.length) : putsL (s.take (k + 1)) = putsL (s.take k) ++ wideL (lowB (atL s k)) 1 ++ shortL (atL s k).2.toNat := by
  rw [List.take_add_one, List.getElem?_eq_getElem hk, putsL_append, atL_lt hk]
  simp [putsL, putL]

/-! What Get and GetSet answer. -/
def gotL (s : RS) : Life × RS :=
  if mayL (((rWide s 1).1 : Int), ((rUint (rWide s 1).2).1 : Int)) then ((((rWide s 1).1 : Int), ((rUint (rWide s 1).2).1 : Int)), (rUint (rWide s 1).2).2) else ((0, 0), ⟨(rUint (rWide s 1).2).2.l, true⟩)
def gets : Nat → RS → List Life × RS
  | 0, s => ([], s)
  | k + 1, s => ((gets k s).1 ++ [(gotL (gets k s).2).1], (gotL (gets k s).2).2)
theorem gets_length : ∀ (k : Nat) (s : RS), (gets k s).1.length = k
  | 0, _ => rfl
  | k + 1, s => by simp [gets, gets_length k s]
theorem gotL_pos (s : RS) : 0 ≤ (gotL s).1.2 := by
  unfold gotL
  split <;> simp
theorem gets_pos : ∀ (k : Nat) (s : RS), ∀ q ∈ (gets k s).1, 0 ≤ q.2
  | 0, _, q, h => by simp [gets] at h
  | k + 1, s, q, h => by
    rw [gets] at h
    rcases List.mem_append.1 h with h | h
    · exact gets_pos k s q h
    · rw [List.mem_singleton.1 h]; exact gotL_pos _
theorem rWide_le (s : RS) (n : Nat) : (rWide s n).2.l.length ≤ s.l.length := by
  unfold rWide
  split
  · exact Nat.le_refl _
  · simp
theorem rUint_le (s : RS) : (rUint s).2.l.length ≤ s.l.length := by
  unfold rUint
  split
  · exact Nat.le_refl _
  · simp
theorem gotL_le (s : RS) : (gotL s).2.l.length ≤ s.l.length := by
  have h1 := rUint_le (rWide s 1).2
  have h2 := rWide_le s 1
  unfold gotL
  split <;> (simp only; omega)
theorem gets_le : ∀ (k : Nat) (s : RS), (gets k s).2.l.length ≤ s.l.length
  | 0, _ => Nat.le_refl _
  | k + 1, s => by
    have h1 := gets_le k s
    have h2 := gotL_le (gets k s).2
    simp only [gets]
    omega
def getSetL (s : RS) (most : Int) : List Life × RS :=
  if most < ((rWide s 1).1 : Int) then ([], ⟨(rWide s 1).2.l, true⟩)
  else if setUpTo (gets (rWide s 1).1 (rWide s 1).2).1 (rWide s 1).1 then gets (rWide s 1).1 (rWide s 1).2 else ([], ⟨(gets (rWide s 1).1 (rWide s 1).2).2.l, true⟩)
theorem rWide_one (b : Nat) (hb : b < 256) (r : List UInt8) : rWide ⟨wideL b 1 ++ r, false⟩ 1 = (b, ⟨r, false⟩) := by
  have e : wideL b 1 = [UInt8.ofNat b] := by simp [wideL, Nat.mod_eq_of_lt hb]
  rw [e]
  unfold rWide
  rw [if_neg (by simp)]
  have : (UInt8.ofNat b).toNat = b := toNat_lo hb
  simp [numLE, this]
theorem gotL_put (q : Life) (hm : mayL q) (hq : q.2 < 18446744073709551616) (r : List UInt8) : gotL ⟨putL q ++ r, false⟩ = (q, ⟨r, false⟩) := by
  have h0 : lowB q = q.1.toNat := by unfold lowB; have := hm.1; have := hm.2.1; omega
  have e1 : ((lowB q : Nat) : Int) = q.1 := by rw [h0]; have := hm.1; omega
  have e2 : ((q.2.toNat : Nat) : Int) = q.2 := by have := hm.2.2; omega
  have hp := parse_short (x := q.2.toNat) (by omega) r
  have hpos : (shortL q.2.toNat).length ≠ 0 := by have := shortL_pos q.2.toNat; omega
  have h1 : rWide ⟨putL q ++ r, false⟩ 1 = (lowB q, ⟨shortL q.2.toNat ++ r, false⟩) := by
    unfold putL
    rw [List.append_assoc]
    exact rWide_one _ (lowB_lt q) _
  have h2 : rUint ⟨shortL q.2.toNat ++ r, false⟩ = (q.2.toNat, ⟨r, false⟩) := by
    rw [uint_some (by rw [hp]; exact hpos), hp]
    simp
  unfold gotL
  rw [h1]
  simp only
  rw [h2]
  simp only [e1, e2]
  rw [if_pos hm]
theorem gets_put (S : List Life) (hm : ∀ q ∈ S, mayL q) (hu : Unsigned S) (r : List UInt8) : ∀ k, k ≤ S.length → gets k ⟨putsL S ++ r, false⟩ = (S.take k, ⟨putsL (S.drop k) ++ r, false⟩)
  | 0, _ => by simp [gets]
  | k + 1, hk => by
    have hk' : k < S.length := by omega
    rw [gets, gets_put S hm hu r k (by omega)]
    simp only
    have hd : S.drop k = S[k] :: S.drop (k + 1) := List.drop_eq_getElem_cons hk'
    rw [hd, putsL_cons, List.append_assoc, gotL_put S[k] (hm _ (List.getElem_mem hk')) (hu _ (List.getElem_mem hk')).2]
    have ht : S.take (k + 1) = S.take k ++ [S[k]] := by rw [List.take_add_one, List.getElem?_eq_getElem hk']; rfl
    rw [ht]

set_option maxHeartbeats 2000000 in
theorem pput_at {B : Nat} {w0 W : World} {p : Nat} {g : Option Nat} {L : List UInt8} (h : WS B w0 W p g L) (A : Option Addr) (s : List Life) (n c : Nat) (hl : Lives w0 B A s) (hn : s.length = n) (hu : Unsigned s) (hb : n ≤ 1000) (hr : L.length ≤ 1048576) :
    Calls Try.prog 63 #[.pointer (some ⟨p, 0, none⟩), .slice A n c] W fun e W' => e = .returned (.tuple #[]) ∧ ∃ g', Hid (WS B w0 W' p g' (L ++ putsL s)) := by
  have HL := Lib.hid hl
  have HN := Lib.hid hn
  have HU := Lib.hid hu
  have HW := Lib.hid h
  clear hl hn hu h
  go_enter Try.func63, Try.ntmps63
  go_wp2
  go_loopw [8] (fun i wr => ∃ k : Nat, ∃ g', k ≤ n ∧ i = .int .i64 k ∧ Hid (WS B w0 wr p g' (L ++ putsL (s.take k)))) (fun i _ => n - (intOf i).toNat)
  case atStart => exact ⟨0, g, Nat.zero_le _, rfl, Lib.hid (by simpa [putsL] using HW.out)⟩
  case round =>
    obtain ⟨k, g1, hk, rfl, hw1⟩ := hrel
    by_cases hlt : k < n
    · obtain ⟨b, off, rfl, hbb, h1, h2⟩ := (HL.out.below hw1.out.below).at_ (k := k) (by rw [HN.out]; exact hlt)
      have g0 : (0 : Int) ≤ (k : Int) := by omega
      have g2 : (k : Int) < (n : Int) := by omega
      have HT := Lib.hid (putsL_take_succ s k (by rw [HN.out]; exact hlt))
      have hux := HU.out _ (atL_mem (l := s) (k := k) (by rw [HN.out]; exact hlt))
      have hlen : (L ++ putsL (s.take k)).length ≤ 2097152 := by
        have h3 := putsL_le (s.take k) (fun q hq => HU.out q (List.mem_of_mem_take hq))
        rw [List.length_take, HN.out] at h3
        rw [List.length_append]
        omega
      generalize hx : atL s k = x at *
      have hlb := lowB_lt x
      have hlw : IntKind.u8.wrap x.1 = ((lowB x : Nat) : Int) := by
        unfold lowB
        simp [IntKind.wrap, IntKind.bits, IntKind.signed]
        omega
      obtain ⟨x1, x2⟩ := x
      simp only at h1 h2 hux hlw
      obtain ⟨y, rfl⟩ : ∃ y : Nat, x2 = (y : Int) := ⟨x2.toNat, by omega⟩
      have hy : y < 18446744073709551616 := by omega
      simp only [Int.toNat_natCast] at HT
      generalize lowB (x1, (y : Int)) = lb at *
      obtain ⟨k1, k2⟩ := one_new wr x1 (y : Int)
      have B3 := Lib.hid ((Below.refl wr.heap.size wr).alloc (Nat.le_refl _) (.cells #[.int .i64 x1, .int .u64 (y : Int)] 24))
      have hw2 := Lib.hid (hw1.out.later B3.out)
      have HLn := Lib.hid hlen
      have hbx : wr.heap.size ≠ p := by have := hw1.out.wr.lt; omega
      have hbg : ∀ j, g1 = some j → j ≠ wr.heap.size := fun j e => by have := hw1.out.wr.glt j e; omega
      have HBX := Lib.hid hbx
      have HBG := Lib.hid hbg
      clear hw1 hlen hux hx hbx hbg
      go_wp2_with fail
      generalize wr.alloc (.cells #[.int .i64 x1, .int .u64 (y : Int)] 24) = W2 at *
      generalize hB : wr.heap.size = B2 at k1 k2 HBX HBG ⊢
      have HB := Lib.hid hB
      have K2 := Lib.hid k2
      have hB2 : B2 < W2.heap.size := World.block_lt_of_cell? W2 _ k1
      have HB2 := Lib.hid hB2
      clear hB h1 h2 k1 k2 hB2
      refine (wu8_any p g1 _ lb W2 hlb hw2.out.wr (by have := HLn.out; omega)).mono ?_
      rintro e W3 hE
      obtain ⟨rfl, g3, hw3, hn3, ho3⟩ := WsE.of hw2.out hE
      have k3 := (ho3.out.cell (p := ⟨B2, 1, none⟩) HB2.out (by rintro (e | e); exact HBX.out e; exact HBG.out _ e rfl)).trans K2.out
      clear hE hn3 ho3 hw2
      go_wp2_with fail
      refine (uint_at hw3.out y hy (by have := HLn.out; rw [List.length_append, wideL_length]; omega)).mono ?_
      rintro e W4 ⟨rfl, g4, hw4, _, _⟩
      go_wp2
      go_roundw
      case rel => exact ⟨k + 1, g4, by omega, by go_num, Lib.hid (by rw [HT.out, ← List.append_assoc, ← List.append_assoc]; exact hw4.out)⟩
      case measure => simp [intOf]; omega
    · obtain rfl : k = n := by omega
      have g2 : ¬ (k : Int) < (k : Int) := by omega
      have HTk := Lib.hid (show s.take k = s by rw [← HN.out, List.take_length])
      go_wp2
      go_end0
      exact ⟨rfl, g1, Lib.hid (by rw [← HTk.out]; exact hw1.out)⟩
theorem set_two {W : World} {B : Nat} {a1 a2 : Value} {t : TypeId} (h : W.heap[B]? = some (.cells #[a1, a2] t (0, 0))) (v1 v2 : Value) : ((W.setCell ⟨B, 0, none⟩ v1).setCell ⟨B, 1, none⟩ v2).heap[B]? = some (.cells #[v1, v2] t (0, 0)) := by
  simp [World.setCell, Array.getElem?_modify, h]
set_option maxHeartbeats 2000000 in
theorem get_any (q : Nat) (d : Option Nat) (s : RS) (w : World) (h : Rd RdT w q d s.l s.bad) (hr : s.l.length ≤ 70368744177664) :
    Calls Try.prog 82 #[.pointer (some ⟨q, 0, none⟩)] w fun e w' => e = .returned (lifeV (gotL s).1) ∧ Hid (Rd RdT w' q d (gotL s).2.l (gotL s).2.bad) ∧ Hid (Only (fun k => k = q) w w') := by
  have B0 := Lib.hid ((Below.refl w.heap.size w).alloc (Nat.le_refl _) (.cells #[.int .i64 0, .int .u64 0] 24))
  have hq := h.lt
  have h1 := Lib.hid (h.keep (S := fun _ => False) (Only.ofBelow B0.out) (fun h => h) (fun _ _ h => h))
  have hB0 : (w.alloc (.cells #[.int .i64 0, .int .u64 0] 24)).heap[w.heap.size]? = some (.cells #[.int .i64 0, .int .u64 0] 24 (0, 0)) := heap_alloc_new w _
  have HB0 := Lib.hid hB0
  have HDl := Lib.hid h.dlt
  have HSz := Lib.hid (show (w.alloc (.cells #[.int .i64 0, .int .u64 0] 24)).heap.size = w.heap.size + 1 by simp)
  clear hB0
  have HQ := Lib.hid hq
  have HRl := Lib.hid (Nat.le_trans (rWide_le s 1) hr)
  have HG := Lib.hid (show gotL s = if mayL (((rWide s 1).1 : Int), ((rUint (rWide s 1).2).1 : Int)) then ((((rWide s 1).1 : Int), ((rUint (rWide s 1).2).1 : Int)), (rUint (rWide s 1).2).2) else ((0, 0), ⟨(rUint (rWide s 1).2).2.l, true⟩) from rfl)
  generalize gotL s = gs at *
  clear h hq hr
  go_enter Try.func82, Try.ntmps82
  go_wp2_with fail
  refine (ru8_any q d s _ h1.out).mono ?_
  rintro e W1 ⟨rfl, r1, o1⟩
  have hlt1 := rWide_lt s 1
  generalize (rWide s 1).1 = x at *
  generalize (rWide s 1).2 = s1 at *
  have hx : x < 256 := by simpa using hlt1
  have e1 : IntKind.i64.wrap (x : Int) = (x : Int) := by simp [IntKind.wrap, IntKind.bits, IntKind.signed]; omega
  clear h1 hlt1
  go_wp2_with fail
  refine (uint_any q d s1 W1 r1.out HRl.out).mono ?_
  rintro e W2 ⟨rfl, r2, o2⟩
  generalize (rUint s1).1 = y at *
  generalize (rUint s1).2 = s2 at *
  generalize hB : w.heap.size = B at *
  have HB := Lib.hid hB
  have hqB : ¬ B = q := by have := HQ.out; omega
  have b1 := (o1.out.block B (by rw [HSz.out]; omega) hqB).trans HB0.out
  have b2 := Lib.hid ((o2.out.block B (lt_of_heap b1) hqB).trans b1)
  have oo := Lib.hid (show Only (fun k => k = q) w W2 from ((Only.ofBelow (S := fun k => k = q) (by rw [← hB] at B0; exact B0.out)).trans o1.out fun _ _ h => h).trans o2.out fun _ _ h => h)
  have HqB := Lib.hid hqB
  clear hB b1 o1 o2 r1 HB0 B0 HSz hqB
  obtain ⟨x1, x2⟩ := one_new W2 (x : Int) (y : Int)
  have B3 := Lib.hid ((Below.refl W2.heap.size W2).alloc (Nat.le_refl _) (.cells #[.int .i64 (x : Int), .int .u64 (y : Int)] 24))
  have HMay := Lib.hid (fun W => may_any ((x : Int), (y : Int)) (by simp only; omega) W)
  go_wp2_with fail
  generalize W2.alloc (.cells #[.int .i64 (x : Int), .int .u64 (y : Int)] 24) = W3 at *
  refine (HMay.out W3).mono ?_
  rintro e W4 ⟨rfl, hb4⟩
  have B4 := Lib.hid (btr B3.out hb4.out)
  have y1 := cell_below x1 hb4.out
  have y2 := cell_below x2 hb4.out
  have b4 := Lib.hid ((B4.out.block B (lt_of_heap b2.out)).trans b2.out)
  have r4 := Lib.hid (r2.out.keep (S := fun _ => False) (Only.ofBelow B4.out) (fun h => h) (fun _ _ h => h))
  have o4 := Lib.hid (oo.out.trans (Only.ofBelow (S := fun k => k = q) B4.out) fun _ _ h => h)
  clear x1 x2 hb4 B3 B4 r2 oo b2 HMay
  by_cases hm : mayL ((x : Int), (y : Int))
  · have HG2 := HG.out
    rw [if_pos hm] at HG2
    subst HG2
    rw [decide_eq_true hm]
    have z1 : W4.cell? ⟨B, 0, none⟩ = some (.int .i64 0) := by simpa using cell_plain b4.out 0
    have z2 : W4.cell? ⟨B, 1, none⟩ = some (.int .u64 0) := by simpa using cell_plain b4.out 1
    have f1 : W4.frozen? ⟨B, 0, none⟩ = false := frozen_plain b4.out 0
    have f2 : W4.frozen? ⟨B, 1, none⟩ = false := frozen_plain b4.out 1
    have O5 := Lib.hid (((Only.refl (fun k => k = B) W4).setCell (p := ⟨B, 0, none⟩) (.inl rfl) (.int .i64 (x : Int))).setCell (p := ⟨B, 1, none⟩) (.inl rfl) (.int .u64 (y : Int)))
    clear hm HG
    go_wp2
    have HF := set_two b4.out (.int .i64 (x : Int)) (.int .u64 (y : Int))
    (try simp only [Exit.inBlock, Exit.then])
    refine bodyPost_ret (results_cell_row rfl _ _ B 24 #[.int .i64 (x : Int), .int .u64 (y : Int)] (0, 0) _ rfl HF Try.underlying24 rfl (by kernel_rfl)) rfl ?_
    exact ⟨rfl, Lib.hid (r4.out.keep (S := fun k => k = B) O5.out (fun e => HqB.out e.symm) (fun k e e2 => by have := HDl.out k e; omega)), Lib.hid ((o4.out.setCell (p := ⟨B, 0, none⟩) (.inr (Nat.le_of_eq HB.out)) _).setCell (p := ⟨B, 1, none⟩) (.inr (Nat.le_of_eq HB.out)) _)⟩
  · have HG2 := HG.out
    rw [if_neg hm] at HG2
    subst HG2
    rw [decide_eq_false hm]
    clear hm HG
    go_wp2_with fail
    refine (fail_any q d s2.l s2.bad W4 r4.out).mono ?_
    rintro e W5 ⟨rfl, r5, o5⟩
    have b5 := Lib.hid ((o5.out.block B (lt_of_heap b4.out) HqB.out).trans b4.out)
    have z1 : W5.cell? ⟨B, 0, none⟩ = some (.int .i64 0) := by simpa using cell_plain b5.out 0
    have z2 : W5.cell? ⟨B, 1, none⟩ = some (.int .u64 0) := by simpa using cell_plain b5.out 1
    have f1 : W5.frozen? ⟨B, 0, none⟩ = false := frozen_plain b5.out 0
    have f2 : W5.frozen? ⟨B, 1, none⟩ = false := frozen_plain b5.out 1
    have O5 := Lib.hid (((Only.refl (fun k => k = B) W5).setCell (p := ⟨B, 0, none⟩) (.inl rfl) (.int .i64 0)).setCell (p := ⟨B, 1, none⟩) (.inl rfl) (.int .u64 0))
    have o6 := Lib.hid (o4.out.trans o5.out fun _ _ h => h)
    clear y1 y2 r4
    go_wp2
    have HF := set_two b5.out (.int .i64 0) (.int .u64 0)
    (try simp only [Exit.inBlock, Exit.then])
    refine bodyPost_ret (results_cell_row rfl _ _ B 24 #[.int .i64 0, .int .u64 0] (0, 0) _ rfl HF Try.underlying24 rfl (by kernel_rfl)) rfl ?_
    exact ⟨rfl, Lib.hid (r5.out.keep (S := fun k => k = B) O5.out (fun e => HqB.out e.symm) (fun k e e2 => by have := HDl.out k e; omega)), Lib.hid ((o6.out.setCell (p := ⟨B, 0, none⟩) (.inr (Nat.le_of_eq HB.out)) _).setCell (p := ⟨B, 1, none⟩) (.inr (Nat.le_of_eq HB.out)) _)⟩
end Go.Proofs.Ytgkldjolnbnehaa
/-
  The program's GetSet: a set's number, and so many lives. For Readers of at most 2^46 bytes.
-/
namespace Go.Proofs.Ytgkldjolnbnehaa
set_option maxRecDepth 20000
open Go.RowKit

set_option maxHeartbeats 2000000 in
theorem getset_new (q : Nat) (d : Option Nat) (s : RS) (m : Int) (w : World) (h : Rd RdT w q d s.l s.bad) (hr : s.l.length ≤ 70368744177664) :
    Calls Try.prog 67 #[.pointer (some ⟨q, 0, none⟩), .int .i64 m] w fun e w' => ∃ A c, e = .returned (.slice A (getSetL s m).1.length c) ∧ Hid (Lives w' w'.heap.size A (getSetL s m).1) ∧ Hid (A = none → c = 0) ∧ Hid (Rd RdT w' q d (getSetL s m).2.l (getSetL s m).2.bad) ∧ Hid (Only (fun k => k = q) w w') ∧ Hid (∀ k, blockOf A = some k → w.heap.size ≤ k) := by
  have H := Lib.hid h
  have HRl := Lib.hid (Nat.le_trans (rWide_le s 1) hr)
  have HG := Lib.hid (show getSetL s m = if m < ((rWide s 1).1 : Int) then ([], ⟨(rWide s 1).2.l, true⟩) else if setUpTo (gets (rWide s 1).1 (rWide s 1).2).1 (rWide s 1).1 then gets (rWide s 1).1 (rWide s 1).2 else ([], ⟨(gets (rWide s 1).1 (rWide s 1).2).2.l, true⟩) from rfl)
  generalize getSetL s m = gs at *
  clear h hr
  go_enter Try.func67, Try.ntmps67
  go_wp2_with fail
  refine (ru8_any q d s _ H.out).mono ?_
  rintro e W1 ⟨rfl, r1, o1⟩
  have hlt1 := rWide_lt s 1
  generalize (rWide s 1).1 = x at *
  generalize (rWide s 1).2 = s1 at *
  have hx : x < 256 := by simpa using hlt1
  have e1 : IntKind.i64.wrap (x : Int) = (x : Int) := by simp [IntKind.wrap, IntKind.bits, IntKind.signed]; omega
  clear H hlt1
  by_cases hm : m < (x : Int)
  · have HG2 := HG.out
    rw [if_pos hm] at HG2
    subst HG2
    clear HG
    go_wp2_with fail
    refine (fail_any q d s1.l s1.bad W1 r1.out).mono ?_
    rintro e W5 ⟨rfl, r5, o5⟩
    go_wp2
    go_ret
    exact ⟨none, 0, rfl, Lib.hid Lives.nil_, Lib.hid (fun _ => rfl), r5, Lib.hid (o1.out.trans o5.out fun _ _ h => h), Lib.hid (fun k e => by cases e)⟩
  · have HG2 := HG.out
    rw [if_neg hm] at HG2
    have HG3 := Lib.hid HG2
    clear HG HG2
    go_wp2
    go_loopw [6, 16] (fun sl i wr => ∃ k : Nat, ∃ A' c', k ≤ x ∧ sl = .slice A' k c' ∧ i = .int .i64 k ∧ Hid (OwnP wr W1.heap.size A' k c' (gets k s1).1) ∧ Hid (Rd RdT wr q d (gets k s1).2.l (gets k s1).2.bad) ∧ Hid (Only (fun k => k = q) W1 wr)) (fun _ i _ => x - (intOf i).toNat)
    case atStart => exact ⟨0, none, 0, Nat.zero_le _, rfl, rfl, Lib.hid OwnP.nil_, r1, Lib.hid (Only.refl _ _)⟩
    case round =>
      obtain ⟨k, A2, c2, hk, rfl, rfl, ho2, r2, o2⟩ := hrel
      by_cases hlt : k < x
      · have g1 : (k : Int) < (x : Int) := by omega
        have HGk := Lib.hid (show gets (k + 1) s1 = ((gets k s1).1 ++ [(gotL (gets k s1).2).1], (gotL (gets k s1).2).2) from rfl)
        have HL2 := Lib.hid (Nat.le_trans (gets_le k s1) HRl.out)
        have HGet := Lib.hid (get_any q d (gets k s1).2 wr r2.out HL2.out)
        have hqlt := r1.out.lt
        have hdlt := Lib.hid r1.out.dlt
        generalize gotL (gets k s1).2 = y at *
        obtain ⟨⟨y1, y2⟩, y3⟩ := y
        simp only at HGet HGk
        go_wp2_with fail
        refine HGet.out.mono ?_
        rintro e W3 ⟨rfl, r3, o3⟩
        have ho3 := Lib.hid (ho2.out.keep o3.out (fun k e e2 => by have := ho2.out.base' k e; omega))
        have o4 := Lib.hid (o2.out.trans o3.out fun _ _ h => h)
        have HN := Lib.hid (lives_new W3 [(y1, y2)])
        have B5 := Lib.hid ((Below.refl W3.heap.size W3).alloc (Nat.le_refl _) (.cells (flatP [(y1, y2)]).toArray 24))
        have ho5 := Lib.hid (ho3.out.on B5.out)
        have o5 := Lib.hid (o4.out.trans (Only.ofBelow (S := fun k => k = q) B5.out) fun _ _ h => h)
        have r5 := Lib.hid (r3.out.keep (S := fun _ => False) (Only.ofBelow B5.out) (fun h => h) (fun _ _ h => h))
        clear HGet r2 r3 ho2 ho3 o2 o3 o4
        go_wp2_with (at_builtin; refine wpList_appendP rfl _ _ rfl W1.heap.size A2 k c2 _ rfl ?qc0 ho5.out (some ⟨W3.heap.size, 0, none⟩) 1 1 _ [(y1, y2)] rfl rfl (fun e => by cases e) HN.out (by omega) ?_)
        case qc0 => exact o5.out.size
        intro A6 c6 W6 e1 e2 e3
        go_wp2
        go_roundw
        case rel => exact ⟨k + 1, A6, c6, by omega, rfl, by go_num, Lib.hid (by rw [HGk.out]; exact e1.out), Lib.hid (by rw [HGk.out]; exact r5.out.keep e2.out (fun e => by have := ho5.out.base' _ e; omega) (fun k hk e => by have := ho5.out.base' _ e; have := hdlt.out k hk; omega)), Lib.hid (o5.out.trans e2.out (fun k hk e => by have := ho5.out.base' _ e; omega))⟩
        case measure => simp [intOf]; omega
      · obtain rfl : k = x := by omega
        have g1 : ¬ (k : Int) < (k : Int) := by omega
        have HP := Lib.hid (gets_pos k s1)
        have HLn := Lib.hid (gets_length k s1)
        generalize gets k s1 = gk at *
        obtain ⟨Lk, sk⟩ := gk
        simp only at HG3 ho2 r2 HP HLn
        have HS := Lib.hid (set_any A2 Lk k c2 wr ho2.out.lives HLn.out (by omega) HP.out)
        by_cases hs : setUpTo Lk k
        · have HG4 := HG3.out
          rw [if_pos hs] at HG4
          subst HG4
          rw [decide_eq_true hs] at HS
          clear HG3 hs
          go_wp2_with fail
          refine HS.out.mono ?_
          rintro e W5 ⟨rfl, b5⟩
          go_wp2
          go_ret
          exact ⟨A2, c2, by simp only [HLn.out]; rfl, Lib.hid (ho2.out.on b5.out).lives, Lib.hid (ho2.out.none_cap), Lib.hid (r2.out.keep (S := fun _ => False) (Only.ofBelow b5.out) (fun h => h) (fun _ _ h => h)), Lib.hid ((o1.out.trans o2.out fun _ _ h => h).trans (Only.ofBelow (S := fun k => k = q) b5.out) fun _ _ h => h), Lib.hid (fun k e => Nat.le_trans o1.out.size (ho2.out.base' k e))⟩
        · have HG4 := HG3.out
          rw [if_neg hs] at HG4
          subst HG4
          rw [decide_eq_false hs] at HS
          clear HG3 hs
          go_wp2_with fail
          refine HS.out.mono ?_
          rintro e W5 ⟨rfl, b5⟩
          have r5 := Lib.hid (r2.out.keep (S := fun _ => False) (Only.ofBelow b5.out) (fun h => h) (fun _ _ h => h))
          have o5 := Lib.hid ((o1.out.trans o2.out fun _ _ h => h).trans (Only.ofBelow (S := fun k => k = q) b5.out) fun _ _ h => h)
          go_wp2_with fail
          refine (fail_any q d sk.l sk.bad W5 r5.out).mono ?_
          rintro e W6 ⟨rfl, r6, o6⟩
          go_wp2
          go_ret
          exact ⟨none, 0, rfl, Lib.hid Lives.nil_, Lib.hid (fun _ => rfl), r6, Lib.hid (o5.out.trans o6.out fun _ _ h => h), Lib.hid (fun k e => by cases e)⟩
theorem getset_any (q : Nat) (d : Option Nat) (s : RS) (m : Int) (w : World) (h : Rd RdT w q d s.l s.bad) (hr : s.l.length ≤ 70368744177664) :
    Calls Try.prog 67 #[.pointer (some ⟨q, 0, none⟩), .int .i64 m] w fun e w' => ∃ A c, e = .returned (.slice A (getSetL s m).1.length c) ∧ Hid (Lives w' w'.heap.size A (getSetL s m).1) ∧ Hid (A = none → c = 0) ∧ Hid (Rd RdT w' q d (getSetL s m).2.l (getSetL s m).2.bad) ∧ Hid (Only (fun k => k = q) w w') :=
  (getset_new q d s m w h hr).mono fun _ _ ⟨A, c, h1, h2, h3, h4, h5, _⟩ => ⟨A, c, h1, h2, h3, h4, h5⟩
end Go.Proofs.Ytgkldjolnbnehaa
/-
  An argument of lists of lives, opened. No condition.
-/
namespace Go.Proofs.Ytgkldjolnbnehaa
set_option maxRecDepth 20000
open Go.ChangeShapes Go.WideShapes Go.ChangeAt Go.WideMaps Go.WideElems Go.RowKit

theorem cellsRow : Try.prog.cellsOf 27 = 1 := by kernel_rfl
section
variable {H : Type} {enc : TypeId × Value → H} {W : World} {base : Nat} {v : Value} {d : DataW H} {p : List MemPlace}
theorem row_lives {fuel : Nat} {x : DataW H × List MemPlace} (hf : DataW.trod enc Try.prog W 0 (fun _ => true) true fuel 27 [v] = some x) :
    ∃ (A : Option Addr) (aks : List (Int × Int)) (cap : Nat), v = .slice A aks.length cap ∧ aks.length ≤ maxLen ∧ Lives W W.heap.size A aks ∧ (A = none → cap = 0) ∧ ∀ a ∈ aks, I64 a.1 ∧ 0 ≤ a.2 ∧ a.2 < 18446744073709551616 := by
  rcases Deep.open_slice_pairs Try.underlying27 Try.underlying24 cellsLife rfl rfl cellsInt cells64 hf with ⟨hcs, _⟩ | ⟨a, len, cap, m, n, V0, V1, D0, D1, P0, P1, hcs, _, hl, hm, hmm, _, hcell⟩
  · obtain rfl : v = .slice none 0 0 := by simpa using hcs
    exact ⟨none, [], 0, rfl, by simp, Lives.nil_, fun _ => rfl, fun s hs => by cases hs⟩
  · obtain rfl : v = .slice (some a) len cap := by simpa using hcs
    simp only [if_true] at hmm
    have hi : ∀ i, i < m → ∃ x y : Int, V0 i = .int .i64 x ∧ V1 i = .int .u64 y ∧ I64 x ∧ 0 ≤ y ∧ y < 18446744073709551616 := fun i hi => by
      obtain ⟨_, _, t0, t1⟩ := hcell i hi
      obtain ⟨x, hx, _, wx⟩ := DataW.trod_int Try.underlying3 t0
      obtain ⟨y, hy, _, wy⟩ := DataW.trod_int Try.underlying22 t1
      obtain ⟨y', rfl, hy'⟩ := wf_u64 wy
      exact ⟨x, y', by simpa using hx, by simpa using hy, wf_i64 wx, by omega, by omega⟩
    have hv0 : ∀ i, i < m → V0 i = .int .i64 (intOf (V0 i)) ∧ V1 i = .int .u64 (intOf (V1 i)) ∧ I64 (intOf (V0 i)) ∧ 0 ≤ intOf (V1 i) ∧ intOf (V1 i) < 18446744073709551616 := fun i hi' => by
      obtain ⟨x, y, e1, e2, h1, h2⟩ := hi i hi'
      rw [e1, e2]
      exact ⟨rfl, rfl, h1, h2⟩
    refine ⟨some a, (List.range len).map fun i => (intOf (V0 i), intOf (V1 i)), cap, by simp, by simp; omega, fun hn => ?_, fun e => (by cases e), fun s hs => ?_⟩
    · have hn' : 0 < m := by simp at hn; omega
      obtain ⟨b, off, rfl⟩ : ∃ b off, a = ⟨b, off, none⟩ := by
        have h0 := (hcell 0 hn').1
        obtain ⟨b, off, spot⟩ := a
        have hspot : spot = none := by simpa [Addr.add] using World.cell?_spot h0
        subst hspot
        exact ⟨b, off, rfl⟩
      refine ⟨b, off, rfl, ?_, fun k hk => ?_⟩
      · have h0 := (hcell 0 hn').1
        rw [add_mk] at h0
        exact World.block_lt_of_cell? _ _ h0
      · have hk1 : k < len := by simpa using hk
        obtain ⟨h1, h2, _⟩ := hcell k (by omega)
        obtain ⟨e1, e2, _⟩ := hv0 k (by omega)
        rw [add_mk] at h1 h2
        have hg : (((List.range len).map fun i => (intOf (V0 i), intOf (V1 i))).getD k (0, 0)) = (intOf (V0 k), intOf (V1 k)) := by simp [List.getD, hk1]
        rw [atL, hg, h1, Nat.add_assoc, h2]
        exact ⟨by rw [← e1], by rw [← e2]⟩
    · obtain ⟨i, hi', rfl⟩ := List.mem_map.1 hs
      exact (hv0 i (by have := List.mem_range.1 hi'; omega)).2.2
end
end Go.Proofs.Ytgkldjolnbnehaa
