/-
  The program's Sorted: the lives of a list in their order, each once, in new memory. For lists of at most 2^40 lives.
-/
import Derived.Test.YtadpbcbgmopfaaaPcompact
import Derived.Test.YtadpbcbgmopfaaaLaid
import Derived.Shelf.SlSortCmp.WholeK
import Derived.Shelf.SlSortCmp.NoneTotal
namespace Go.Proofs.Ytadpbcbgmopfaaa
set_option maxRecDepth 20000
open Go.RowKit
open Go.Lib (keeps compactUpTo CompInv)
open Go.Sort (HoldsK putRowK flatK SWO PermIn SortedIn)

theorem swoL : SWO (ltOf cmpL) where
  irrefl x := by simp only [ltOf]; exact decide_eq_false (by rw [cmpL_lt]; exact before_irrefl x)
  trans x y z h1 h2 := by
    simp only [ltOf, decide_eq_true_iff, cmpL_lt] at *
    exact before_trans h1 h2
  ntrans x y z h1 h2 := by
    simp only [ltOf, decide_eq_false_iff_not, cmpL_lt] at *
    intro h
    rcases before_total x y with h3 | h3 | h3
    · exact h1 h3
    · subst h3; exact h2 h
    · exact h2 (before_trans h3 h)
theorem cmpLaysL (blk off size : Nat) (w : World) : CmpLays Try.prog 97 #[] encP 2 cmpL blk off size w := fun _ _ _ _ x y => order_any x y _
theorem encP_len (x : Life) : (encP x).length = 2 := rfl
theorem encP_one (x : Life) : ∀ v ∈ encP x, v.oneCell' = true := by
  intro v hv
  simp [encP] at hv
  rcases hv with rfl | rfl <;> rfl
theorem holdsK_of {w : World} {g : Nat} {l : List Life} (h : ∀ j v, (flatP l)[j]? = some v → w.cell? ⟨g, j, none⟩ = some v ∧ w.frozen? ⟨g, j, none⟩ = false) : HoldsK encP 2 w g 0 l.toArray := by
  intro j hj
  rw [Sort.size_flatK] at hj
  have hj' : j < l.length * 2 := by simpa using hj
  rw [Sort.get_flatK encP 2 l.toArray j (by simpa using hj), Nat.zero_add]
  have hg : l.toArray[j / 2]! = atL l (j / 2) := by
    rw [getElem!_pos l.toArray (j / 2) (by simp; omega), atL_lt (by omega)]
    simp
  rw [hg]
  obtain ⟨h1, h2⟩ := flatP_get l (j / 2) (by omega)
  rcases Nat.mod_two_eq_zero_or_one j with e | e
  · rw [show j / 2 * 2 = j by omega] at h1
    rw [e]
    exact h _ _ h1
  · rw [show j / 2 * 2 + 1 = j by omega] at h2
    rw [e]
    exact h _ _ h2
theorem rowP_of {w : World} {g : Nat} {d : Array Life} (h : HoldsK encP 2 w g 0 d) : RowP w g 0 d := fun t ht => by
  have h0 := h.cell (i := t) (c := 0) ht (by omega)
  have h1 := h.cell (i := t) (c := 1) ht (by omega)
  exact ⟨⟨h0.1, h1.1⟩, h0.2, h1.2⟩
theorem only_sortWorld (w : World) (g n : Nat) (d : Array Life) (os : Array Obj) : Only (fun k => k = g) w (sortWorldK encP 2 w g 0 n d os) := by
  refine ⟨rfl, rfl, rfl, ?_, fun k hk hne => ?_⟩
  · simp [sortWorldK, Sort.grow, putRowK, Sort.putRow, Sort.mapBlock, Sort.ahead]
  · have hk' : k < (putRowK encP 2 (Sort.ahead w n) g 0 d).heap.size := by simpa [putRowK, Sort.putRow, Sort.mapBlock, Sort.ahead] using hk
    simp only [sortWorldK, Sort.grow]
    rw [Array.getElem?_append_left hk']
    simp [putRowK, Sort.putRow, Sort.mapBlock, Sort.ahead, Array.getElem?_modify, Ne.symm hne]
/-- SortFunc at lives, by the program's order. -/
theorem sortP_any (g cap : Nat) (l : List Life) (n : Nat) (w : World) (hn : l.length = n) (hb : n ≤ 1099511627776) (hg : g < w.heap.size) (h : ∀ j v, (flatP l)[j]? = some v → w.cell? ⟨g, j, none⟩ = some v ∧ w.frozen? ⟨g, j, none⟩ = false) :
    Calls Try.prog 84 #[.slice (some ⟨g, 0, none⟩) n cap, orderV] w fun e w' => e = .returned (.tuple #[]) ∧
      ∃ d, Hid (d.size = n ∧ d.toList.Perm l ∧ ∀ i j, i < j → j < d.size → ¬ before d[j]! d[i]!) ∧ Hid (RowP w' g 0 d) ∧ Hid (Only (fun k => k = g) w w') := by
  have hsz : l.toArray.size = n := by simpa using hn
  have hcon := AnyQ.slices_SortFunc Try.sortP 2 Try.isAgg70 Try.sizeOf70 encP encP_len encP_one cmpL swoL 97 #[] g 0 cap l.toArray w enters_order (cmpLaysL g 0 l.toArray.size w) (holdsK_of h) hg (by omega)
  change Calls Try.prog 84 _ _ _ at hcon
  rw [hsz] at hcon
  refine hcon.mono ?_
  rintro e w' ⟨rfl, d, m, os, hp, hs, rfl⟩
  have hds : d.size = n := hp.1.trans hsz
  refine ⟨rfl, d, Lib.hid ⟨hds, ?_, fun i j hij hj => ?_⟩, Lib.hid (rowP_of ?_), Lib.hid (only_sortWorld w g m d os)⟩
  · have h3 := hp.2.2
    have e1 : d.extract 0 n = d := by rw [← hds]; simp
    have e2 : l.toArray.extract 0 n = l.toArray := by rw [← hsz]; simp
    rw [e1, e2] at h3
    simpa using h3
  · have := hs i j (Nat.zero_le _) hij (by omega)
    simp only [ltOf, decide_eq_false_iff_not, cmpL_lt] at this
    exact this
  · unfold sortWorldK
    refine Sort.holdsK_grow encP 2 _ os g 0 d (by simpa [putRowK, Sort.putRow, Sort.mapBlock, Sort.ahead] using hg) ?_
    exact Sort.holdsK_putRowK encP 2 _ g 0 l.toArray d (Sort.holdsK_ahead encP 2 w m g 0 _ (holdsK_of h)) (by rw [hds, hsz])
theorem sort_none (w : World) : Calls Try.prog 84 #[.slice none 0 0, orderV] w fun e w' => e = .returned (.tuple #[]) ∧ w' = w :=
  AnyF.slices_SortFunc_none Try.sortP none 0 orderV w
theorem compact_none (w : World) : Calls Try.prog 85 #[.slice none 0 0] w fun e w' => e = .returned (.slice none 0 0) ∧ w' = w := by
  go_enter Try.func85, Try.ntmps85
  go_wp2
  go_ret
  exact ⟨rfl, rfl⟩
set_option maxHeartbeats 1000000 in
theorem sorted_any (A : Option Addr) (l : List Life) (n c : Nat) (w : World) (h : Lives w w.heap.size A l) (hn : l.length = n) (hb : n ≤ 1099511627776) (hA : A = none → c = 0) :
    Calls Try.prog 43 #[.slice A n c] w fun e w' => ∃ A' c', e = .returned (.slice A' (setL l).length c') ∧ Hid (Lives w' w'.heap.size A' (setL l)) ∧ Hid (A' = none → c' = 0) ∧ Hid ((setL l).length ≤ c') ∧ Hid (Below w.heap.size w w') := by
  have HCL := Lib.hid (cloneP_any A l n c w h hn hb hA)
  have HN := Lib.hid hn
  clear h hn hA
  go_enter Try.func43, Try.ntmps43
  go_wp2_with fail
  refine HCL.out.mono ?_
  rintro e W1 ⟨A1, c1, rfl, ho, hb1⟩
  clear HCL
  have HF := Lib.hid ho.out.form
  have HCap := Lib.hid ho.out.cap_le
  go_wp2_with fail
  refine (order_is _).mono ?_
  rintro e w1 ⟨rfl, rfl⟩
  rcases HF.out with ⟨rfl, h0, rfl⟩ | ⟨g, rfl, hgb, hgl⟩
  · subst h0
    have hl : l = [] := List.eq_nil_of_length_eq_zero HN.out
    subst hl
    go_wp2_with fail
    refine (sort_none _).mono ?_
    rintro e W2 ⟨rfl, rfl⟩
    go_wp2_with fail
    refine (compact_none _).mono ?_
    rintro e W3 ⟨rfl, rfl⟩
    go_wp2
    go_ret
    exact ⟨none, 0, rfl, Lib.hid Lives.nil_, Lib.hid (fun _ => rfl), Lib.hid (Nat.le_refl _), hb1⟩
  · have HSrt := Lib.hid (sortP_any g c1 l n w1 HN.out hb hgl (fun j v hv => (ho.out.cells rfl).2 j v hv))
    have hgw := Lib.hid (show w.heap.size ≤ g from hgb)
    have hgl := Lib.hid hgl
    clear ho
    go_wp2_with fail
    refine HSrt.out.mono ?_
    rintro e W2 ⟨rfl, d, hd, hrow, hon⟩
    obtain ⟨hd1, hd2, hd3⟩ := hd.out
    have HCp := Lib.hid (compactP_any g 0 c1 d W2 hrow.out (Nat.lt_of_lt_of_le hgl.out hon.out.size) (by omega) (by rw [hd1]; exact HCap.out))
    rw [compact_set l d hd2 hd3, hd1] at HCp
    clear HSrt hd hd1 hd2 hd3 hrow
    go_wp2_with fail
    refine HCp.out.mono ?_
    rintro e W3 ⟨rfl, hon2, hlv⟩
    have HLen := Lib.hid (Nat.le_trans (setL_length l) (by rw [HN.out]; exact HCap.out))
    go_wp2
    go_ret
    exact ⟨_, _, rfl, hlv, Lib.hid (fun e => by cases e), HLen, Lib.hid ((hon.out.trans hon2.out fun _ _ h => h).below hb1.out (fun k e => by rw [e]; exact hgw.out) hb1.out.size)⟩
end Go.Proofs.Ytadpbcbgmopfaaa
