/-
  The statement ProcSorts' walk: whatever list and life, it answers true, and leaves all that was there as it was. For lists whose lives' numbers are not below 0.
-/
import Derived.Test.YtadpbcbgmopfaaaPnodes
import Derived.Test.YtadpbcbgmopfaaaPlst
import Derived.Test.YtadpbcbgmopfaaaPawake
import Derived.Test.YtadpbcbgmopfaaaPrset
namespace Go.Proofs.Ytadpbcbgmopfaaa
set_option maxRecDepth 20000
open Go.RowKit

theorem requal_true {W : World} {A1 A2 : Option Addr} {a : List Life} {n1 c1 n2 c2 : Nat} (h1 : Lives W W.heap.size A1 a) (h2 : Lives W W.heap.size A2 a) (hn1 : a.length = n1) (hn2 : a.length = n2) (hb : n1 ≤ 1099511627776) :
    Calls Try.prog 44 #[.slice A1 n1 c1, .slice A2 n2 c2] W fun e w' => e = .returned (.bool true) ∧ Hid (Below W.heap.size W w') := by
  have h := requal_any A1 a n1 c1 A2 a n2 c2 W h1 h2 hn1 hn2 hb (by omega)
  rwa [decide_eq_true rfl] at h
theorem rsorted_lst {W : World} {N1 n1 c1 : Nat} {A1 : Option Addr} {a : List Life} (h1 : Lst W N1 A1 n1 c1 a) (hN : N1 ≤ 274877906944) :
    Calls Try.prog 45 #[.slice A1 n1 c1] W fun e w' => ∃ A' c' m, e = .returned (.slice A' m c') ∧ Hid (Lst w' N1 A' m c' (setL a)) ∧ Hid (Below W.heap.size W w') := by
  refine (rsorted_any A1 a n1 c1 W h1.lives h1.len (Nat.le_trans h1.le hN)).mono ?_
  rintro e w' ⟨A', c', m, rfl, ho, hm, hb⟩
  exact ⟨A', c', m, rfl, Lib.hid ⟨ho.out.lives, ho.out.len, Nat.le_trans hm.out h1.le, ho.out.none_cap⟩, hb⟩
set_option maxHeartbeats 8000000 in
theorem sorts_walk (A : Option Addr) (l : List Life) (c : Nat) (p : Life) (w : World) (h : Lives w w.heap.size A l) (hA : A = none → c = 0) (hm : l.length ≤ 9223372036854775807) (hpos : ∀ q ∈ l, 0 ≤ q.2) :
    Calls Try.prog 10 #[.slice A l.length c, lifeV p] w fun e w' => e = .returned (.bool true) ∧ Hid (Below w.heap.size w w') := by
  have B1 := Lib.hid ((Below.refl w.heap.size w).alloc (Nat.le_refl _) (.cells #[.int .i64 p.1, .int .u64 p.2] 70))
  have kk1 := Lib.hid (one_new w p.1 p.2)
  have ha0 := Lib.hid ((show Lst w 9223372036854775807 A l.length c l from ⟨h, rfl, hm, hA⟩).on B1.out)
  have HP := Lib.hid hpos
  clear h hA hpos
  obtain ⟨p1, p2⟩ := p
  simp only at B1 kk1 ha0
  have HLa := Lib.hid (show heavyB [l] = false → l.length ≤ 300 from fun h => light_at h 0 (by simp))
  have HSz := Lib.hid (show (w.alloc (.cells #[.int .i64 p1, .int .u64 p2] 70)).heap.size = w.heap.size + 1 by simp)
  have HH0 := heavy_any (some ⟨(w.alloc (.cells #[.int .i64 p1, .int .u64 p2] 70)).heap.size, 0, none⟩) [l] 1 1 _ (lists_one ha0.out) rfl (by omega)
  rw [HSz.out] at HH0
  have HH := Lib.hid HH0
  have BW0 := Lib.hid ((Below.refl (w.alloc (.cells #[.int .i64 p1, .int .u64 p2] 70)).heap.size (w.alloc (.cells #[.int .i64 p1, .int .u64 p2] 70))).alloc (Nat.le_refl _) (.cells #[.slice A l.length c] 74))
  clear HH0
  generalize hn1 : l.length = n at *
  clear hm
  go_enter Try.func10, Try.ntmps10
  go_wp2_with fail
  refine HH.out.mono ?_
  rintro e V0 ⟨rfl, rfl⟩
  have HN := Lib.hid hn1
  clear HH hn1
  cases hv : heavyB [l] with
  | true =>
    go_wp2_with fail
    refine (awake3_any _).mono ?_
    rintro e V1 ⟨rfl, hb1⟩
    go_wp2
    go_ret
    exact ⟨rfl, Lib.hid (btr B1.out (btr BW0.out hb1.out))⟩
  | false =>
    have hn300 := HLa.out hv
    have ha := Lib.hid (show Lst _ 300 A n c l from ⟨(ha0.out.on BW0.out).lives, ha0.out.len, hn300, ha0.out.cap⟩)
    have BW := Lib.hid (btr B1.out BW0.out)
    have k1 := Lib.hid (cell_below kk1.out.1 BW0.out)
    have k2 := Lib.hid (cell_below kk1.out.2 BW0.out)
    clear hv HLa ha0 hn300 B1 BW0 kk1 HSz
    generalize (w.alloc (.cells #[.int .i64 p1, .int .u64 p2] 70)).alloc (.cells #[.slice A n c] 74) = V at *
    go_wp2_with (at_builtin; refine wpList_appendP rfl _ _ rfl V.heap.size _ 0 _ [] rfl (by simp) (World.ownsRow_made V #[] 0 (Nat.le_refl _) (Nat.zero_le _) (by simp)) A n c V.heap.size l rfl ha.out.len ha.out.cap (ha.out.lives.below ((Below.refl _ V).alloc (Nat.le_refl _) _)) (by have := ha.out.le; omega) ?_)
    intro A1 c1 W1 r1 r2 r3
    have B1 := Lib.hid (r2.out.below ((Below.refl V.heap.size V).alloc (Nat.le_refl _) _) (by rintro k e; simp [blockOf] at e; omega) (by simp))
    have r1 := Lib.hid (show OwnP W1 V.heap.size A1 n c1 l from by simpa using r1.out)
    have ho := Lib.hid (show Lst W1 300 A1 n c1 l from ⟨r1.out.lives, ha.out.len, ha.out.le, r1.out.none_cap⟩)
    have ha1 := Lib.hid (ha.out.on B1.out)
    have BW1 := Lib.hid (btr BW.out B1.out)
    have m1 := Lib.hid (cell_below k1.out B1.out)
    have m2 := Lib.hid (cell_below k2.out B1.out)
    clear r1 r2 r3 ha BW k1 k2 B1
    go_wp2_with fail
    refine (sorted_lst ho.out (by omega)).mono ?_
    rintro e W2 ⟨A2, c2, t2, rfl, hs, hb2⟩
    have ho2 := Lib.hid (ho.out.on hb2.out)
    have ha2 := Lib.hid (ha1.out.on hb2.out)
    have BW2 := Lib.hid (btr BW1.out hb2.out)
    have k1 := cell_below m1.out hb2.out
    have k2 := cell_below m2.out hb2.out
    clear ho ha1 BW1 m1 m2 hb2
    have HNle := Lib.hid (show (nodesOf l).length ≤ 1099511627776 from by
      have h1 := List.length_filter_le (Lib.keeps (fstL (setL l)).toArray) (List.range (setL l).length)
      have h2 := setL_length l
      have h3 := ho2.out.le
      have h4 := ho2.out.len
      simp only [nodesOf, Lib.compactUpTo, List.length_map, List.length_range] at *
      omega)
    have HSet := Lib.hid (fun W (hW : Below W2.heap.size W2 W) => set_any A1 l n c1 W (ho2.out.on hW).lives ho2.out.len (by have := ho2.out.le; omega) HP.out)
    have HRSet := Lib.hid (fun W (hW : Below W2.heap.size W2 W) => rset_any A l n c W (ha2.out.on hW).lives ha2.out.len (by have := ha2.out.le; omega) HP.out)
    have HHas := Lib.hid (fun W (hW : Below W2.heap.size W2 W) => has_any A1 l n c1 (p1, p2) W (ho2.out.on hW).lives ho2.out.len (by have := ho2.out.le; omega))
    have HRHas := Lib.hid (fun W (hW : Below W2.heap.size W2 W) => rhas_any A l n c (p1, p2) W (ha2.out.on hW).lives ha2.out.len (by have := ha2.out.le; omega))
    have HNod := Lib.hid (fun W (hW : Below W2.heap.size W2 W) => nodes_any A1 l n c1 W (ho2.out.on hW).lives ho2.out.len (by have := ho2.out.le; omega) ho2.out.cap)
    have HRNod := Lib.hid (fun W (hW : Below W2.heap.size W2 W) => rnodes_any A l n c W (ha2.out.on hW).lives ha2.out.len (by have := ha2.out.le; omega))
    generalize decide (setUpTo l n) = rs at *
    generalize decide (((p1, p2) : Life) ∈ l) = rh at *
    have e1 : (rs != rs) = false := by simp
    have e2 : (rh != rh) = false := by simp
    generalize hB : w.heap.size = B at k1 k2 ⊢
    have HB := Lib.hid hB
    clear hB
    have BB : Hid (Below W2.heap.size W2 W2.drew) := Lib.hid ⟨rfl, rfl, rfl, Nat.le_refl _, fun _ _ => rfl⟩
    have kk : Hid (W2.drew.cell? ⟨B, 0, none⟩ = some (.int .i64 p1) ∧ W2.drew.cell? ⟨B, 1, none⟩ = some (.int .u64 p2)) := Lib.hid ⟨k1, k2⟩
    go_wp2_with fail
    go_region_held (fun w' => w'.cell? ⟨B, 0, none⟩ = some (.int .i64 p1) ∧ w'.cell? ⟨B, 1, none⟩ = some (.int .u64 p2)) (first | go_keep | exact kk.out)
      (first | (go_at_call 45; refine (rsorted_lst (ha2.out.on BB.out) (by omega)).mono ?_; rintro e Va ⟨Ax, cx, mx, rfl, hx, hb⟩; have BB := Lib.hid (btr BB.out hb.out); have kk := Lib.hid (show Va.cell? ⟨B, 0, none⟩ = some (.int .i64 p1) ∧ Va.cell? ⟨B, 1, none⟩ = some (.int .u64 p2) from ⟨cell_below kk.out.1 hb.out, cell_below kk.out.2 hb.out⟩)) | (go_at_call 44; refine (requal_true (hs.out.on BB.out).lives hx.out.lives hs.out.len hx.out.len (by have := hs.out.le; omega)).mono ?_; rintro e Vb ⟨rfl, hb⟩; have BB := Lib.hid (btr BB.out hb.out); have kk := Lib.hid (show Vb.cell? ⟨B, 0, none⟩ = some (.int .i64 p1) ∧ Vb.cell? ⟨B, 1, none⟩ = some (.int .u64 p2) from ⟨cell_below kk.out.1 hb.out, cell_below kk.out.2 hb.out⟩)) | (go_at_call 46; refine (HSet.out _ BB.out).mono ?_; rintro e Vc ⟨rfl, hb⟩; have BB := Lib.hid (btr BB.out hb.out); have kk := Lib.hid (show Vc.cell? ⟨B, 0, none⟩ = some (.int .i64 p1) ∧ Vc.cell? ⟨B, 1, none⟩ = some (.int .u64 p2) from ⟨cell_below kk.out.1 hb.out, cell_below kk.out.2 hb.out⟩)) | (go_at_call 47; refine (HRSet.out _ BB.out).mono ?_; rintro e Vd ⟨rfl, hb⟩; have BB := Lib.hid (btr BB.out hb.out); have kk := Lib.hid (show Vd.cell? ⟨B, 0, none⟩ = some (.int .i64 p1) ∧ Vd.cell? ⟨B, 1, none⟩ = some (.int .u64 p2) from ⟨cell_below kk.out.1 hb.out, cell_below kk.out.2 hb.out⟩)) | (go_at_call 48; refine (HHas.out _ BB.out).mono ?_; rintro e Ve ⟨rfl, hb⟩; have BB := Lib.hid (btr BB.out hb.out); have kk := Lib.hid (show Ve.cell? ⟨B, 0, none⟩ = some (.int .i64 p1) ∧ Ve.cell? ⟨B, 1, none⟩ = some (.int .u64 p2) from ⟨cell_below kk.out.1 hb.out, cell_below kk.out.2 hb.out⟩)) | (go_at_call 49; refine (HRHas.out _ BB.out).mono ?_; rintro e Vf ⟨rfl, hb⟩; have BB := Lib.hid (btr BB.out hb.out); have kk := Lib.hid (show Vf.cell? ⟨B, 0, none⟩ = some (.int .i64 p1) ∧ Vf.cell? ⟨B, 1, none⟩ = some (.int .u64 p2) from ⟨cell_below kk.out.1 hb.out, cell_below kk.out.2 hb.out⟩)) | (go_at_call 51; refine (HNod.out _ BB.out).mono ?_; rintro e Vg ⟨A3, c3, m3, rfl, hm3, hi3, hb⟩; have BB := Lib.hid (btr BB.out hb.out); have kk := Lib.hid (show Vg.cell? ⟨B, 0, none⟩ = some (.int .i64 p1) ∧ Vg.cell? ⟨B, 1, none⟩ = some (.int .u64 p2) from ⟨cell_below kk.out.1 hb.out, cell_below kk.out.2 hb.out⟩)) | (go_at_call 52; refine (HRNod.out _ BB.out).mono ?_; rintro e Vh ⟨A4, c4, m4, rfl, hm4, hi4, hb⟩; have hi3 := Lib.hid (hi3.out.below hb.out); have BB := Lib.hid (btr BB.out hb.out); have kk := Lib.hid (show Vh.cell? ⟨B, 0, none⟩ = some (.int .i64 p1) ∧ Vh.cell? ⟨B, 1, none⟩ = some (.int .u64 p2) from ⟨cell_below kk.out.1 hb.out, cell_below kk.out.2 hb.out⟩)) | (go_at_call 50; refine (ints_any A3 (nodesOf l) m3 c3 A4 (nodesOf l) m4 c4 _ hi3.out hi4.out hm3.out hm4.out rfl (by rw [← hm3.out]; exact HNle.out)).mono ?_; rintro e Vi ⟨rfl, hb⟩; have BB := Lib.hid (btr BB.out hb.out); have kk := Lib.hid (show Vi.cell? ⟨B, 0, none⟩ = some (.int .i64 p1) ∧ Vi.cell? ⟨B, 1, none⟩ = some (.int .u64 p2) from ⟨cell_below kk.out.1 hb.out, cell_below kk.out.2 hb.out⟩)))
    all_goals
      go_wp2_with fail
      refine (requal_true (ho2.out.on BB.out).lives (ha2.out.on BB.out).lives ho2.out.len ha2.out.len (by have := ha2.out.le; omega)).mono ?_
      rintro e Y1 ⟨rfl, hy1⟩
      go_wp2_with fail
      refine (awake3_any _).mono ?_
      rintro e Y2 ⟨rfl, hy2⟩
      go_wp2
      go_ret
      exact ⟨rfl, Lib.hid (btr BW2.out (btr BB.out (btr hy1.out hy2.out)))⟩
end Go.Proofs.Ytadpbcbgmopfaaa
