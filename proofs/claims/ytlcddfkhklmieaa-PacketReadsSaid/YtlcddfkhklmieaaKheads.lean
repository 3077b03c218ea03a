/-
  Whether a packet's heads may be, by the document's answer. For at most 100,000 heads.
-/
import Derived.Test.YtlcddfkhklmieaaKmem
import Derived.Test.YtlcddfkhklmieaaFmay
import Derived.Test.YtlcddfkhklmieaaGa
namespace Go.Proofs.Ytlcddfkhklmieaa
set_option maxRecDepth 20000
open Go.RowKit

theorem mbelow_box (w : World) (o : Obj) : Below w.heap.size w (w.alloc o) := (Below.refl w.heap.size w).alloc (Nat.le_refl _) o
theorem mtr {w W W' : World} (h : Below w.heap.size w W) (k : Below W.heap.size W W') : Below w.heap.size w W' := h.trans (k.mono h.size)
def KhGa (hb : Nat) (d : Int) (i : Nat) (_ : World) (v : Value) : Prop :=
  match i with
  | 0 => v = Value.pointer (some ⟨hb, 0, none⟩)
  | 1 => v = .int .i64 d
  | 2 => v = .bool false
  | 3 => v = .bool true
  | 4 => v = .bool true
  | 5 => v = undef
  | 6 => v = undef
  | 7 => v = undef
  | 8 => v = undef
  | 9 => v = undef
  | 10 => v = undef
  | 11 => v = .bool true
  | 12 => v = .bool true
  | 13 => v = undef
  | 14 => v = undef
  | 15 => v = undef
  | 16 => v = undef
  | 17 => v = undef
  | 18 => v = undef
  | 19 => v = undef
  | 20 => v = undef
  | 21 => v = undef
  | 22 => v = undef
  | 23 => v = undef
  | 24 => v = undef
  | 25 => v = undef
  | 26 => v = undef
  | _ => v = .bool true
theorem KhGa.mono {hb : Nat} {d : Int} {i : Nat} {v : Value} {w w' : World} (_ : Below w.heap.size w w') (h : KhGa hb d i w v) : KhGa hb d i w' v := by
  unfold KhGa at *
  exact h
def KhGb (hb pb : Nat) (d s : Int) (i : Nat) (_ : World) (v : Value) : Prop :=
  match i with
  | 0 => v = Value.pointer (some ⟨hb, 0, none⟩)
  | 1 => v = .int .i64 d
  | 2 => v = .bool true
  | 3 => v = .bool false
  | 4 => v = .bool false
  | 5 => v = Value.pointer (some ⟨hb, 0, none⟩)
  | 6 => v = .int .i64 d
  | 7 => v = Value.pointer (some ⟨pb, 1, none⟩)
  | 8 => v = Value.pointer (some ⟨pb, 1, none⟩)
  | 9 => v = .int .i64 s
  | 10 => v = .bool true
  | 11 => v = .bool true
  | 12 => v = .bool true
  | 13 => v = undef
  | 14 => v = undef
  | 15 => v = undef
  | 16 => v = undef
  | 17 => v = undef
  | 18 => v = undef
  | 19 => v = undef
  | 20 => v = undef
  | 21 => v = undef
  | 22 => v = undef
  | 23 => v = undef
  | 24 => v = undef
  | 25 => v = undef
  | 26 => v = undef
  | _ => v = .bool true
theorem KhGb.mono {hb pb : Nat} {d s : Int} {i : Nat} {v : Value} {w w' : World} (_ : Below w.heap.size w w') (h : KhGb hb pb d s i w v) : KhGb hb pb d s i w' v := by
  unfold KhGb at *
  exact h
def KhGc (hb pb ii : Nat) (d s : Int) (i : Nat) (_ : World) (v : Value) : Prop :=
  match i with
  | 0 => v = Value.pointer (some ⟨hb, 0, none⟩)
  | 1 => v = .int .i64 d
  | 2 => v = .bool true
  | 3 => v = .bool false
  | 4 => v = .bool false
  | 5 => v = Value.pointer (some ⟨hb, 0, none⟩)
  | 6 => v = .int .i64 d
  | 7 => v = Value.pointer (some ⟨pb, 1, none⟩)
  | 8 => v = Value.pointer (some ⟨pb, 1, none⟩)
  | 9 => v = .int .i64 s
  | 10 => v = .bool false
  | 11 => v = .bool false
  | 12 => v = .bool false
  | 13 => v = .int .i64 (ii : Int)
  | 14 => v = .bool false
  | 15 => v = .bool false
  | 16 => v = undef
  | 17 => v = undef
  | 18 => v = undef
  | 19 => v = undef
  | 20 => v = undef
  | 21 => v = undef
  | 22 => v = undef
  | 23 => v = undef
  | 24 => v = undef
  | 25 => v = undef
  | 26 => v = .bool false
  | _ => v = .bool false
theorem KhGc.mono {hb pb ii : Nat} {d s : Int} {i : Nat} {v : Value} {w w' : World} (_ : Below w.heap.size w w') (h : KhGc hb pb ii d s i w v) : KhGc hb pb ii d s i w' v := by
  unfold KhGc at *
  exact h
def KhGd (hb pb ii j b off nh ch : Nat) (d s pd : Int) (i : Nat) (_ : World) (v : Value) : Prop :=
  match i with
  | 0 => v = Value.pointer (some ⟨hb, 0, none⟩)
  | 1 => v = .int .i64 d
  | 2 => v = .bool true
  | 3 => v = .bool false
  | 4 => v = .bool false
  | 5 => v = Value.pointer (some ⟨hb, 0, none⟩)
  | 6 => v = .int .i64 d
  | 7 => v = Value.pointer (some ⟨pb, 1, none⟩)
  | 8 => v = Value.pointer (some ⟨pb, 1, none⟩)
  | 9 => v = .int .i64 s
  | 10 => v = .bool false
  | 11 => v = .bool false
  | 12 => v = .bool false
  | 13 => v = .int .i64 (ii : Int)
  | 14 => v = .bool true
  | 15 => v = .bool true
  | 16 => v = Value.pointer (some ⟨pb, 4, none⟩)
  | 17 => v = .slice (some ⟨b, off, none⟩) nh ch
  | 18 => v = .int .i64 (ii : Int)
  | 19 => v = .int .i64 (j : Int)
  | 20 => v = Value.pointer (some ⟨b, off + j * 4, none⟩)
  | 21 => v = Value.pointer (some ⟨b, off + j * 4, none⟩)
  | 22 => v = .int .i64 pd
  | 23 => v = Value.pointer (some ⟨hb, 0, none⟩)
  | 24 => v = .int .i64 d
  | 25 => v = .bool true
  | 26 => v = .bool true
  | _ => v = .bool true
theorem KhGd.mono {hb pb ii j b off nh ch : Nat} {d s pd : Int} {i : Nat} {v : Value} {w w' : World} (_ : Below w.heap.size w w') (h : KhGd hb pb ii j b off nh ch d s pd i w v) : KhGd hb pb ii j b off nh ch d s pd i w' v := by
  unfold KhGd at *
  exact h
def KhGe (hb pb ii j b off nh ch : Nat) (d s pd : Int) (i : Nat) (_ : World) (v : Value) : Prop :=
  match i with
  | 0 => v = Value.pointer (some ⟨hb, 0, none⟩)
  | 1 => v = .int .i64 d
  | 2 => v = .bool true
  | 3 => v = .bool false
  | 4 => v = .bool false
  | 5 => v = Value.pointer (some ⟨hb, 0, none⟩)
  | 6 => v = .int .i64 d
  | 7 => v = Value.pointer (some ⟨pb, 1, none⟩)
  | 8 => v = Value.pointer (some ⟨pb, 1, none⟩)
  | 9 => v = .int .i64 s
  | 10 => v = .bool false
  | 11 => v = .bool false
  | 12 => v = .bool false
  | 13 => v = .int .i64 (ii : Int)
  | 14 => v = .bool true
  | 15 => v = .bool true
  | 16 => v = Value.pointer (some ⟨pb, 4, none⟩)
  | 17 => v = .slice (some ⟨b, off, none⟩) nh ch
  | 18 => v = .int .i64 (ii : Int)
  | 19 => v = .int .i64 (j : Int)
  | 20 => v = Value.pointer (some ⟨b, off + j * 4, none⟩)
  | 21 => v = Value.pointer (some ⟨b, off + j * 4, none⟩)
  | 22 => v = .int .i64 pd
  | 23 => v = Value.pointer (some ⟨hb, 0, none⟩)
  | 24 => v = .int .i64 d
  | 25 => v = .bool false
  | 26 => v = .bool false
  | _ => v = .bool false
theorem KhGe.mono {hb pb ii j b off nh ch : Nat} {d s pd : Int} {i : Nat} {v : Value} {w w' : World} (_ : Below w.heap.size w w') (h : KhGe hb pb ii j b off nh ch d s pd i w v) : KhGe hb pb ii j b off nh ch d s pd i w' v := by
  unfold KhGe at *
  exact h
theorem heads_more {k s : Int} {l : List Hd} {i : Nat} (h : headsUpTo k s l i) (h1 : headK k s (atH l i)) (h2 : 0 < i → (atH l (i - 1)).dst < (atH l i).dst) : headsUpTo k s l (i + 1) := fun j hj => by
  by_cases e : j = i
  · subst e
    exact ⟨h1, h2⟩
  · exact h j (by omega)
set_option maxHeartbeats 16000000 in
theorem rheads_any (k s t h x y z : Int) (H A P : Option Addr) (nh ch n cap np cp : Nat) (l : List Hd) (B : Nat) (w : World) (hl : Hds w B H l) (hB : B ≤ w.heap.size) (hn : l.length = nh) (hb : nh ≤ 100000) :
    Calls Try.prog 27 #[.agg #[.int .i64 k, .int .i64 s, .int .u64 t, .int .i64 h, .slice H nh ch, .slice A n cap, .int .i64 x, .int .u64 y, .int .u64 z, .slice P np cp]] w fun e w' => e = .returned (.bool (decide (headsK k s l))) ∧ Hid (Below w.heap.size w w') := by
  have mixed : Try.prog.follows .mixedOrders = true := by kernel_rfl
  have K1 := Lib.hid (kbox_new (k := k) (s := s) (t := t) (h := h) (x := x) (y := y) (z := z) (H := H) (A := A) (P := P) (nh := nh) (ch := ch) (n := n) (cap := cap) (np := np) (cp := cp) (w := w) 31)
  have B1 := Lib.hid (mbelow_box w (.cells #[.int .i64 k, .int .i64 s, .int .u64 t, .int .i64 h, .slice H nh ch, .slice A n cap, .int .i64 x, .int .u64 y, .int .u64 z, .slice P np cp] 31))
  have HL := Lib.hid hl
  have HN := Lib.hid hn
  have HCt := Lib.hid (fun (v : Int) W => rcount_any v W)
  generalize hd : decide (headsK k s l) = r
  have HD := Lib.hid hd
  clear hl hn hd
  go_enter Try.func27, Try.ntmps27
  go_wp2_with fail
  generalize w.alloc (.cells #[.int .i64 k, .int .i64 s, .int .u64 t, .int .i64 h, .slice H nh ch, .slice A n cap, .int .i64 x, .int .u64 y, .int .u64 z, .slice P np cp] 31) = W1 at *
  go_loopw [3] (fun iv wr => ∃ i : Nat, i ≤ nh ∧ iv = .int .i64 (i : Nat) ∧ Hid (Below w.heap.size w wr) ∧ Hid (KBox w.heap.size k s t h x y z H A P nh ch n cap np cp wr) ∧ Hid (headsUpTo k s l i)) (fun iv _ => nh - (intOf iv).toNat)
  case atStart => exact ⟨0, by omega, rfl, B1, K1, Lib.hid fun i hi => by omega⟩
  case round =>
    obtain ⟨i, hi, rfl, B2, K2, hup⟩ := hrel
    clear K1 B1
    obtain ⟨k0, k1, k2, k3, k4, k5, k6, k7, k8, k9⟩ := K2.out
    by_cases hlt : i < nh
    · have hil : i < l.length := by rw [HN.out]; exact hlt
      have g0 : (0 : Int) ≤ (i : Int) := by omega
      have g1 : (i : Int) < (nh : Int) := by omega
      obtain ⟨b, off, rfl, hbb, hcells⟩ := (HL.out.below (B2.out.mono hB)) (by omega)
      obtain ⟨c0, c1, c2, c3⟩ := hcells i hil
      have HPV := Lib.hid (fun j (hj : j < l.length) => (hcells j hj).1)
      have HHK := Lib.hid (fun hh : headsK k s l => (hh.1 i hil).1)
      have HHO := Lib.hid (fun hh : headsK k s l => (hh.1 i hil).2)
      have HYES := Lib.hid (fun h1 h2 => heads_more (i := i) hup.out h1 h2)
      generalize hhd : atH l i = hd at *
      have HHD := Lib.hid hhd
      clear hhd hcells
      obtain ⟨d, cn, sq, ic⟩ := hd
      simp only at c0 c1 c2 c3
      have HHK : Hid (headsK k s l → nodeF d ∧ d ≠ s ∧ cn ≠ 0 ∧ cnt cn ∧ cnt sq ∧ cnt ic ∧ ¬ (k = 2 ∧ (sq = 0 ∨ ic ≠ 0)) ∧ ¬ (k = 3 ∧ ic = 0)) := HHK
      have HHO : Hid (headsK k s l → 0 < i → (atH l (i - 1)).dst < d) := HHO
      have HYES : Hid (nodeF d ∧ d ≠ s ∧ cn ≠ 0 ∧ cnt cn ∧ cnt sq ∧ cnt ic ∧ ¬ (k = 2 ∧ (sq = 0 ∨ ic ≠ 0)) ∧ ¬ (k = 3 ∧ ic = 0) → (0 < i → (atH l (i - 1)).dst < d) → headsUpTo k s l (i + 1)) := HYES
      have HX3 := Lib.hid (hbox_new wr d (cn : Int) (sq : Int) (ic : Int) 51)
      have BX3 := Lib.hid (mbelow_box wr (.cells #[.int .i64 d, .int .u64 (cn : Int), .int .u64 (sq : Int), .int .u64 (ic : Int)] 51))
      go_wp2_with fail
      have KX0 := Lib.hid (K2.out.below BX3.out)
      have KX : Hid (KBox w.heap.size k s t h x y z (some ⟨b, off, none⟩) A P nh ch n cap np cp (wr.alloc (.cells #[.int .i64 d, .int .u64 (cn : Int), .int .u64 (sq : Int), .int .u64 (ic : Int)] 51)).drew) := KX0
      have HX : Hid (HBox wr.heap.size d (cn : Int) (sq : Int) (ic : Int) (wr.alloc (.cells #[.int .i64 d, .int .u64 (cn : Int), .int .u64 (sq : Int), .int .u64 (ic : Int)] 51)).drew) := HX3
      have HPW := Lib.hid (fun j (hj : j < l.length) => mcell_below (HPV.out j hj) BX3.out)
      have BD : Hid (Below w.heap.size w (wr.alloc (.cells #[.int .i64 d, .int .u64 (cn : Int), .int .u64 (sq : Int), .int .u64 (ic : Int)] 51)).drew) := Lib.hid (have h := mtr B2.out BX3.out; ⟨h.os, h.tape, h.output, h.size, h.block⟩)
      clear KX0 K2 B2 HX3 BX3 HPV k0 k1 k2 k3 k4 k5 k6 k7 k8 k9 c0 c1 c2 c3
      generalize wr.alloc (.cells #[.int .i64 d, .int .u64 (cn : Int), .int .u64 (sq : Int), .int .u64 (ic : Int)] 51) = W3 at *
      generalize wr.heap.size = hb at *
      have HNd := Lib.hid (fun W => rnode_any d W)
      by_cases hnode : nodeF d
      · rw [decide_eq_true hnode] at HNd
        by_cases heq : d = s
        · have HEQ := Lib.hid (show (d == s) = true from by simp [heq])
          have HNO := Lib.hid (fun hh : headsK k s l => (HHK.out hh).2.1 heq)
          clear heq hnode
          refine region_steps (n := 93) (KhGb hb w.heap.size d s) (by kernel_rfl) (by kernel_rfl) rfl (fun _ _ _ _ hb h => KhGb.mono hb h) ?_ ?_
          · refine And.intro ?_ (And.intro ?_ (And.intro ?_ (And.intro ?_ (And.intro ?_ (And.intro ?_ (And.intro ?_ (And.intro ?_ (And.intro ?_ (And.intro ?_ (And.intro ?_ (And.intro ?_ (And.intro ?_ (And.intro ?_ (And.intro ?_ (And.intro ?_ (And.intro ?_ (And.intro ?_ (And.intro ?_ (And.intro ?_ (And.intro ?_ (And.intro ?_ (And.intro ?_ (And.intro ?_ (And.intro ?_ (And.intro ?_ (And.intro ?_ (And.intro ?_ (True.intro))))))))))))))))))))))))))))
            · intro listed a' w' hw hd K hK
              have hv4 := hw.kept 4 (by kernel_rfl)
              refine step_free rfl ?_
              unfold Oper.wp
              simp only [execOp]
              go_simp
              exact hK _ _ (Below.refl _ _) (fun s hs => by cases hs; rfl)
            · intro listed a' w' hw hd K hK
              have hv17 : a'.tmps.getD 17 undef = Value.pointer (some ⟨hb, 0, none⟩) := (hw.at_ 0 17 rfl (hd ⟨0, .data⟩ (by simp) rfl))
              obtain ⟨j0, j1, j2, j3⟩ := HX.out.below hw.below
              refine step_free rfl ?_
              unfold Oper.wp
              simp only [execOp]
              go_simp
              exact hK _ _ (Below.refl _ _) (fun s hs => by cases hs; rfl)
            · intro listed a' w' hw hd K hK
              have hv18 : a'.tmps.getD 18 undef = .int .i64 d := (hw.at_ 1 18 rfl (hd ⟨1, .data⟩ (by simp) rfl))
              refine step_free rfl ?_
              unfold Oper.wp
              simp only [execOp]
              go_simp
              refine (HNd.out w').mono ?_
              rintro en w2 ⟨rfl, rfl⟩
              exact hK _ _ (Below.refl _ _) (fun s hs => by cases hs; rfl)
            · intro listed a' w' hw hd K hK
              have hv19 : a'.tmps.getD 19 undef = .bool true := (hw.at_ 2 19 rfl (hd ⟨2, .data⟩ (by simp) rfl))
              refine step_free rfl ?_
              unfold Oper.wp
              simp only [execOp]
              go_simp
              exact hK _ _ (Below.refl _ _) (fun s hs => by cases hs; rfl)
            · intro listed a' w' hw hd K hK
              refine step_free rfl ?_
              apply wp_move
              exact hK _ _ (Below.refl _ _) (fun s hs => by cases hs; exact (hw.at_ 3 20 rfl (hd ⟨3, .data⟩ (by simp) rfl)))
            · intro listed a' w' hw hd K hK
              have hgd : a'.tmps.getD 21 undef = .bool false := (hw.at_ 4 21 rfl (hd ⟨4, .guard⟩ (by simp) rfl))
              have hv4 := hw.kept 4 (by kernel_rfl)
              refine step_guarded (j := 4) (b := false) (s := 21) rfl rfl (by rw [hw.size]; exact Nat.lt_of_lt_of_eq (show 21 < 93 by omega) rfl) hgd ?_
              unfold Oper.wp
              simp only [execOp]
              go_simp
              exact hK _ _ (Below.refl _ _) (fun s hs => by cases hs; rfl)
            · intro listed a' w' hw hd K hK
              have hgd : a'.tmps.getD 21 undef = .bool false := (hw.at_ 4 21 rfl (hd ⟨4, .guard⟩ (by simp) rfl))
              have hv22 : a'.tmps.getD 22 undef = Value.pointer (some ⟨hb, 0, none⟩) := (hw.at_ 5 22 rfl (hd ⟨5, .data⟩ (by simp) rfl))
              obtain ⟨j0, j1, j2, j3⟩ := HX.out.below hw.below
              refine step_guarded (j := 4) (b := false) (s := 21) rfl rfl (by rw [hw.size]; exact Nat.lt_of_lt_of_eq (show 21 < 93 by omega) rfl) hgd ?_
              unfold Oper.wp
              simp only [execOp]
              go_simp
              exact hK _ _ (Below.refl _ _) (fun s hs => by cases hs; rfl)
            · intro listed a' w' hw hd K hK
              have hgd : a'.tmps.getD 21 undef = .bool false := (hw.at_ 4 21 rfl (hd ⟨4, .guard⟩ (by simp) rfl))
              have hv1 := hw.kept 1 (by kernel_rfl)
              refine step_guarded (j := 4) (b := false) (s := 21) rfl rfl (by rw [hw.size]; exact Nat.lt_of_lt_of_eq (show 21 < 93 by omega) rfl) hgd ?_
              unfold Oper.wp
              simp only [execOp]
              go_simp
              exact hK _ _ (Below.refl _ _) (fun s hs => by cases hs; rfl)
            · intro listed a' w' hw hd K hK
              have hgd : a'.tmps.getD 21 undef = .bool false := (hw.at_ 4 21 rfl (hd ⟨4, .guard⟩ (by simp) rfl))
              have hv24 : a'.tmps.getD 24 undef = Value.pointer (some ⟨w.heap.size, 1, none⟩) := (hw.at_ 7 24 rfl (hd ⟨7, .data⟩ (by simp) rfl))
              refine step_guarded (j := 4) (b := false) (s := 21) rfl rfl (by rw [hw.size]; exact Nat.lt_of_lt_of_eq (show 21 < 93 by omega) rfl) hgd ?_
              unfold Oper.wp
              simp only [execOp]
              go_simp
              exact hK _ _ (Below.refl _ _) (fun s hs => by cases hs; rfl)
            · intro listed a' w' hw hd K hK
              have hgd : a'.tmps.getD 21 undef = .bool false := (hw.at_ 4 21 rfl (hd ⟨4, .guard⟩ (by simp) rfl))
              have hv25 : a'.tmps.getD 25 undef = Value.pointer (some ⟨w.heap.size, 1, none⟩) := (hw.at_ 8 25 rfl (hd ⟨8, .data⟩ (by simp) rfl))
              obtain ⟨k0, k1, k2, k3, k4, k5, k6, k7, k8, k9⟩ := KX.out.below hw.below
              refine step_guarded (j := 4) (b := false) (s := 21) rfl rfl (by rw [hw.size]; exact Nat.lt_of_lt_of_eq (show 21 < 93 by omega) rfl) hgd ?_
              unfold Oper.wp
              simp only [execOp]
              go_simp
              exact hK _ _ (Below.refl _ _) (fun s hs => by cases hs; rfl)
            · intro listed a' w' hw hd K hK
              have hgd : a'.tmps.getD 21 undef = .bool false := (hw.at_ 4 21 rfl (hd ⟨4, .guard⟩ (by simp) rfl))
              have hv23 : a'.tmps.getD 23 undef = .int .i64 d := (hw.at_ 6 23 rfl (hd ⟨6, .data⟩ (by simp) rfl))
              have hv26 : a'.tmps.getD 26 undef = .int .i64 s := (hw.at_ 9 26 rfl (hd ⟨9, .data⟩ (by simp) rfl))
              have e1 := HEQ.out
              refine step_guarded (j := 4) (b := false) (s := 21) rfl rfl (by rw [hw.size]; exact Nat.lt_of_lt_of_eq (show 21 < 93 by omega) rfl) hgd ?_
              unfold Oper.wp
              simp only [execOp]
              go_simp
              exact hK _ _ (Below.refl _ _) (fun s hs => by cases hs; rfl)
            · intro listed a' w' hw hd K hK
              have hv21 : a'.tmps.getD 21 undef = .bool false := (hw.at_ 4 21 rfl (hd ⟨4, .data⟩ (by simp) rfl))
              have hv27 : a'.tmps.getD 27 undef = .bool true := (hw.at_ 10 27 rfl (hd ⟨10, .data⟩ (by simp) rfl))
              refine step_free rfl ?_
              unfold Oper.wp
              simp only [execOp]
              go_simp
              exact hK _ _ (Below.refl _ _) (fun s hs => by cases hs; rfl)
            · intro listed a' w' hw hd K hK
              refine step_free rfl ?_
              apply wp_move
              exact hK _ _ (Below.refl _ _) (fun s hs => by cases hs; exact (hw.at_ 11 28 rfl (hd ⟨11, .data⟩ (by simp) rfl)))
            · intro listed a' w' hw hd K hK
              have hgd : a'.tmps.getD 29 undef = .bool true := (hw.at_ 12 29 rfl (hd ⟨12, .guard⟩ (by simp) rfl))
              refine step_unwanted (j := 12) (b := false) (s := 29) rfl rfl (by rw [hgd]; exact fun h => by cases h) ?_
              exact hK _ _ (Below.refl _ _) (fun s hs => by cases hs; rfl)
            · intro listed a' w' hw hd K hK
              have hgd : a'.tmps.getD 29 undef = .bool true := (hw.at_ 12 29 rfl (hd ⟨12, .guard⟩ (by simp) rfl))
              refine step_unwanted (j := 12) (b := false) (s := 29) rfl rfl (by rw [hgd]; exact fun h => by cases h) ?_
              exact hK _ _ (Below.refl _ _) (fun s hs => by cases hs; rfl)
            · intro listed a' w' hw hd K hK
              have hgd : a'.tmps.getD 29 undef = .bool true := (hw.at_ 12 29 rfl (hd ⟨12, .guard⟩ (by simp) rfl))
              refine step_unwanted (j := 12) (b := false) (s := 29) rfl rfl (by rw [hgd]; exact fun h => by cases h) ?_
              exact hK _ _ (Below.refl _ _) (fun s hs => by cases hs; rfl)
            · intro listed a' w' hw hd K hK
              have hgd : a'.tmps.getD 32 undef = undef := (hw.at_ 15 32 rfl (hd ⟨15, .guard⟩ (by simp) rfl))
              refine step_unwanted (j := 15) (b := true) (s := 32) rfl rfl (by rw [hgd]; exact fun h => by cases h) ?_
              exact hK _ _ (Below.refl _ _) (fun s hs => by cases hs; rfl)
            · intro listed a' w' hw hd K hK
              have hgd : a'.tmps.getD 32 undef = undef := (hw.at_ 15 32 rfl (hd ⟨15, .guard⟩ (by simp) rfl))
              refine step_unwanted (j := 15) (b := true) (s := 32) rfl rfl (by rw [hgd]; exact fun h => by cases h) ?_
              exact hK _ _ (Below.refl _ _) (fun s hs => by cases hs; rfl)
            · intro listed a' w' hw hd K hK
              have hgd : a'.tmps.getD 32 undef = undef := (hw.at_ 15 32 rfl (hd ⟨15, .guard⟩ (by simp) rfl))
              refine step_unwanted (j := 15) (b := true) (s := 32) rfl rfl (by rw [hgd]; exact fun h => by cases h) ?_
              exact hK _ _ (Below.refl _ _) (fun s hs => by cases hs; rfl)
            · intro listed a' w' hw hd K hK
              have hgd : a'.tmps.getD 32 undef = undef := (hw.at_ 15 32 rfl (hd ⟨15, .guard⟩ (by simp) rfl))
              refine step_unwanted (j := 15) (b := true) (s := 32) rfl rfl (by rw [hgd]; exact fun h => by cases h) ?_
              exact hK _ _ (Below.refl _ _) (fun s hs => by cases hs; rfl)
            · intro listed a' w' hw hd K hK
              have hgd : a'.tmps.getD 32 undef = undef := (hw.at_ 15 32 rfl (hd ⟨15, .guard⟩ (by simp) rfl))
              refine step_unwanted (j := 15) (b := true) (s := 32) rfl rfl (by rw [hgd]; exact fun h => by cases h) ?_
              exact hK _ _ (Below.refl _ _) (fun s hs => by cases hs; rfl)
            · intro listed a' w' hw hd K hK
              have hgd : a'.tmps.getD 32 undef = undef := (hw.at_ 15 32 rfl (hd ⟨15, .guard⟩ (by simp) rfl))
              refine step_unwanted (j := 15) (b := true) (s := 32) rfl rfl (by rw [hgd]; exact fun h => by cases h) ?_
              exact hK _ _ (Below.refl _ _) (fun s hs => by cases hs; rfl)
            · intro listed a' w' hw hd K hK
              have hgd : a'.tmps.getD 32 undef = undef := (hw.at_ 15 32 rfl (hd ⟨15, .guard⟩ (by simp) rfl))
              refine step_unwanted (j := 15) (b := true) (s := 32) rfl rfl (by rw [hgd]; exact fun h => by cases h) ?_
              exact hK _ _ (Below.refl _ _) (fun s hs => by cases hs; rfl)
            · intro listed a' w' hw hd K hK
              have hgd : a'.tmps.getD 32 undef = undef := (hw.at_ 15 32 rfl (hd ⟨15, .guard⟩ (by simp) rfl))
              refine step_unwanted (j := 15) (b := true) (s := 32) rfl rfl (by rw [hgd]; exact fun h => by cases h) ?_
              exact hK _ _ (Below.refl _ _) (fun s hs => by cases hs; rfl)
            · intro listed a' w' hw hd K hK
              have hgd : a'.tmps.getD 32 undef = undef := (hw.at_ 15 32 rfl (hd ⟨15, .guard⟩ (by simp) rfl))
              refine step_unwanted (j := 15) (b := true) (s := 32) rfl rfl (by rw [hgd]; exact fun h => by cases h) ?_
              exact hK _ _ (Below.refl _ _) (fun s hs => by cases hs; rfl)
            · intro listed a' w' hw hd K hK
              have hgd : a'.tmps.getD 32 undef = undef := (hw.at_ 15 32 rfl (hd ⟨15, .guard⟩ (by simp) rfl))
              refine step_unwanted (j := 15) (b := true) (s := 32) rfl rfl (by rw [hgd]; exact fun h => by cases h) ?_
              exact hK _ _ (Below.refl _ _) (fun s hs => by cases hs; rfl)
            · intro listed a' w' hw hd K hK
              have hgd : a'.tmps.getD 29 undef = .bool true := (hw.at_ 12 29 rfl (hd ⟨12, .guard⟩ (by simp) rfl))
              refine step_unwanted (j := 12) (b := false) (s := 29) rfl rfl (by rw [hgd]; exact fun h => by cases h) ?_
              exact hK _ _ (Below.refl _ _) (fun s hs => by cases hs; rfl)
            · intro listed a' w' hw hd K hK
              have hv29 : a'.tmps.getD 29 undef = .bool true := (hw.at_ 12 29 rfl (hd ⟨12, .data⟩ (by simp) rfl))
              have hv43 : a'.tmps.getD 43 undef = undef := (hw.at_ 26 43 rfl (hd ⟨26, .data⟩ (by simp) rfl))
              refine step_free rfl ?_
              unfold Oper.wp
              simp only [execOp]
              go_simp
              exact hK _ _ (Below.refl _ _) (fun s hs => by cases hs; rfl)
          · intro listed a' w' hw hall
            have hk44 : a'.tmps.getD 44 undef = .bool true := hw.at_ 27 44 rfl (hall 27 (Nat.lt_of_lt_of_eq (show 27 < 28 by omega) rfl))
            have BX := Lib.hid (mtr BD.out hw.below)
            have KX2 := Lib.hid (KX.out.below hw.below)
            have HX2 := Lib.hid (HX.out.below hw.below)
            have hp := hw.puts [17, 18, 19, 20, 21, 22, 23, 24, 25, 26, 27, 28, 29, 30, 31, 32, 33, 34, 35, 36, 37, 38, 39, 40, 41, 42, 43, 44] (by kernel_rfl)
            clear hw hall
            rw [hp]
            simp only [List.foldl_cons, List.foldl_nil, hk44]
            generalize a'.tmps.getD 17 undef = u17
            generalize a'.tmps.getD 18 undef = u18
            generalize a'.tmps.getD 19 undef = u19
            generalize a'.tmps.getD 20 undef = u20
            generalize a'.tmps.getD 21 undef = u21
            generalize a'.tmps.getD 22 undef = u22
            generalize a'.tmps.getD 23 undef = u23
            generalize a'.tmps.getD 24 undef = u24
            generalize a'.tmps.getD 25 undef = u25
            generalize a'.tmps.getD 26 undef = u26
            generalize a'.tmps.getD 27 undef = u27
            generalize a'.tmps.getD 28 undef = u28
            generalize a'.tmps.getD 29 undef = u29
            generalize a'.tmps.getD 30 undef = u30
            generalize a'.tmps.getD 31 undef = u31
            generalize a'.tmps.getD 32 undef = u32
            generalize a'.tmps.getD 33 undef = u33
            generalize a'.tmps.getD 34 undef = u34
            generalize a'.tmps.getD 35 undef = u35
            generalize a'.tmps.getD 36 undef = u36
            generalize a'.tmps.getD 37 undef = u37
            generalize a'.tmps.getD 38 undef = u38
            generalize a'.tmps.getD 39 undef = u39
            generalize a'.tmps.getD 40 undef = u40
            generalize a'.tmps.getD 41 undef = u41
            generalize a'.tmps.getD 42 undef = u42
            generalize a'.tmps.getD 43 undef = u43
            clear hp hk44
            simp only [Act.put, List.setIfInBounds_toArray, List.set_cons_succ, List.set_cons_zero]
            generalize hw6 : w' = W6 at *
            clear hw6 KX HX BD
            have : r = false := by rw [← HD.out]; exact decide_eq_false HNO.out
            subst this
            go_wp2
            go_ret
            exact ⟨rfl, BX⟩
        · have HEQ := Lib.hid (show (d == s) = false from by rw [beq_eq_false_iff_ne]; exact heq)
          by_cases hi0 : 0 < i
          · obtain ⟨j, hij⟩ : ∃ j, i = j + 1 := ⟨i - 1, by omega⟩
            have HK0 := Lib.hid (show decide ((0 : Int) < (i : Int)) = true from decide_eq_true (by omega))
            have HIJ := Lib.hid (show (i : Int) - 1 = (j : Int) from by omega)
            have HJW := Lib.hid (show IntKind.i64.wrap (j : Int) = (j : Int) from IntWalk.i64_in _ (by omega))
            have HJN := Lib.hid (show (j : Int) < (nh : Int) from by omega)
            have HPD : Hid (W3.drew.cell? ⟨b, off + j * 4, none⟩ = some (.int .i64 (atH l j).dst)) := Lib.hid (HPW.out j (by omega))
            have ej : atH l (i - 1) = atH l j := by rw [hij]; rfl
            rw [ej] at HHO HYES
            generalize (atH l j).dst = pd at HPD HHO HYES
            clear ej HPW
            by_cases hge : d ≤ pd
            · have HGE := Lib.hid (show decide (d ≤ pd) = true from decide_eq_true hge)
              have HNO := Lib.hid (fun hh : headsK k s l => (show False from by have := HHO.out hh hi0; omega))
              clear heq hnode hge HYES HHK HHO
              refine region_steps (n := 93) (KhGd hb w.heap.size i j b off nh ch d s pd) (by kernel_rfl) (by kernel_rfl) rfl (fun _ _ _ _ hb h => KhGd.mono hb h) ?_ ?_
              · refine And.intro ?_ (And.intro ?_ (And.intro ?_ (And.intro ?_ (And.intro ?_ (And.intro ?_ (And.intro ?_ (And.intro ?_ (And.intro ?_ (And.intro ?_ (And.intro ?_ (And.intro ?_ (And.intro ?_ (And.intro ?_ (And.intro ?_ (And.intro ?_ (And.intro ?_ (And.intro ?_ (And.intro ?_ (And.intro ?_ (And.intro ?_ (And.intro ?_ (And.intro ?_ (And.intro ?_ (And.intro ?_ (And.intro ?_ (And.intro ?_ (And.intro ?_ (True.intro))))))))))))))))))))))))))))
                · intro listed a' w' hw hd K hK
                  have hv4 := hw.kept 4 (by kernel_rfl)
                  refine step_free rfl ?_
                  unfold Oper.wp
                  simp only [execOp]
                  go_simp
                  exact hK _ _ (Below.refl _ _) (fun s hs => by cases hs; rfl)
                · intro listed a' w' hw hd K hK
                  have hv17 : a'.tmps.getD 17 undef = Value.pointer (some ⟨hb, 0, none⟩) := (hw.at_ 0 17 rfl (hd ⟨0, .data⟩ (by simp) rfl))
                  obtain ⟨j0, j1, j2, j3⟩ := HX.out.below hw.below
                  refine step_free rfl ?_
                  unfold Oper.wp
                  simp only [execOp]
                  go_simp
                  exact hK _ _ (Below.refl _ _) (fun s hs => by cases hs; rfl)
                · intro listed a' w' hw hd K hK
                  have hv18 : a'.tmps.getD 18 undef = .int .i64 d := (hw.at_ 1 18 rfl (hd ⟨1, .data⟩ (by simp) rfl))
                  refine step_free rfl ?_
                  unfold Oper.wp
                  simp only [execOp]
                  go_simp
                  refine (HNd.out w').mono ?_
                  rintro en w2 ⟨rfl, rfl⟩
                  exact hK _ _ (Below.refl _ _) (fun s hs => by cases hs; rfl)
                · intro listed a' w' hw hd K hK
                  have hv19 : a'.tmps.getD 19 undef = .bool true := (hw.at_ 2 19 rfl (hd ⟨2, .data⟩ (by simp) rfl))
                  refine step_free rfl ?_
                  unfold Oper.wp
                  simp only [execOp]
                  go_simp
                  exact hK _ _ (Below.refl _ _) (fun s hs => by cases hs; rfl)
                · intro listed a' w' hw hd K hK
                  refine step_free rfl ?_
                  apply wp_move
                  exact hK _ _ (Below.refl _ _) (fun s hs => by cases hs; exact (hw.at_ 3 20 rfl (hd ⟨3, .data⟩ (by simp) rfl)))
                · intro listed a' w' hw hd K hK
                  have hgd : a'.tmps.getD 21 undef = .bool false := (hw.at_ 4 21 rfl (hd ⟨4, .guard⟩ (by simp) rfl))
                  have hv4 := hw.kept 4 (by kernel_rfl)
                  refine step_guarded (j := 4) (b := false) (s := 21) rfl rfl (by rw [hw.size]; exact Nat.lt_of_lt_of_eq (show 21 < 93 by omega) rfl) hgd ?_
                  unfold Oper.wp
                  simp only [execOp]
                  go_simp
                  exact hK _ _ (Below.refl _ _) (fun s hs => by cases hs; rfl)
                · intro listed a' w' hw hd K hK
                  have hgd : a'.tmps.getD 21 undef = .bool false := (hw.at_ 4 21 rfl (hd ⟨4, .guard⟩ (by simp) rfl))
                  have hv22 : a'.tmps.getD 22 undef = Value.pointer (some ⟨hb, 0, none⟩) := (hw.at_ 5 22 rfl (hd ⟨5, .data⟩ (by simp) rfl))
                  obtain ⟨j0, j1, j2, j3⟩ := HX.out.below hw.below
                  refine step_guarded (j := 4) (b := false) (s := 21) rfl rfl (by rw [hw.size]; exact Nat.lt_of_lt_of_eq (show 21 < 93 by omega) rfl) hgd ?_
                  unfold Oper.wp
                  simp only [execOp]
                  go_simp
                  exact hK _ _ (Below.refl _ _) (fun s hs => by cases hs; rfl)
                · intro listed a' w' hw hd K hK
                  have hgd : a'.tmps.getD 21 undef = .bool false := (hw.at_ 4 21 rfl (hd ⟨4, .guard⟩ (by simp) rfl))
                  have hv1 := hw.kept 1 (by kernel_rfl)
                  refine step_guarded (j := 4) (b := false) (s := 21) rfl rfl (by rw [hw.size]; exact Nat.lt_of_lt_of_eq (show 21 < 93 by omega) rfl) hgd ?_
                  unfold Oper.wp
                  simp only [execOp]
                  go_simp
                  exact hK _ _ (Below.refl _ _) (fun s hs => by cases hs; rfl)
                · intro listed a' w' hw hd K hK
                  have hgd : a'.tmps.getD 21 undef = .bool false := (hw.at_ 4 21 rfl (hd ⟨4, .guard⟩ (by simp) rfl))
                  have hv24 : a'.tmps.getD 24 undef = Value.pointer (some ⟨w.heap.size, 1, none⟩) := (hw.at_ 7 24 rfl (hd ⟨7, .data⟩ (by simp) rfl))
                  refine step_guarded (j := 4) (b := false) (s := 21) rfl rfl (by rw [hw.size]; exact Nat.lt_of_lt_of_eq (show 21 < 93 by omega) rfl) hgd ?_
                  unfold Oper.wp
                  simp only [execOp]
                  go_simp
                  exact hK _ _ (Below.refl _ _) (fun s hs => by cases hs; rfl)
                · intro listed a' w' hw hd K hK
                  have hgd : a'.tmps.getD 21 undef = .bool false := (hw.at_ 4 21 rfl (hd ⟨4, .guard⟩ (by simp) rfl))
                  have hv25 : a'.tmps.getD 25 undef = Value.pointer (some ⟨w.heap.size, 1, none⟩) := (hw.at_ 8 25 rfl (hd ⟨8, .data⟩ (by simp) rfl))
                  obtain ⟨k0, k1, k2, k3, k4, k5, k6, k7, k8, k9⟩ := KX.out.below hw.below
                  refine step_guarded (j := 4) (b := false) (s := 21) rfl rfl (by rw [hw.size]; exact Nat.lt_of_lt_of_eq (show 21 < 93 by omega) rfl) hgd ?_
                  unfold Oper.wp
                  simp only [execOp]
                  go_simp
                  exact hK _ _ (Below.refl _ _) (fun s hs => by cases hs; rfl)
                · intro listed a' w' hw hd K hK
                  have hgd : a'.tmps.getD 21 undef = .bool false := (hw.at_ 4 21 rfl (hd ⟨4, .guard⟩ (by simp) rfl))
                  have hv23 : a'.tmps.getD 23 undef = .int .i64 d := (hw.at_ 6 23 rfl (hd ⟨6, .data⟩ (by simp) rfl))
                  have hv26 : a'.tmps.getD 26 undef = .int .i64 s := (hw.at_ 9 26 rfl (hd ⟨9, .data⟩ (by simp) rfl))
                  have e1 := HEQ.out
                  refine step_guarded (j := 4) (b := false) (s := 21) rfl rfl (by rw [hw.size]; exact Nat.lt_of_lt_of_eq (show 21 < 93 by omega) rfl) hgd ?_
                  unfold Oper.wp
                  simp only [execOp]
                  go_simp
                  exact hK _ _ (Below.refl _ _) (fun s hs => by cases hs; rfl)
                · intro listed a' w' hw hd K hK
                  have hv21 : a'.tmps.getD 21 undef = .bool false := (hw.at_ 4 21 rfl (hd ⟨4, .data⟩ (by simp) rfl))
                  have hv27 : a'.tmps.getD 27 undef = .bool false := (hw.at_ 10 27 rfl (hd ⟨10, .data⟩ (by simp) rfl))
                  refine step_free rfl ?_
                  unfold Oper.wp
                  simp only [execOp]
                  go_simp
                  exact hK _ _ (Below.refl _ _) (fun s hs => by cases hs; rfl)
                · intro listed a' w' hw hd K hK
                  refine step_free rfl ?_
                  apply wp_move
                  exact hK _ _ (Below.refl _ _) (fun s hs => by cases hs; exact (hw.at_ 11 28 rfl (hd ⟨11, .data⟩ (by simp) rfl)))
                · intro listed a' w' hw hd K hK
                  have hgd : a'.tmps.getD 29 undef = .bool false := (hw.at_ 12 29 rfl (hd ⟨12, .guard⟩ (by simp) rfl))
                  refine step_guarded (j := 12) (b := false) (s := 29) rfl rfl (by rw [hw.size]; exact Nat.lt_of_lt_of_eq (show 29 < 93 by omega) rfl) hgd ?_
                  apply wp_move
                  exact hK _ _ (Below.refl _ _) (fun s hs => by cases hs; exact hw.kept 3 (by kernel_rfl))
                · intro listed a' w' hw hd K hK
                  have hgd : a'.tmps.getD 29 undef = .bool false := (hw.at_ 12 29 rfl (hd ⟨12, .guard⟩ (by simp) rfl))
                  have hv30 : a'.tmps.getD 30 undef = .int .i64 (i : Int) := (hw.at_ 13 30 rfl (hd ⟨13, .data⟩ (by simp) rfl))
                  have e1 := HK0.out
                  refine step_guarded (j := 12) (b := false) (s := 29) rfl rfl (by rw [hw.size]; exact Nat.lt_of_lt_of_eq (show 29 < 93 by omega) rfl) hgd ?_
                  unfold Oper.wp
                  simp only [execOp]
                  go_simp
                  exact hK _ _ (Below.refl _ _) (fun s hs => by cases hs; rfl)
                · intro listed a' w' hw hd K hK
                  have hgd : a'.tmps.getD 29 undef = .bool false := (hw.at_ 12 29 rfl (hd ⟨12, .guard⟩ (by simp) rfl))
                  refine step_guarded (j := 12) (b := false) (s := 29) rfl rfl (by rw [hw.size]; exact Nat.lt_of_lt_of_eq (show 29 < 93 by omega) rfl) hgd ?_
                  apply wp_move
                  exact hK _ _ (Below.refl _ _) (fun s hs => by cases hs; exact (hw.at_ 14 31 rfl (hd ⟨14, .data⟩ (by simp) rfl)))
                · intro listed a' w' hw hd K hK
                  have hgd : a'.tmps.getD 32 undef = .bool true := (hw.at_ 15 32 rfl (hd ⟨15, .guard⟩ (by simp) rfl))
                  have hv1 := hw.kept 1 (by kernel_rfl)
                  refine step_guarded (j := 15) (b := true) (s := 32) rfl rfl (by rw [hw.size]; exact Nat.lt_of_lt_of_eq (show 32 < 93 by omega) rfl) hgd ?_
                  unfold Oper.wp
                  simp only [execOp]
                  go_simp
                  exact hK _ _ (Below.refl _ _) (fun s hs => by cases hs; rfl)
                · intro listed a' w' hw hd K hK
                  have hgd : a'.tmps.getD 32 undef = .bool true := (hw.at_ 15 32 rfl (hd ⟨15, .guard⟩ (by simp) rfl))
                  have hv33 : a'.tmps.getD 33 undef = Value.pointer (some ⟨w.heap.size, 4, none⟩) := (hw.at_ 16 33 rfl (hd ⟨16, .data⟩ (by simp) rfl))
                  obtain ⟨k0, k1, k2, k3, k4, k5, k6, k7, k8, k9⟩ := KX.out.below hw.below
                  refine step_guarded (j := 15) (b := true) (s := 32) rfl rfl (by rw [hw.size]; exact Nat.lt_of_lt_of_eq (show 32 < 93 by omega) rfl) hgd ?_
                  unfold Oper.wp
                  simp only [execOp]
                  go_simp
                  exact hK _ _ (Below.refl _ _) (fun s hs => by cases hs; rfl)
                · intro listed a' w' hw hd K hK
                  have hgd : a'.tmps.getD 32 undef = .bool true := (hw.at_ 15 32 rfl (hd ⟨15, .guard⟩ (by simp) rfl))
                  refine step_guarded (j := 15) (b := true) (s := 32) rfl rfl (by rw [hw.size]; exact Nat.lt_of_lt_of_eq (show 32 < 93 by omega) rfl) hgd ?_
                  apply wp_move
                  exact hK _ _ (Below.refl _ _) (fun s hs => by cases hs; exact hw.kept 3 (by kernel_rfl))
                · intro listed a' w' hw hd K hK
                  have hgd : a'.tmps.getD 32 undef = .bool true := (hw.at_ 15 32 rfl (hd ⟨15, .guard⟩ (by simp) rfl))
                  have hv35 : a'.tmps.getD 35 undef = .int .i64 (i : Int) := (hw.at_ 18 35 rfl (hd ⟨18, .data⟩ (by simp) rfl))
                  have e1 := HIJ.out
                  have e2 := HJW.out
                  refine step_guarded (j := 15) (b := true) (s := 32) rfl rfl (by rw [hw.size]; exact Nat.lt_of_lt_of_eq (show 32 < 93 by omega) rfl) hgd ?_
                  unfold Oper.wp
                  simp only [execOp]
                  go_simp
                  exact hK _ _ (Below.refl _ _) (fun s hs => by cases hs; rfl)
                · intro listed a' w' hw hd K hK
                  have hgd : a'.tmps.getD 32 undef = .bool true := (hw.at_ 15 32 rfl (hd ⟨15, .guard⟩ (by simp) rfl))
                  have hv34 : a'.tmps.getD 34 undef = .slice (some ⟨b, off, none⟩) nh ch := (hw.at_ 17 34 rfl (hd ⟨17, .data⟩ (by simp) rfl))
                  have hv36 : a'.tmps.getD 36 undef = .int .i64 (j : Int) := (hw.at_ 19 36 rfl (hd ⟨19, .data⟩ (by simp) rfl))
                  have q0 : (0 : Int) ≤ (j : Int) := by omega
                  have q1 := HJN.out
                  refine step_guarded (j := 15) (b := true) (s := 32) rfl rfl (by rw [hw.size]; exact Nat.lt_of_lt_of_eq (show 32 < 93 by omega) rfl) hgd ?_
                  unfold Oper.wp
                  simp only [execOp]
                  go_simp
                  exact hK _ _ (Below.refl _ _) (fun s hs => by cases hs; rfl)
                · intro listed a' w' hw hd K hK
                  have hgd : a'.tmps.getD 32 undef = .bool true := (hw.at_ 15 32 rfl (hd ⟨15, .guard⟩ (by simp) rfl))
                  have hv37 : a'.tmps.getD 37 undef = Value.pointer (some ⟨b, off + j * 4, none⟩) := (hw.at_ 20 37 rfl (hd ⟨20, .data⟩ (by simp) rfl))
                  refine step_guarded (j := 15) (b := true) (s := 32) rfl rfl (by rw [hw.size]; exact Nat.lt_of_lt_of_eq (show 32 < 93 by omega) rfl) hgd ?_
                  unfold Oper.wp
                  simp only [execOp]
                  go_simp
                  exact hK _ _ (Below.refl _ _) (fun s hs => by cases hs; rfl)
                · intro listed a' w' hw hd K hK
                  have hgd : a'.tmps.getD 32 undef = .bool true := (hw.at_ 15 32 rfl (hd ⟨15, .guard⟩ (by simp) rfl))
                  have hv38 : a'.tmps.getD 38 undef = Value.pointer (some ⟨b, off + j * 4, none⟩) := (hw.at_ 21 38 rfl (hd ⟨21, .data⟩ (by simp) rfl))
                  have c0 := mcell_below HPD.out hw.below
                  refine step_guarded (j := 15) (b := true) (s := 32) rfl rfl (by rw [hw.size]; exact Nat.lt_of_lt_of_eq (show 32 < 93 by omega) rfl) hgd ?_
                  unfold Oper.wp
                  simp only [execOp]
                  go_simp
                  exact hK _ _ (Below.refl _ _) (fun s hs => by cases hs; rfl)
                · intro listed a' w' hw hd K hK
                  have hgd : a'.tmps.getD 32 undef = .bool true := (hw.at_ 15 32 rfl (hd ⟨15, .guard⟩ (by simp) rfl))
                  have hv4 := hw.kept 4 (by kernel_rfl)
                  refine step_guarded (j := 15) (b := true) (s := 32) rfl rfl (by rw [hw.size]; exact Nat.lt_of_lt_of_eq (show 32 < 93 by omega) rfl) hgd ?_
                  unfold Oper.wp
                  simp only [execOp]
                  go_simp
                  exact hK _ _ (Below.refl _ _) (fun s hs => by cases hs; rfl)
                · intro listed a' w' hw hd K hK
                  have hgd : a'.tmps.getD 32 undef = .bool true := (hw.at_ 15 32 rfl (hd ⟨15, .guard⟩ (by simp) rfl))
                  have hv40 : a'.tmps.getD 40 undef = Value.pointer (some ⟨hb, 0, none⟩) := (hw.at_ 23 40 rfl (hd ⟨23, .data⟩ (by simp) rfl))
                  obtain ⟨j0, j1, j2, j3⟩ := HX.out.below hw.below
                  refine step_guarded (j := 15) (b := true) (s := 32) rfl rfl (by rw [hw.size]; exact Nat.lt_of_lt_of_eq (show 32 < 93 by omega) rfl) hgd ?_
                  unfold Oper.wp
                  simp only [execOp]
                  go_simp
                  exact hK _ _ (Below.refl _ _) (fun s hs => by cases hs; rfl)
                · intro listed a' w' hw hd K hK
                  have hgd : a'.tmps.getD 32 undef = .bool true := (hw.at_ 15 32 rfl (hd ⟨15, .guard⟩ (by simp) rfl))
                  have hv39 : a'.tmps.getD 39 undef = .int .i64 pd := (hw.at_ 22 39 rfl (hd ⟨22, .data⟩ (by simp) rfl))
                  have hv41 : a'.tmps.getD 41 undef = .int .i64 d := (hw.at_ 24 41 rfl (hd ⟨24, .data⟩ (by simp) rfl))
                  have e1 := HGE.out
                  refine step_guarded (j := 15) (b := true) (s := 32) rfl rfl (by rw [hw.size]; exact Nat.lt_of_lt_of_eq (show 32 < 93 by omega) rfl) hgd ?_
                  unfold Oper.wp
                  simp only [execOp]
                  go_simp
                  exact hK _ _ (Below.refl _ _) (fun s hs => by cases hs; rfl)
                · intro listed a' w' hw hd K hK
                  have hgd : a'.tmps.getD 29 undef = .bool false := (hw.at_ 12 29 rfl (hd ⟨12, .guard⟩ (by simp) rfl))
                  have hv32 : a'.tmps.getD 32 undef = .bool true := (hw.at_ 15 32 rfl (hd ⟨15, .data⟩ (by simp) rfl))
                  have hv42 : a'.tmps.getD 42 undef = .bool true := (hw.at_ 25 42 rfl (hd ⟨25, .data⟩ (by simp) rfl))
                  refine step_guarded (j := 12) (b := false) (s := 29) rfl rfl (by rw [hw.size]; exact Nat.lt_of_lt_of_eq (show 29 < 93 by omega) rfl) hgd ?_
                  unfold Oper.wp
                  simp only [execOp]
                  go_simp
                  exact hK _ _ (Below.refl _ _) (fun s hs => by cases hs; rfl)
                · intro listed a' w' hw hd K hK
                  have hv29 : a'.tmps.getD 29 undef = .bool false := (hw.at_ 12 29 rfl (hd ⟨12, .data⟩ (by simp) rfl))
                  have hv43 : a'.tmps.getD 43 undef = .bool true := (hw.at_ 26 43 rfl (hd ⟨26, .data⟩ (by simp) rfl))
                  refine step_free rfl ?_
                  unfold Oper.wp
                  simp only [execOp]
                  go_simp
                  exact hK _ _ (Below.refl _ _) (fun s hs => by cases hs; rfl)
              · intro listed a' w' hw hall
                have hk44 : a'.tmps.getD 44 undef = .bool true := hw.at_ 27 44 rfl (hall 27 (Nat.lt_of_lt_of_eq (show 27 < 28 by omega) rfl))
                have BX := Lib.hid (mtr BD.out hw.below)
                have KX2 := Lib.hid (KX.out.below hw.below)
                have HX2 := Lib.hid (HX.out.below hw.below)
                have hp := hw.puts [17, 18, 19, 20, 21, 22, 23, 24, 25, 26, 27, 28, 29, 30, 31, 32, 33, 34, 35, 36, 37, 38, 39, 40, 41, 42, 43, 44] (by kernel_rfl)
                clear hw hall
                rw [hp]
                simp only [List.foldl_cons, List.foldl_nil, hk44]
                generalize a'.tmps.getD 17 undef = u17
                generalize a'.tmps.getD 18 undef = u18
                generalize a'.tmps.getD 19 undef = u19
                generalize a'.tmps.getD 20 undef = u20
                generalize a'.tmps.getD 21 undef = u21
                generalize a'.tmps.getD 22 undef = u22
                generalize a'.tmps.getD 23 undef = u23
                generalize a'.tmps.getD 24 undef = u24
                generalize a'.tmps.getD 25 undef = u25
                generalize a'.tmps.getD 26 undef = u26
                generalize a'.tmps.getD 27 undef = u27
                generalize a'.tmps.getD 28 undef = u28
                generalize a'.tmps.getD 29 undef = u29
                generalize a'.tmps.getD 30 undef = u30
                generalize a'.tmps.getD 31 undef = u31
                generalize a'.tmps.getD 32 undef = u32
                generalize a'.tmps.getD 33 undef = u33
                generalize a'.tmps.getD 34 undef = u34
                generalize a'.tmps.getD 35 undef = u35
                generalize a'.tmps.getD 36 undef = u36
                generalize a'.tmps.getD 37 undef = u37
                generalize a'.tmps.getD 38 undef = u38
                generalize a'.tmps.getD 39 undef = u39
                generalize a'.tmps.getD 40 undef = u40
                generalize a'.tmps.getD 41 undef = u41
                generalize a'.tmps.getD 42 undef = u42
                generalize a'.tmps.getD 43 undef = u43
                clear hp hk44
                simp only [Act.put, List.setIfInBounds_toArray, List.set_cons_succ, List.set_cons_zero]
                generalize hw6 : w' = W6 at *
                clear hw6 KX HX BD
                have : r = false := by rw [← HD.out]; exact decide_eq_false HNO.out
                subst this
                go_wp2
                go_ret
                exact ⟨rfl, BX⟩
            · have HGE := Lib.hid (show decide (d ≤ pd) = false from decide_eq_false hge)
              have HYES6 := Lib.hid (fun (a1 : cn ≠ 0) (a2 : cnt cn) (a3 : cnt sq) (a4 : cnt ic) (a5 : ¬ (k = 2 ∧ (sq = 0 ∨ ic ≠ 0))) (a6 : ¬ (k = 3 ∧ ic = 0)) => HYES.out ⟨hnode, heq, a1, a2, a3, a4, a5, a6⟩ (fun _ => by omega))
              clear heq hnode hge HYES HHO
              refine region_steps (n := 93) (KhGe hb w.heap.size i j b off nh ch d s pd) (by kernel_rfl) (by kernel_rfl) rfl (fun _ _ _ _ hb h => KhGe.mono hb h) ?_ ?_
              · refine And.intro ?_ (And.intro ?_ (And.intro ?_ (And.intro ?_ (And.intro ?_ (And.intro ?_ (And.intro ?_ (And.intro ?_ (And.intro ?_ (And.intro ?_ (And.intro ?_ (And.intro ?_ (And.intro ?_ (And.intro ?_ (And.intro ?_ (And.intro ?_ (And.intro ?_ (And.intro ?_ (And.intro ?_ (And.intro ?_ (And.intro ?_ (And.intro ?_ (And.intro ?_ (And.intro ?_ (And.intro ?_ (And.intro ?_ (And.intro ?_ (And.intro ?_ (True.intro))))))))))))))))))))))))))))
                · intro listed a' w' hw hd K hK
                  have hv4 := hw.kept 4 (by kernel_rfl)
                  refine step_free rfl ?_
                  unfold Oper.wp
                  simp only [execOp]
                  go_simp
                  exact hK _ _ (Below.refl _ _) (fun s hs => by cases hs; rfl)
                · intro listed a' w' hw hd K hK
                  have hv17 : a'.tmps.getD 17 undef = Value.pointer (some ⟨hb, 0, none⟩) := (hw.at_ 0 17 rfl (hd ⟨0, .data⟩ (by simp) rfl))
                  obtain ⟨j0, j1, j2, j3⟩ := HX.out.below hw.below
                  refine step_free rfl ?_
                  unfold Oper.wp
                  simp only [execOp]
                  go_simp
                  exact hK _ _ (Below.refl _ _) (fun s hs => by cases hs; rfl)
                · intro listed a' w' hw hd K hK
                  have hv18 : a'.tmps.getD 18 undef = .int .i64 d := (hw.at_ 1 18 rfl (hd ⟨1, .data⟩ (by simp) rfl))
                  refine step_free rfl ?_
                  unfold Oper.wp
                  simp only [execOp]
                  go_simp
                  refine (HNd.out w').mono ?_
                  rintro en w2 ⟨rfl, rfl⟩
                  exact hK _ _ (Below.refl _ _) (fun s hs => by cases hs; rfl)
                · intro listed a' w' hw hd K hK
                  have hv19 : a'.tmps.getD 19 undef = .bool true := (hw.at_ 2 19 rfl (hd ⟨2, .data⟩ (by simp) rfl))
                  refine step_free rfl ?_
                  unfold Oper.wp
                  simp only [execOp]
                  go_simp
                  exact hK _ _ (Below.refl _ _) (fun s hs => by cases hs; rfl)
                · intro listed a' w' hw hd K hK
                  refine step_free rfl ?_
                  apply wp_move
                  exact hK _ _ (Below.refl _ _) (fun s hs => by cases hs; exact (hw.at_ 3 20 rfl (hd ⟨3, .data⟩ (by simp) rfl)))
                · intro listed a' w' hw hd K hK
                  have hgd : a'.tmps.getD 21 undef = .bool false := (hw.at_ 4 21 rfl (hd ⟨4, .guard⟩ (by simp) rfl))
                  have hv4 := hw.kept 4 (by kernel_rfl)
                  refine step_guarded (j := 4) (b := false) (s := 21) rfl rfl (by rw [hw.size]; exact Nat.lt_of_lt_of_eq (show 21 < 93 by omega) rfl) hgd ?_
                  unfold Oper.wp
                  simp only [execOp]
                  go_simp
                  exact hK _ _ (Below.refl _ _) (fun s hs => by cases hs; rfl)
                · intro listed a' w' hw hd K hK
                  have hgd : a'.tmps.getD 21 undef = .bool false := (hw.at_ 4 21 rfl (hd ⟨4, .guard⟩ (by simp) rfl))
                  have hv22 : a'.tmps.getD 22 undef = Value.pointer (some ⟨hb, 0, none⟩) := (hw.at_ 5 22 rfl (hd ⟨5, .data⟩ (by simp) rfl))
                  obtain ⟨j0, j1, j2, j3⟩ := HX.out.below hw.below
                  refine step_guarded (j := 4) (b := false) (s := 21) rfl rfl (by rw [hw.size]; exact Nat.lt_of_lt_of_eq (show 21 < 93 by omega) rfl) hgd ?_
                  unfold Oper.wp
                  simp only [execOp]
                  go_simp
                  exact hK _ _ (Below.refl _ _) (fun s hs => by cases hs; rfl)
                · intro listed a' w' hw hd K hK
                  have hgd : a'.tmps.getD 21 undef = .bool false := (hw.at_ 4 21 rfl (hd ⟨4, .guard⟩ (by simp) rfl))
                  have hv1 := hw.kept 1 (by kernel_rfl)
                  refine step_guarded (j := 4) (b := false) (s := 21) rfl rfl (by rw [hw.size]; exact Nat.lt_of_lt_of_eq (show 21 < 93 by omega) rfl) hgd ?_
                  unfold Oper.wp
                  simp only [execOp]
                  go_simp
                  exact hK _ _ (Below.refl _ _) (fun s hs => by cases hs; rfl)
                · intro listed a' w' hw hd K hK
                  have hgd : a'.tmps.getD 21 undef = .bool false := (hw.at_ 4 21 rfl (hd ⟨4, .guard⟩ (by simp) rfl))
                  have hv24 : a'.tmps.getD 24 undef = Value.pointer (some ⟨w.heap.size, 1, none⟩) := (hw.at_ 7 24 rfl (hd ⟨7, .data⟩ (by simp) rfl))
                  refine step_guarded (j := 4) (b := false) (s := 21) rfl rfl (by rw [hw.size]; exact Nat.lt_of_lt_of_eq (show 21 < 93 by omega) rfl) hgd ?_
                  unfold Oper.wp
                  simp only [execOp]
                  go_simp
                  exact hK _ _ (Below.refl _ _) (fun s hs => by cases hs; rfl)
                · intro listed a' w' hw hd K hK
                  have hgd : a'.tmps.getD 21 undef = .bool false := (hw.at_ 4 21 rfl (hd ⟨4, .guard⟩ (by simp) rfl))
                  have hv25 : a'.tmps.getD 25 undef = Value.pointer (some ⟨w.heap.size, 1, none⟩) := (hw.at_ 8 25 rfl (hd ⟨8, .data⟩ (by simp) rfl))
                  obtain ⟨k0, k1, k2, k3, k4, k5, k6, k7, k8, k9⟩ := KX.out.below hw.below
                  refine step_guarded (j := 4) (b := false) (s := 21) rfl rfl (by rw [hw.size]; exact Nat.lt_of_lt_of_eq (show 21 < 93 by omega) rfl) hgd ?_
                  unfold Oper.wp
                  simp only [execOp]
                  go_simp
                  exact hK _ _ (Below.refl _ _) (fun s hs => by cases hs; rfl)
                · intro listed a' w' hw hd K hK
                  have hgd : a'.tmps.getD 21 undef = .bool false := (hw.at_ 4 21 rfl (hd ⟨4, .guard⟩ (by simp) rfl))
                  have hv23 : a'.tmps.getD 23 undef = .int .i64 d := (hw.at_ 6 23 rfl (hd ⟨6, .data⟩ (by simp) rfl))
                  have hv26 : a'.tmps.getD 26 undef = .int .i64 s := (hw.at_ 9 26 rfl (hd ⟨9, .data⟩ (by simp) rfl))
                  have e1 := HEQ.out
                  refine step_guarded (j := 4) (b := false) (s := 21) rfl rfl (by rw [hw.size]; exact Nat.lt_of_lt_of_eq (show 21 < 93 by omega) rfl) hgd ?_
                  unfold Oper.wp
                  simp only [execOp]
                  go_simp
                  exact hK _ _ (Below.refl _ _) (fun s hs => by cases hs; rfl)
                · intro listed a' w' hw hd K hK
                  have hv21 : a'.tmps.getD 21 undef = .bool false := (hw.at_ 4 21 rfl (hd ⟨4, .data⟩ (by simp) rfl))
                  have hv27 : a'.tmps.getD 27 undef = .bool false := (hw.at_ 10 27 rfl (hd ⟨10, .data⟩ (by simp) rfl))
                  refine step_free rfl ?_
                  unfold Oper.wp
                  simp only [execOp]
                  go_simp
                  exact hK _ _ (Below.refl _ _) (fun s hs => by cases hs; rfl)
                · intro listed a' w' hw hd K hK
                  refine step_free rfl ?_
                  apply wp_move
                  exact hK _ _ (Below.refl _ _) (fun s hs => by cases hs; exact (hw.at_ 11 28 rfl (hd ⟨11, .data⟩ (by simp) rfl)))
                · intro listed a' w' hw hd K hK
                  have hgd : a'.tmps.getD 29 undef = .bool false := (hw.at_ 12 29 rfl (hd ⟨12, .guard⟩ (by simp) rfl))
                  refine step_guarded (j := 12) (b := false) (s := 29) rfl rfl (by rw [hw.size]; exact Nat.lt_of_lt_of_eq (show 29 < 93 by omega) rfl) hgd ?_
                  apply wp_move
                  exact hK _ _ (Below.refl _ _) (fun s hs => by cases hs; exact hw.kept 3 (by kernel_rfl))
                · intro listed a' w' hw hd K hK
                  have hgd : a'.tmps.getD 29 undef = .bool false := (hw.at_ 12 29 rfl (hd ⟨12, .guard⟩ (by simp) rfl))
                  have hv30 : a'.tmps.getD 30 undef = .int .i64 (i : Int) := (hw.at_ 13 30 rfl (hd ⟨13, .data⟩ (by simp) rfl))
                  have e1 := HK0.out
                  refine step_guarded (j := 12) (b := false) (s := 29) rfl rfl (by rw [hw.size]; exact Nat.lt_of_lt_of_eq (show 29 < 93 by omega) rfl) hgd ?_
                  unfold Oper.wp
                  simp only [execOp]
                  go_simp
                  exact hK _ _ (Below.refl _ _) (fun s hs => by cases hs; rfl)
                · intro listed a' w' hw hd K hK
                  have hgd : a'.tmps.getD 29 undef = .bool false := (hw.at_ 12 29 rfl (hd ⟨12, .guard⟩ (by simp) rfl))
                  refine step_guarded (j := 12) (b := false) (s := 29) rfl rfl (by rw [hw.size]; exact Nat.lt_of_lt_of_eq (show 29 < 93 by omega) rfl) hgd ?_
                  apply wp_move
                  exact hK _ _ (Below.refl _ _) (fun s hs => by cases hs; exact (hw.at_ 14 31 rfl (hd ⟨14, .data⟩ (by simp) rfl)))
                · intro listed a' w' hw hd K hK
                  have hgd : a'.tmps.getD 32 undef = .bool true := (hw.at_ 15 32 rfl (hd ⟨15, .guard⟩ (by simp) rfl))
                  have hv1 := hw.kept 1 (by kernel_rfl)
                  refine step_guarded (j := 15) (b := true) (s := 32) rfl rfl (by rw [hw.size]; exact Nat.lt_of_lt_of_eq (show 32 < 93 by omega) rfl) hgd ?_
                  unfold Oper.wp
                  simp only [execOp]
                  go_simp
                  exact hK _ _ (Below.refl _ _) (fun s hs => by cases hs; rfl)
                · intro listed a' w' hw hd K hK
                  have hgd : a'.tmps.getD 32 undef = .bool true := (hw.at_ 15 32 rfl (hd ⟨15, .guard⟩ (by simp) rfl))
                  have hv33 : a'.tmps.getD 33 undef = Value.pointer (some ⟨w.heap.size, 4, none⟩) := (hw.at_ 16 33 rfl (hd ⟨16, .data⟩ (by simp) rfl))
                  obtain ⟨k0, k1, k2, k3, k4, k5, k6, k7, k8, k9⟩ := KX.out.below hw.below
                  refine step_guarded (j := 15) (b := true) (s := 32) rfl rfl (by rw [hw.size]; exact Nat.lt_of_lt_of_eq (show 32 < 93 by omega) rfl) hgd ?_
                  unfold Oper.wp
                  simp only [execOp]
                  go_simp
                  exact hK _ _ (Below.refl _ _) (fun s hs => by cases hs; rfl)
                · intro listed a' w' hw hd K hK
                  have hgd : a'.tmps.getD 32 undef = .bool true := (hw.at_ 15 32 rfl (hd ⟨15, .guard⟩ (by simp) rfl))
                  refine step_guarded (j := 15) (b := true) (s := 32) rfl rfl (by rw [hw.size]; exact Nat.lt_of_lt_of_eq (show 32 < 93 by omega) rfl) hgd ?_
                  apply wp_move
                  exact hK _ _ (Below.refl _ _) (fun s hs => by cases hs; exact hw.kept 3 (by kernel_rfl))
                · intro listed a' w' hw hd K hK
                  have hgd : a'.tmps.getD 32 undef = .bool true := (hw.at_ 15 32 rfl (hd ⟨15, .guard⟩ (by simp) rfl))
                  have hv35 : a'.tmps.getD 35 undef = .int .i64 (i : Int) := (hw.at_ 18 35 rfl (hd ⟨18, .data⟩ (by simp) rfl))
                  have e1 := HIJ.out
                  have e2 := HJW.out
                  refine step_guarded (j := 15) (b := true) (s := 32) rfl rfl (by rw [hw.size]; exact Nat.lt_of_lt_of_eq (show 32 < 93 by omega) rfl) hgd ?_
                  unfold Oper.wp
                  simp only [execOp]
                  go_simp
                  exact hK _ _ (Below.refl _ _) (fun s hs => by cases hs; rfl)
                · intro listed a' w' hw hd K hK
                  have hgd : a'.tmps.getD 32 undef = .bool true := (hw.at_ 15 32 rfl (hd ⟨15, .guard⟩ (by simp) rfl))
                  have hv34 : a'.tmps.getD 34 undef = .slice (some ⟨b, off, none⟩) nh ch := (hw.at_ 17 34 rfl (hd ⟨17, .data⟩ (by simp) rfl))
                  have hv36 : a'.tmps.getD 36 undef = .int .i64 (j : Int) := (hw.at_ 19 36 rfl (hd ⟨19, .data⟩ (by simp) rfl))
                  have q0 : (0 : Int) ≤ (j : Int) := by omega
                  have q1 := HJN.out
                  refine step_guarded (j := 15) (b := true) (s := 32) rfl rfl (by rw [hw.size]; exact Nat.lt_of_lt_of_eq (show 32 < 93 by omega) rfl) hgd ?_
                  unfold Oper.wp
                  simp only [execOp]
                  go_simp
                  exact hK _ _ (Below.refl _ _) (fun s hs => by cases hs; rfl)
                · intro listed a' w' hw hd K hK
                  have hgd : a'.tmps.getD 32 undef = .bool true := (hw.at_ 15 32 rfl (hd ⟨15, .guard⟩ (by simp) rfl))
                  have hv37 : a'.tmps.getD 37 undef = Value.pointer (some ⟨b, off + j * 4, none⟩) := (hw.at_ 20 37 rfl (hd ⟨20, .data⟩ (by simp) rfl))
                  refine step_guarded (j := 15) (b := true) (s := 32) rfl rfl (by rw [hw.size]; exact Nat.lt_of_lt_of_eq (show 32 < 93 by omega) rfl) hgd ?_
                  unfold Oper.wp
                  simp only [execOp]
                  go_simp
                  exact hK _ _ (Below.refl _ _) (fun s hs => by cases hs; rfl)
                · intro listed a' w' hw hd K hK
                  have hgd : a'.tmps.getD 32 undef = .bool true := (hw.at_ 15 32 rfl (hd ⟨15, .guard⟩ (by simp) rfl))
                  have hv38 : a'.tmps.getD 38 undef = Value.pointer (some ⟨b, off + j * 4, none⟩) := (hw.at_ 21 38 rfl (hd ⟨21, .data⟩ (by simp) rfl))
                  have c0 := mcell_below HPD.out hw.below
                  refine step_guarded (j := 15) (b := true) (s := 32) rfl rfl (by rw [hw.size]; exact Nat.lt_of_lt_of_eq (show 32 < 93 by omega) rfl) hgd ?_
                  unfold Oper.wp
                  simp only [execOp]
                  go_simp
                  exact hK _ _ (Below.refl _ _) (fun s hs => by cases hs; rfl)
                · intro listed a' w' hw hd K hK
                  have hgd : a'.tmps.getD 32 undef = .bool true := (hw.at_ 15 32 rfl (hd ⟨15, .guard⟩ (by simp) rfl))
                  have hv4 := hw.kept 4 (by kernel_rfl)
                  refine step_guarded (j := 15) (b := true) (s := 32) rfl rfl (by rw [hw.size]; exact Nat.lt_of_lt_of_eq (show 32 < 93 by omega) rfl) hgd ?_
                  unfold Oper.wp
                  simp only [execOp]
                  go_simp
                  exact hK _ _ (Below.refl _ _) (fun s hs => by cases hs; rfl)
                · intro listed a' w' hw hd K hK
                  have hgd : a'.tmps.getD 32 undef = .bool true := (hw.at_ 15 32 rfl (hd ⟨15, .guard⟩ (by simp) rfl))
                  have hv40 : a'.tmps.getD 40 undef = Value.pointer (some ⟨hb, 0, none⟩) := (hw.at_ 23 40 rfl (hd ⟨23, .data⟩ (by simp) rfl))
                  obtain ⟨j0, j1, j2, j3⟩ := HX.out.below hw.below
                  refine step_guarded (j := 15) (b := true) (s := 32) rfl rfl (by rw [hw.size]; exact Nat.lt_of_lt_of_eq (show 32 < 93 by omega) rfl) hgd ?_
                  unfold Oper.wp
                  simp only [execOp]
                  go_simp
                  exact hK _ _ (Below.refl _ _) (fun s hs => by cases hs; rfl)
                · intro listed a' w' hw hd K hK
                  have hgd : a'.tmps.getD 32 undef = .bool true := (hw.at_ 15 32 rfl (hd ⟨15, .guard⟩ (by simp) rfl))
                  have hv39 : a'.tmps.getD 39 undef = .int .i64 pd := (hw.at_ 22 39 rfl (hd ⟨22, .data⟩ (by simp) rfl))
                  have hv41 : a'.tmps.getD 41 undef = .int .i64 d := (hw.at_ 24 41 rfl (hd ⟨24, .data⟩ (by simp) rfl))
                  have e1 := HGE.out
                  refine step_guarded (j := 15) (b := true) (s := 32) rfl rfl (by rw [hw.size]; exact Nat.lt_of_lt_of_eq (show 32 < 93 by omega) rfl) hgd ?_
                  unfold Oper.wp
                  simp only [execOp]
                  go_simp
                  exact hK _ _ (Below.refl _ _) (fun s hs => by cases hs; rfl)
                · intro listed a' w' hw hd K hK
                  have hgd : a'.tmps.getD 29 undef = .bool false := (hw.at_ 12 29 rfl (hd ⟨12, .guard⟩ (by simp) rfl))
                  have hv32 : a'.tmps.getD 32 undef = .bool true := (hw.at_ 15 32 rfl (hd ⟨15, .data⟩ (by simp) rfl))
                  have hv42 : a'.tmps.getD 42 undef = .bool false := (hw.at_ 25 42 rfl (hd ⟨25, .data⟩ (by simp) rfl))
                  refine step_guarded (j := 12) (b := false) (s := 29) rfl rfl (by rw [hw.size]; exact Nat.lt_of_lt_of_eq (show 29 < 93 by omega) rfl) hgd ?_
                  unfold Oper.wp
                  simp only [execOp]
                  go_simp
                  exact hK _ _ (Below.refl _ _) (fun s hs => by cases hs; rfl)
                · intro listed a' w' hw hd K hK
                  have hv29 : a'.tmps.getD 29 undef = .bool false := (hw.at_ 12 29 rfl (hd ⟨12, .data⟩ (by simp) rfl))
                  have hv43 : a'.tmps.getD 43 undef = .bool false := (hw.at_ 26 43 rfl (hd ⟨26, .data⟩ (by simp) rfl))
                  refine step_free rfl ?_
                  unfold Oper.wp
                  simp only [execOp]
                  go_simp
                  exact hK _ _ (Below.refl _ _) (fun s hs => by cases hs; rfl)
              · intro listed a' w' hw hall
                have hk44 : a'.tmps.getD 44 undef = .bool false := hw.at_ 27 44 rfl (hall 27 (Nat.lt_of_lt_of_eq (show 27 < 28 by omega) rfl))
                have BX := Lib.hid (mtr BD.out hw.below)
                have KX2 := Lib.hid (KX.out.below hw.below)
                have HX2 := Lib.hid (HX.out.below hw.below)
                have hp := hw.puts [17, 18, 19, 20, 21, 22, 23, 24, 25, 26, 27, 28, 29, 30, 31, 32, 33, 34, 35, 36, 37, 38, 39, 40, 41, 42, 43, 44] (by kernel_rfl)
                clear hw hall
                rw [hp]
                simp only [List.foldl_cons, List.foldl_nil, hk44]
                generalize a'.tmps.getD 17 undef = u17
                generalize a'.tmps.getD 18 undef = u18
                generalize a'.tmps.getD 19 undef = u19
                generalize a'.tmps.getD 20 undef = u20
                generalize a'.tmps.getD 21 undef = u21
                generalize a'.tmps.getD 22 undef = u22
                generalize a'.tmps.getD 23 undef = u23
                generalize a'.tmps.getD 24 undef = u24
                generalize a'.tmps.getD 25 undef = u25
                generalize a'.tmps.getD 26 undef = u26
                generalize a'.tmps.getD 27 undef = u27
                generalize a'.tmps.getD 28 undef = u28
                generalize a'.tmps.getD 29 undef = u29
                generalize a'.tmps.getD 30 undef = u30
                generalize a'.tmps.getD 31 undef = u31
                generalize a'.tmps.getD 32 undef = u32
                generalize a'.tmps.getD 33 undef = u33
                generalize a'.tmps.getD 34 undef = u34
                generalize a'.tmps.getD 35 undef = u35
                generalize a'.tmps.getD 36 undef = u36
                generalize a'.tmps.getD 37 undef = u37
                generalize a'.tmps.getD 38 undef = u38
                generalize a'.tmps.getD 39 undef = u39
                generalize a'.tmps.getD 40 undef = u40
                generalize a'.tmps.getD 41 undef = u41
                generalize a'.tmps.getD 42 undef = u42
                generalize a'.tmps.getD 43 undef = u43
                clear hp hk44
                simp only [Act.put, List.setIfInBounds_toArray, List.set_cons_succ, List.set_cons_zero]
                generalize hw6 : w' = W6 at *
                clear hw6 KX HX BD
                obtain ⟨k0, k1, k2, k3, k4, k5, k6, k7, k8, k9⟩ := KX2.out
                obtain ⟨j0, j1, j2, j3⟩ := HX2.out
                by_cases hc : (cn : Int) = 0
                · have hcb : ((cn : Int) == 0) = true := by simp [hc]
                  have hcc : ((cn : Int) != 0) = false := by simp [hc]
                  have H_hc := Lib.hid hc
                  clear hc
                  have : r = false := by rw [← HD.out]; exact decide_eq_false (fun hh => (HHK.out hh).2.2.1 (by have := H_hc.out; omega))
                  subst this
                  go_wp2
                  go_ret
                  exact ⟨rfl, BX⟩
                · have hcb : ((cn : Int) == 0) = false := by rw [beq_eq_false_iff_ne]; exact hc
                  have hcc : ((cn : Int) != 0) = true := by rw [bne_iff_ne]; exact hc
                  have H_hc := Lib.hid hc
                  clear hc
                  go_wp2_with fail
                  refine (HCt.out (cn : Int) W6).mono ?_
                  rintro en w2 ⟨rfl, rfl⟩
                  by_cases c1 : ((cn : Int) : Int) < 34359738368
                  · rw [decide_eq_true c1]
                    go_wp2_with fail
                    refine (HCt.out (sq : Int) W6).mono ?_
                    rintro en w2 ⟨rfl, rfl⟩
                    by_cases c2 : ((sq : Int) : Int) < 34359738368
                    · rw [decide_eq_true c2]
                      go_wp2_with fail
                      refine (HCt.out (ic : Int) W6).mono ?_
                      rintro en w2 ⟨rfl, rfl⟩
                      by_cases c3 : ((ic : Int) : Int) < 34359738368
                      · rw [decide_eq_true c3]
                        by_cases hk2 : k = 2
                        · have hk2b : (k == 2) = true := by simp [hk2]
                          have hk2c : (k != 2) = false := by simp [hk2]
                          have H_hk2 := Lib.hid hk2
                          clear hk2
                          have hk3b : (k == 3) = false := by have := H_hk2.out; rw [beq_eq_false_iff_ne]; omega
                          by_cases hq : (sq : Int) = 0
                          · have hqb : ((sq : Int) == 0) = true := by simp [hq]
                            have hqc : ((sq : Int) != 0) = false := by simp [hq]
                            have H_hq := Lib.hid hq
                            clear hq
                            have : r = false := by rw [← HD.out]; exact decide_eq_false (fun hh => (HHK.out hh).2.2.2.2.2.2.1 ⟨H_hk2.out, .inl (by have := H_hq.out; omega)⟩)
                            subst this
                            go_wp2
                            go_ret
                            exact ⟨rfl, BX⟩
                          · have hqb : ((sq : Int) == 0) = false := by rw [beq_eq_false_iff_ne]; exact hq
                            have hqc : ((sq : Int) != 0) = true := by rw [bne_iff_ne]; exact hq
                            have H_hq := Lib.hid hq
                            clear hq
                            by_cases hiz : (ic : Int) = 0
                            · have hizc : ((ic : Int) != 0) = false := by simp [hiz]
                              have H_hiz := Lib.hid hiz
                              clear hiz
                              have HUP := Lib.hid (HYES6.out (by have := H_hc.out; omega) (by unfold cnt; omega) (by unfold cnt; omega) (by unfold cnt; omega) (by have a1 := H_hq.out; have a2 := H_hiz.out; omega) (by have a1 := H_hk2.out; omega))
                              clear HYES6 HHK
                              go_wp2
                              go_roundw
                              case rel => exact ⟨i + 1, by omega, by go_num, BX, KX2, HUP⟩
                              case measure => simp [intOf]; omega
                            · have hizb : ((ic : Int) == 0) = false := by rw [beq_eq_false_iff_ne]; exact hiz
                              have hizc : ((ic : Int) != 0) = true := by rw [bne_iff_ne]; exact hiz
                              have H_hiz := Lib.hid hiz
                              clear hiz
                              have : r = false := by rw [← HD.out]; exact decide_eq_false (fun hh => (HHK.out hh).2.2.2.2.2.2.1 ⟨H_hk2.out, .inr (by have := H_hiz.out; omega)⟩)
                              subst this
                              go_wp2
                              go_ret
                              exact ⟨rfl, BX⟩
                        · have hk2b : (k == 2) = false := by rw [beq_eq_false_iff_ne]; exact hk2
                          have hk2c : (k != 2) = true := by rw [bne_iff_ne]; exact hk2
                          have H_hk2 := Lib.hid hk2
                          clear hk2
                          by_cases hk3 : k = 3
                          · have hk3b : (k == 3) = true := by simp [hk3]
                            have hk3c : (k != 3) = false := by simp [hk3]
                            have H_hk3 := Lib.hid hk3
                            clear hk3
                            by_cases hiz : (ic : Int) = 0
                            · have hizb : ((ic : Int) == 0) = true := by simp [hiz]
                              have hizc : ((ic : Int) != 0) = false := by simp [hiz]
                              have H_hiz := Lib.hid hiz
                              clear hiz
                              have : r = false := by rw [← HD.out]; exact decide_eq_false (fun hh => (HHK.out hh).2.2.2.2.2.2.2 ⟨H_hk3.out, by have := H_hiz.out; omega⟩)
                              subst this
                              go_wp2
                              go_ret
                              exact ⟨rfl, BX⟩
                            · have hizb : ((ic : Int) == 0) = false := by rw [beq_eq_false_iff_ne]; exact hiz
                              have hizc : ((ic : Int) != 0) = true := by rw [bne_iff_ne]; exact hiz
                              have H_hiz := Lib.hid hiz
                              clear hiz
                              have HUP := Lib.hid (HYES6.out (by have := H_hc.out; omega) (by unfold cnt; omega) (by unfold cnt; omega) (by unfold cnt; omega) (by have a1 := H_hk2.out; omega) (by have a1 := H_hiz.out; omega))
                              clear HYES6 HHK
                              go_wp2
                              go_roundw
                              case rel => exact ⟨i + 1, by omega, by go_num, BX, KX2, HUP⟩
                              case measure => simp [intOf]; omega
                          · have hk3b : (k == 3) = false := by rw [beq_eq_false_iff_ne]; exact hk3
                            have hk3c : (k != 3) = true := by rw [bne_iff_ne]; exact hk3
                            have H_hk3 := Lib.hid hk3
                            clear hk3
                            have HUP := Lib.hid (HYES6.out (by have := H_hc.out; omega) (by unfold cnt; omega) (by unfold cnt; omega) (by unfold cnt; omega) (by have a1 := H_hk2.out; omega) (by have a1 := H_hk3.out; omega))
                            clear HYES6 HHK
                            go_wp2
                            go_roundw
                            case rel => exact ⟨i + 1, by omega, by go_num, BX, KX2, HUP⟩
                            case measure => simp [intOf]; omega
                      · rw [decide_eq_false c3]
                        have : r = false := by rw [← HD.out]; exact decide_eq_false (fun hh => c3 (by have := (HHK.out hh).2.2.2.2.2.1; unfold cnt at this; omega))
                        subst this
                        go_wp2
                        go_ret
                        exact ⟨rfl, BX⟩
                    · rw [decide_eq_false c2]
                      have : r = false := by rw [← HD.out]; exact decide_eq_false (fun hh => c2 (by have := (HHK.out hh).2.2.2.2.1; unfold cnt at this; omega))
                      subst this
                      go_wp2
                      go_ret
                      exact ⟨rfl, BX⟩
                  · rw [decide_eq_false c1]
                    have : r = false := by rw [← HD.out]; exact decide_eq_false (fun hh => c1 (by have := (HHK.out hh).2.2.2.1; unfold cnt at this; omega))
                    subst this
                    go_wp2
                    go_ret
                    exact ⟨rfl, BX⟩
          · have HK0 := Lib.hid (show decide ((0 : Int) < (i : Int)) = false from decide_eq_false (by omega))
            have HYES6 := Lib.hid (fun (a1 : cn ≠ 0) (a2 : cnt cn) (a3 : cnt sq) (a4 : cnt ic) (a5 : ¬ (k = 2 ∧ (sq = 0 ∨ ic ≠ 0))) (a6 : ¬ (k = 3 ∧ ic = 0)) => HYES.out ⟨hnode, heq, a1, a2, a3, a4, a5, a6⟩ (fun h => absurd h hi0))
            clear heq hnode HYES HHO HPW
            refine region_steps (n := 93) (KhGc hb w.heap.size i d s) (by kernel_rfl) (by kernel_rfl) rfl (fun _ _ _ _ hb h => KhGc.mono hb h) ?_ ?_
            · refine And.intro ?_ (And.intro ?_ (And.intro ?_ (And.intro ?_ (And.intro ?_ (And.intro ?_ (And.intro ?_ (And.intro ?_ (And.intro ?_ (And.intro ?_ (And.intro ?_ (And.intro ?_ (And.intro ?_ (And.intro ?_ (And.intro ?_ (And.intro ?_ (And.intro ?_ (And.intro ?_ (And.intro ?_ (And.intro ?_ (And.intro ?_ (And.intro ?_ (And.intro ?_ (And.intro ?_ (And.intro ?_ (And.intro ?_ (And.intro ?_ (And.intro ?_ (True.intro))))))))))))))))))))))))))))
              · intro listed a' w' hw hd K hK
                have hv4 := hw.kept 4 (by kernel_rfl)
                refine step_free rfl ?_
                unfold Oper.wp
                simp only [execOp]
                go_simp
                exact hK _ _ (Below.refl _ _) (fun s hs => by cases hs; rfl)
              · intro listed a' w' hw hd K hK
                have hv17 : a'.tmps.getD 17 undef = Value.pointer (some ⟨hb, 0, none⟩) := (hw.at_ 0 17 rfl (hd ⟨0, .data⟩ (by simp) rfl))
                obtain ⟨j0, j1, j2, j3⟩ := HX.out.below hw.below
                refine step_free rfl ?_
                unfold Oper.wp
                simp only [execOp]
                go_simp
                exact hK _ _ (Below.refl _ _) (fun s hs => by cases hs; rfl)
              · intro listed a' w' hw hd K hK
                have hv18 : a'.tmps.getD 18 undef = .int .i64 d := (hw.at_ 1 18 rfl (hd ⟨1, .data⟩ (by simp) rfl))
                refine step_free rfl ?_
                unfold Oper.wp
                simp only [execOp]
                go_simp
                refine (HNd.out w').mono ?_
                rintro en w2 ⟨rfl, rfl⟩
                exact hK _ _ (Below.refl _ _) (fun s hs => by cases hs; rfl)
              · intro listed a' w' hw hd K hK
                have hv19 : a'.tmps.getD 19 undef = .bool true := (hw.at_ 2 19 rfl (hd ⟨2, .data⟩ (by simp) rfl))
                refine step_free rfl ?_
                unfold Oper.wp
                simp only [execOp]
                go_simp
                exact hK _ _ (Below.refl _ _) (fun s hs => by cases hs; rfl)
              · intro listed a' w' hw hd K hK
                refine step_free rfl ?_
                apply wp_move
                exact hK _ _ (Below.refl _ _) (fun s hs => by cases hs; exact (hw.at_ 3 20 rfl (hd ⟨3, .data⟩ (by simp) rfl)))
              · intro listed a' w' hw hd K hK
                have hgd : a'.tmps.getD 21 undef = .bool false := (hw.at_ 4 21 rfl (hd ⟨4, .guard⟩ (by simp) rfl))
                have hv4 := hw.kept 4 (by kernel_rfl)
                refine step_guarded (j := 4) (b := false) (s := 21) rfl rfl (by rw [hw.size]; exact Nat.lt_of_lt_of_eq (show 21 < 93 by omega) rfl) hgd ?_
                unfold Oper.wp
                simp only [execOp]
                go_simp
                exact hK _ _ (Below.refl _ _) (fun s hs => by cases hs; rfl)
              · intro listed a' w' hw hd K hK
                have hgd : a'.tmps.getD 21 undef = .bool false := (hw.at_ 4 21 rfl (hd ⟨4, .guard⟩ (by simp) rfl))
                have hv22 : a'.tmps.getD 22 undef = Value.pointer (some ⟨hb, 0, none⟩) := (hw.at_ 5 22 rfl (hd ⟨5, .data⟩ (by simp) rfl))
                obtain ⟨j0, j1, j2, j3⟩ := HX.out.below hw.below
                refine step_guarded (j := 4) (b := false) (s := 21) rfl rfl (by rw [hw.size]; exact Nat.lt_of_lt_of_eq (show 21 < 93 by omega) rfl) hgd ?_
                unfold Oper.wp
                simp only [execOp]
                go_simp
                exact hK _ _ (Below.refl _ _) (fun s hs => by cases hs; rfl)
              · intro listed a' w' hw hd K hK
                have hgd : a'.tmps.getD 21 undef = .bool false := (hw.at_ 4 21 rfl (hd ⟨4, .guard⟩ (by simp) rfl))
                have hv1 := hw.kept 1 (by kernel_rfl)
                refine step_guarded (j := 4) (b := false) (s := 21) rfl rfl (by rw [hw.size]; exact Nat.lt_of_lt_of_eq (show 21 < 93 by omega) rfl) hgd ?_
                unfold Oper.wp
                simp only [execOp]
                go_simp
                exact hK _ _ (Below.refl _ _) (fun s hs => by cases hs; rfl)
              · intro listed a' w' hw hd K hK
                have hgd : a'.tmps.getD 21 undef = .bool false := (hw.at_ 4 21 rfl (hd ⟨4, .guard⟩ (by simp) rfl))
                have hv24 : a'.tmps.getD 24 undef = Value.pointer (some ⟨w.heap.size, 1, none⟩) := (hw.at_ 7 24 rfl (hd ⟨7, .data⟩ (by simp) rfl))
                refine step_guarded (j := 4) (b := false) (s := 21) rfl rfl (by rw [hw.size]; exact Nat.lt_of_lt_of_eq (show 21 < 93 by omega) rfl) hgd ?_
                unfold Oper.wp
                simp only [execOp]
                go_simp
                exact hK _ _ (Below.refl _ _) (fun s hs => by cases hs; rfl)
              · intro listed a' w' hw hd K hK
                have hgd : a'.tmps.getD 21 undef = .bool false := (hw.at_ 4 21 rfl (hd ⟨4, .guard⟩ (by simp) rfl))
                have hv25 : a'.tmps.getD 25 undef = Value.pointer (some ⟨w.heap.size, 1, none⟩) := (hw.at_ 8 25 rfl (hd ⟨8, .data⟩ (by simp) rfl))
                obtain ⟨k0, k1, k2, k3, k4, k5, k6, k7, k8, k9⟩ := KX.out.below hw.below
                refine step_guarded (j := 4) (b := false) (s := 21) rfl rfl (by rw [hw.size]; exact Nat.lt_of_lt_of_eq (show 21 < 93 by omega) rfl) hgd ?_
                unfold Oper.wp
                simp only [execOp]
                go_simp
                exact hK _ _ (Below.refl _ _) (fun s hs => by cases hs; rfl)
              · intro listed a' w' hw hd K hK
                have hgd : a'.tmps.getD 21 undef = .bool false := (hw.at_ 4 21 rfl (hd ⟨4, .guard⟩ (by simp) rfl))
                have hv23 : a'.tmps.getD 23 undef = .int .i64 d := (hw.at_ 6 23 rfl (hd ⟨6, .data⟩ (by simp) rfl))
                have hv26 : a'.tmps.getD 26 undef = .int .i64 s := (hw.at_ 9 26 rfl (hd ⟨9, .data⟩ (by simp) rfl))
                have e1 := HEQ.out
                refine step_guarded (j := 4) (b := false) (s := 21) rfl rfl (by rw [hw.size]; exact Nat.lt_of_lt_of_eq (show 21 < 93 by omega) rfl) hgd ?_
                unfold Oper.wp
                simp only [execOp]
                go_simp
                exact hK _ _ (Below.refl _ _) (fun s hs => by cases hs; rfl)
              · intro listed a' w' hw hd K hK
                have hv21 : a'.tmps.getD 21 undef = .bool false := (hw.at_ 4 21 rfl (hd ⟨4, .data⟩ (by simp) rfl))
                have hv27 : a'.tmps.getD 27 undef = .bool false := (hw.at_ 10 27 rfl (hd ⟨10, .data⟩ (by simp) rfl))
                refine step_free rfl ?_
                unfold Oper.wp
                simp only [execOp]
                go_simp
                exact hK _ _ (Below.refl _ _) (fun s hs => by cases hs; rfl)
              · intro listed a' w' hw hd K hK
                refine step_free rfl ?_
                apply wp_move
                exact hK _ _ (Below.refl _ _) (fun s hs => by cases hs; exact (hw.at_ 11 28 rfl (hd ⟨11, .data⟩ (by simp) rfl)))
              · intro listed a' w' hw hd K hK
                have hgd : a'.tmps.getD 29 undef = .bool false := (hw.at_ 12 29 rfl (hd ⟨12, .guard⟩ (by simp) rfl))
                refine step_guarded (j := 12) (b := false) (s := 29) rfl rfl (by rw [hw.size]; exact Nat.lt_of_lt_of_eq (show 29 < 93 by omega) rfl) hgd ?_
                apply wp_move
                exact hK _ _ (Below.refl _ _) (fun s hs => by cases hs; exact hw.kept 3 (by kernel_rfl))
              · intro listed a' w' hw hd K hK
                have hgd : a'.tmps.getD 29 undef = .bool false := (hw.at_ 12 29 rfl (hd ⟨12, .guard⟩ (by simp) rfl))
                have hv30 : a'.tmps.getD 30 undef = .int .i64 (i : Int) := (hw.at_ 13 30 rfl (hd ⟨13, .data⟩ (by simp) rfl))
                have e1 := HK0.out
                refine step_guarded (j := 12) (b := false) (s := 29) rfl rfl (by rw [hw.size]; exact Nat.lt_of_lt_of_eq (show 29 < 93 by omega) rfl) hgd ?_
                unfold Oper.wp
                simp only [execOp]
                go_simp
                exact hK _ _ (Below.refl _ _) (fun s hs => by cases hs; rfl)
              · intro listed a' w' hw hd K hK
                have hgd : a'.tmps.getD 29 undef = .bool false := (hw.at_ 12 29 rfl (hd ⟨12, .guard⟩ (by simp) rfl))
                refine step_guarded (j := 12) (b := false) (s := 29) rfl rfl (by rw [hw.size]; exact Nat.lt_of_lt_of_eq (show 29 < 93 by omega) rfl) hgd ?_
                apply wp_move
                exact hK _ _ (Below.refl _ _) (fun s hs => by cases hs; exact (hw.at_ 14 31 rfl (hd ⟨14, .data⟩ (by simp) rfl)))
              · intro listed a' w' hw hd K hK
                have hgd : a'.tmps.getD 32 undef = .bool false := (hw.at_ 15 32 rfl (hd ⟨15, .guard⟩ (by simp) rfl))
                refine step_unwanted (j := 15) (b := true) (s := 32) rfl rfl (by rw [hgd]; exact fun h => by cases h) ?_
                exact hK _ _ (Below.refl _ _) (fun s hs => by cases hs; rfl)
              · intro listed a' w' hw hd K hK
                have hgd : a'.tmps.getD 32 undef = .bool false := (hw.at_ 15 32 rfl (hd ⟨15, .guard⟩ (by simp) rfl))
                refine step_unwanted (j := 15) (b := true) (s := 32) rfl rfl (by rw [hgd]; exact fun h => by cases h) ?_
                exact hK _ _ (Below.refl _ _) (fun s hs => by cases hs; rfl)
              · intro listed a' w' hw hd K hK
                have hgd : a'.tmps.getD 32 undef = .bool false := (hw.at_ 15 32 rfl (hd ⟨15, .guard⟩ (by simp) rfl))
                refine step_unwanted (j := 15) (b := true) (s := 32) rfl rfl (by rw [hgd]; exact fun h => by cases h) ?_
                exact hK _ _ (Below.refl _ _) (fun s hs => by cases hs; rfl)
              · intro listed a' w' hw hd K hK
                have hgd : a'.tmps.getD 32 undef = .bool false := (hw.at_ 15 32 rfl (hd ⟨15, .guard⟩ (by simp) rfl))
                refine step_unwanted (j := 15) (b := true) (s := 32) rfl rfl (by rw [hgd]; exact fun h => by cases h) ?_
                exact hK _ _ (Below.refl _ _) (fun s hs => by cases hs; rfl)
              · intro listed a' w' hw hd K hK
                have hgd : a'.tmps.getD 32 undef = .bool false := (hw.at_ 15 32 rfl (hd ⟨15, .guard⟩ (by simp) rfl))
                refine step_unwanted (j := 15) (b := true) (s := 32) rfl rfl (by rw [hgd]; exact fun h => by cases h) ?_
                exact hK _ _ (Below.refl _ _) (fun s hs => by cases hs; rfl)
              · intro listed a' w' hw hd K hK
                have hgd : a'.tmps.getD 32 undef = .bool false := (hw.at_ 15 32 rfl (hd ⟨15, .guard⟩ (by simp) rfl))
                refine step_unwanted (j := 15) (b := true) (s := 32) rfl rfl (by rw [hgd]; exact fun h => by cases h) ?_
                exact hK _ _ (Below.refl _ _) (fun s hs => by cases hs; rfl)
              · intro listed a' w' hw hd K hK
                have hgd : a'.tmps.getD 32 undef = .bool false := (hw.at_ 15 32 rfl (hd ⟨15, .guard⟩ (by simp) rfl))
                refine step_unwanted (j := 15) (b := true) (s := 32) rfl rfl (by rw [hgd]; exact fun h => by cases h) ?_
                exact hK _ _ (Below.refl _ _) (fun s hs => by cases hs; rfl)
              · intro listed a' w' hw hd K hK
                have hgd : a'.tmps.getD 32 undef = .bool false := (hw.at_ 15 32 rfl (hd ⟨15, .guard⟩ (by simp) rfl))
                refine step_unwanted (j := 15) (b := true) (s := 32) rfl rfl (by rw [hgd]; exact fun h => by cases h) ?_
                exact hK _ _ (Below.refl _ _) (fun s hs => by cases hs; rfl)
              · intro listed a' w' hw hd K hK
                have hgd : a'.tmps.getD 32 undef = .bool false := (hw.at_ 15 32 rfl (hd ⟨15, .guard⟩ (by simp) rfl))
                refine step_unwanted (j := 15) (b := true) (s := 32) rfl rfl (by rw [hgd]; exact fun h => by cases h) ?_
                exact hK _ _ (Below.refl _ _) (fun s hs => by cases hs; rfl)
              · intro listed a' w' hw hd K hK
                have hgd : a'.tmps.getD 32 undef = .bool false := (hw.at_ 15 32 rfl (hd ⟨15, .guard⟩ (by simp) rfl))
                refine step_unwanted (j := 15) (b := true) (s := 32) rfl rfl (by rw [hgd]; exact fun h => by cases h) ?_
                exact hK _ _ (Below.refl _ _) (fun s hs => by cases hs; rfl)
              · intro listed a' w' hw hd K hK
                have hgd : a'.tmps.getD 29 undef = .bool false := (hw.at_ 12 29 rfl (hd ⟨12, .guard⟩ (by simp) rfl))
                have hv32 : a'.tmps.getD 32 undef = .bool false := (hw.at_ 15 32 rfl (hd ⟨15, .data⟩ (by simp) rfl))
                have hv42 : a'.tmps.getD 42 undef = undef := (hw.at_ 25 42 rfl (hd ⟨25, .data⟩ (by simp) rfl))
                refine step_guarded (j := 12) (b := false) (s := 29) rfl rfl (by rw [hw.size]; exact Nat.lt_of_lt_of_eq (show 29 < 93 by omega) rfl) hgd ?_
                unfold Oper.wp
                simp only [execOp]
                go_simp
                exact hK _ _ (Below.refl _ _) (fun s hs => by cases hs; rfl)
              · intro listed a' w' hw hd K hK
                have hv29 : a'.tmps.getD 29 undef = .bool false := (hw.at_ 12 29 rfl (hd ⟨12, .data⟩ (by simp) rfl))
                have hv43 : a'.tmps.getD 43 undef = .bool false := (hw.at_ 26 43 rfl (hd ⟨26, .data⟩ (by simp) rfl))
                refine step_free rfl ?_
                unfold Oper.wp
                simp only [execOp]
                go_simp
                exact hK _ _ (Below.refl _ _) (fun s hs => by cases hs; rfl)
            · intro listed a' w' hw hall
              have hk44 : a'.tmps.getD 44 undef = .bool false := hw.at_ 27 44 rfl (hall 27 (Nat.lt_of_lt_of_eq (show 27 < 28 by omega) rfl))
              have BX := Lib.hid (mtr BD.out hw.below)
              have KX2 := Lib.hid (KX.out.below hw.below)
              have HX2 := Lib.hid (HX.out.below hw.below)
              have hp := hw.puts [17, 18, 19, 20, 21, 22, 23, 24, 25, 26, 27, 28, 29, 30, 31, 32, 33, 34, 35, 36, 37, 38, 39, 40, 41, 42, 43, 44] (by kernel_rfl)
              clear hw hall
              rw [hp]
              simp only [List.foldl_cons, List.foldl_nil, hk44]
              generalize a'.tmps.getD 17 undef = u17
              generalize a'.tmps.getD 18 undef = u18
              generalize a'.tmps.getD 19 undef = u19
              generalize a'.tmps.getD 20 undef = u20
              generalize a'.tmps.getD 21 undef = u21
              generalize a'.tmps.getD 22 undef = u22
              generalize a'.tmps.getD 23 undef = u23
              generalize a'.tmps.getD 24 undef = u24
              generalize a'.tmps.getD 25 undef = u25
              generalize a'.tmps.getD 26 undef = u26
              generalize a'.tmps.getD 27 undef = u27
              generalize a'.tmps.getD 28 undef = u28
              generalize a'.tmps.getD 29 undef = u29
              generalize a'.tmps.getD 30 undef = u30
              generalize a'.tmps.getD 31 undef = u31
              generalize a'.tmps.getD 32 undef = u32
              generalize a'.tmps.getD 33 undef = u33
              generalize a'.tmps.getD 34 undef = u34
              generalize a'.tmps.getD 35 undef = u35
              generalize a'.tmps.getD 36 undef = u36
              generalize a'.tmps.getD 37 undef = u37
              generalize a'.tmps.getD 38 undef = u38
              generalize a'.tmps.getD 39 undef = u39
              generalize a'.tmps.getD 40 undef = u40
              generalize a'.tmps.getD 41 undef = u41
              generalize a'.tmps.getD 42 undef = u42
              generalize a'.tmps.getD 43 undef = u43
              clear hp hk44
              simp only [Act.put, List.setIfInBounds_toArray, List.set_cons_succ, List.set_cons_zero]
              generalize hw6 : w' = W6 at *
              clear hw6 KX HX BD
              obtain ⟨k0, k1, k2, k3, k4, k5, k6, k7, k8, k9⟩ := KX2.out
              obtain ⟨j0, j1, j2, j3⟩ := HX2.out
              by_cases hc : (cn : Int) = 0
              · have hcb : ((cn : Int) == 0) = true := by simp [hc]
                have hcc : ((cn : Int) != 0) = false := by simp [hc]
                have H_hc := Lib.hid hc
                clear hc
                have : r = false := by rw [← HD.out]; exact decide_eq_false (fun hh => (HHK.out hh).2.2.1 (by have := H_hc.out; omega))
                subst this
                go_wp2
                go_ret
                exact ⟨rfl, BX⟩
              · have hcb : ((cn : Int) == 0) = false := by rw [beq_eq_false_iff_ne]; exact hc
                have hcc : ((cn : Int) != 0) = true := by rw [bne_iff_ne]; exact hc
                have H_hc := Lib.hid hc
                clear hc
                go_wp2_with fail
                refine (HCt.out (cn : Int) W6).mono ?_
                rintro en w2 ⟨rfl, rfl⟩
                by_cases c1 : ((cn : Int) : Int) < 34359738368
                · rw [decide_eq_true c1]
                  go_wp2_with fail
                  refine (HCt.out (sq : Int) W6).mono ?_
                  rintro en w2 ⟨rfl, rfl⟩
                  by_cases c2 : ((sq : Int) : Int) < 34359738368
                  · rw [decide_eq_true c2]
                    go_wp2_with fail
                    refine (HCt.out (ic : Int) W6).mono ?_
                    rintro en w2 ⟨rfl, rfl⟩
                    by_cases c3 : ((ic : Int) : Int) < 34359738368
                    · rw [decide_eq_true c3]
                      by_cases hk2 : k = 2
                      · have hk2b : (k == 2) = true := by simp [hk2]
                        have hk2c : (k != 2) = false := by simp [hk2]
                        have H_hk2 := Lib.hid hk2
                        clear hk2
                        have hk3b : (k == 3) = false := by have := H_hk2.out; rw [beq_eq_false_iff_ne]; omega
                        by_cases hq : (sq : Int) = 0
                        · have hqb : ((sq : Int) == 0) = true := by simp [hq]
                          have hqc : ((sq : Int) != 0) = false := by simp [hq]
                          have H_hq := Lib.hid hq
                          clear hq
                          have : r = false := by rw [← HD.out]; exact decide_eq_false (fun hh => (HHK.out hh).2.2.2.2.2.2.1 ⟨H_hk2.out, .inl (by have := H_hq.out; omega)⟩)
                          subst this
                          go_wp2
                          go_ret
                          exact ⟨rfl, BX⟩
                        · have hqb : ((sq : Int) == 0) = false := by rw [beq_eq_false_iff_ne]; exact hq
                          have hqc : ((sq : Int) != 0) = true := by rw [bne_iff_ne]; exact hq
                          have H_hq := Lib.hid hq
                          clear hq
                          by_cases hiz : (ic : Int) = 0
                          · have hizc : ((ic : Int) != 0) = false := by simp [hiz]
                            have H_hiz := Lib.hid hiz
                            clear hiz
                            have HUP := Lib.hid (HYES6.out (by have := H_hc.out; omega) (by unfold cnt; omega) (by unfold cnt; omega) (by unfold cnt; omega) (by have a1 := H_hq.out; have a2 := H_hiz.out; omega) (by have a1 := H_hk2.out; omega))
                            clear HYES6 HHK
                            go_wp2
                            go_roundw
                            case rel => exact ⟨i + 1, by omega, by go_num, BX, KX2, HUP⟩
                            case measure => simp [intOf]; omega
                          · have hizb : ((ic : Int) == 0) = false := by rw [beq_eq_false_iff_ne]; exact hiz
                            have hizc : ((ic : Int) != 0) = true := by rw [bne_iff_ne]; exact hiz
                            have H_hiz := Lib.hid hiz
                            clear hiz
                            have : r = false := by rw [← HD.out]; exact decide_eq_false (fun hh => (HHK.out hh).2.2.2.2.2.2.1 ⟨H_hk2.out, .inr (by have := H_hiz.out; omega)⟩)
                            subst this
                            go_wp2
                            go_ret
                            exact ⟨rfl, BX⟩
                      · have hk2b : (k == 2) = false := by rw [beq_eq_false_iff_ne]; exact hk2
                        have hk2c : (k != 2) = true := by rw [bne_iff_ne]; exact hk2
                        have H_hk2 := Lib.hid hk2
                        clear hk2
                        by_cases hk3 : k = 3
                        · have hk3b : (k == 3) = true := by simp [hk3]
                          have hk3c : (k != 3) = false := by simp [hk3]
                          have H_hk3 := Lib.hid hk3
                          clear hk3
                          by_cases hiz : (ic : Int) = 0
                          · have hizb : ((ic : Int) == 0) = true := by simp [hiz]
                            have hizc : ((ic : Int) != 0) = false := by simp [hiz]
                            have H_hiz := Lib.hid hiz
                            clear hiz
                            have : r = false := by rw [← HD.out]; exact decide_eq_false (fun hh => (HHK.out hh).2.2.2.2.2.2.2 ⟨H_hk3.out, by have := H_hiz.out; omega⟩)
                            subst this
                            go_wp2
                            go_ret
                            exact ⟨rfl, BX⟩
                          · have hizb : ((ic : Int) == 0) = false := by rw [beq_eq_false_iff_ne]; exact hiz
                            have hizc : ((ic : Int) != 0) = true := by rw [bne_iff_ne]; exact hiz
                            have H_hiz := Lib.hid hiz
                            clear hiz
                            have HUP := Lib.hid (HYES6.out (by have := H_hc.out; omega) (by unfold cnt; omega) (by unfold cnt; omega) (by unfold cnt; omega) (by have a1 := H_hk2.out; omega) (by have a1 := H_hiz.out; omega))
                            clear HYES6 HHK
                            go_wp2
                            go_roundw
                            case rel => exact ⟨i + 1, by omega, by go_num, BX, KX2, HUP⟩
                            case measure => simp [intOf]; omega
                        · have hk3b : (k == 3) = false := by rw [beq_eq_false_iff_ne]; exact hk3
                          have hk3c : (k != 3) = true := by rw [bne_iff_ne]; exact hk3
                          have H_hk3 := Lib.hid hk3
                          clear hk3
                          have HUP := Lib.hid (HYES6.out (by have := H_hc.out; omega) (by unfold cnt; omega) (by unfold cnt; omega) (by unfold cnt; omega) (by have a1 := H_hk2.out; omega) (by have a1 := H_hk3.out; omega))
                          clear HYES6 HHK
                          go_wp2
                          go_roundw
                          case rel => exact ⟨i + 1, by omega, by go_num, BX, KX2, HUP⟩
                          case measure => simp [intOf]; omega
                    · rw [decide_eq_false c3]
                      have : r = false := by rw [← HD.out]; exact decide_eq_false (fun hh => c3 (by have := (HHK.out hh).2.2.2.2.2.1; unfold cnt at this; omega))
                      subst this
                      go_wp2
                      go_ret
                      exact ⟨rfl, BX⟩
                  · rw [decide_eq_false c2]
                    have : r = false := by rw [← HD.out]; exact decide_eq_false (fun hh => c2 (by have := (HHK.out hh).2.2.2.2.1; unfold cnt at this; omega))
                    subst this
                    go_wp2
                    go_ret
                    exact ⟨rfl, BX⟩
                · rw [decide_eq_false c1]
                  have : r = false := by rw [← HD.out]; exact decide_eq_false (fun hh => c1 (by have := (HHK.out hh).2.2.2.1; unfold cnt at this; omega))
                  subst this
                  go_wp2
                  go_ret
                  exact ⟨rfl, BX⟩
      · rw [decide_eq_false hnode] at HNd
        have HNO := Lib.hid (fun hh : headsK k s l => hnode (HHK.out hh).1)
        clear hnode
        refine region_steps (n := 93) (KhGa hb d) (by kernel_rfl) (by kernel_rfl) rfl (fun _ _ _ _ hb h => KhGa.mono hb h) ?_ ?_
        · refine And.intro ?_ (And.intro ?_ (And.intro ?_ (And.intro ?_ (And.intro ?_ (And.intro ?_ (And.intro ?_ (And.intro ?_ (And.intro ?_ (And.intro ?_ (And.intro ?_ (And.intro ?_ (And.intro ?_ (And.intro ?_ (And.intro ?_ (And.intro ?_ (And.intro ?_ (And.intro ?_ (And.intro ?_ (And.intro ?_ (And.intro ?_ (And.intro ?_ (And.intro ?_ (And.intro ?_ (And.intro ?_ (And.intro ?_ (And.intro ?_ (And.intro ?_ (True.intro))))))))))))))))))))))))))))
          · intro listed a' w' hw hd K hK
            have hv4 := hw.kept 4 (by kernel_rfl)
            refine step_free rfl ?_
            unfold Oper.wp
            simp only [execOp]
            go_simp
            exact hK _ _ (Below.refl _ _) (fun s hs => by cases hs; rfl)
          · intro listed a' w' hw hd K hK
            have hv17 : a'.tmps.getD 17 undef = Value.pointer (some ⟨hb, 0, none⟩) := (hw.at_ 0 17 rfl (hd ⟨0, .data⟩ (by simp) rfl))
            obtain ⟨j0, j1, j2, j3⟩ := HX.out.below hw.below
            refine step_free rfl ?_
            unfold Oper.wp
            simp only [execOp]
            go_simp
            exact hK _ _ (Below.refl _ _) (fun s hs => by cases hs; rfl)
          · intro listed a' w' hw hd K hK
            have hv18 : a'.tmps.getD 18 undef = .int .i64 d := (hw.at_ 1 18 rfl (hd ⟨1, .data⟩ (by simp) rfl))
            refine step_free rfl ?_
            unfold Oper.wp
            simp only [execOp]
            go_simp
            refine (HNd.out w').mono ?_
            rintro en w2 ⟨rfl, rfl⟩
            exact hK _ _ (Below.refl _ _) (fun s hs => by cases hs; rfl)
          · intro listed a' w' hw hd K hK
            have hv19 : a'.tmps.getD 19 undef = .bool false := (hw.at_ 2 19 rfl (hd ⟨2, .data⟩ (by simp) rfl))
            refine step_free rfl ?_
            unfold Oper.wp
            simp only [execOp]
            go_simp
            exact hK _ _ (Below.refl _ _) (fun s hs => by cases hs; rfl)
          · intro listed a' w' hw hd K hK
            refine step_free rfl ?_
            apply wp_move
            exact hK _ _ (Below.refl _ _) (fun s hs => by cases hs; exact (hw.at_ 3 20 rfl (hd ⟨3, .data⟩ (by simp) rfl)))
          · intro listed a' w' hw hd K hK
            have hgd : a'.tmps.getD 21 undef = .bool true := (hw.at_ 4 21 rfl (hd ⟨4, .guard⟩ (by simp) rfl))
            refine step_unwanted (j := 4) (b := false) (s := 21) rfl rfl (by rw [hgd]; exact fun h => by cases h) ?_
            exact hK _ _ (Below.refl _ _) (fun s hs => by cases hs; rfl)
          · intro listed a' w' hw hd K hK
            have hgd : a'.tmps.getD 21 undef = .bool true := (hw.at_ 4 21 rfl (hd ⟨4, .guard⟩ (by simp) rfl))
            refine step_unwanted (j := 4) (b := false) (s := 21) rfl rfl (by rw [hgd]; exact fun h => by cases h) ?_
            exact hK _ _ (Below.refl _ _) (fun s hs => by cases hs; rfl)
          · intro listed a' w' hw hd K hK
            have hgd : a'.tmps.getD 21 undef = .bool true := (hw.at_ 4 21 rfl (hd ⟨4, .guard⟩ (by simp) rfl))
            refine step_unwanted (j := 4) (b := false) (s := 21) rfl rfl (by rw [hgd]; exact fun h => by cases h) ?_
            exact hK _ _ (Below.refl _ _) (fun s hs => by cases hs; rfl)
          · intro listed a' w' hw hd K hK
            have hgd : a'.tmps.getD 21 undef = .bool true := (hw.at_ 4 21 rfl (hd ⟨4, .guard⟩ (by simp) rfl))
            refine step_unwanted (j := 4) (b := false) (s := 21) rfl rfl (by rw [hgd]; exact fun h => by cases h) ?_
            exact hK _ _ (Below.refl _ _) (fun s hs => by cases hs; rfl)
          · intro listed a' w' hw hd K hK
            have hgd : a'.tmps.getD 21 undef = .bool true := (hw.at_ 4 21 rfl (hd ⟨4, .guard⟩ (by simp) rfl))
            refine step_unwanted (j := 4) (b := false) (s := 21) rfl rfl (by rw [hgd]; exact fun h => by cases h) ?_
            exact hK _ _ (Below.refl _ _) (fun s hs => by cases hs; rfl)
          · intro listed a' w' hw hd K hK
            have hgd : a'.tmps.getD 21 undef = .bool true := (hw.at_ 4 21 rfl (hd ⟨4, .guard⟩ (by simp) rfl))
            refine step_unwanted (j := 4) (b := false) (s := 21) rfl rfl (by rw [hgd]; exact fun h => by cases h) ?_
            exact hK _ _ (Below.refl _ _) (fun s hs => by cases hs; rfl)
          · intro listed a' w' hw hd K hK
            have hv21 : a'.tmps.getD 21 undef = .bool true := (hw.at_ 4 21 rfl (hd ⟨4, .data⟩ (by simp) rfl))
            have hv27 : a'.tmps.getD 27 undef = undef := (hw.at_ 10 27 rfl (hd ⟨10, .data⟩ (by simp) rfl))
            refine step_free rfl ?_
            unfold Oper.wp
            simp only [execOp]
            go_simp
            exact hK _ _ (Below.refl _ _) (fun s hs => by cases hs; rfl)
          · intro listed a' w' hw hd K hK
            refine step_free rfl ?_
            apply wp_move
            exact hK _ _ (Below.refl _ _) (fun s hs => by cases hs; exact (hw.at_ 11 28 rfl (hd ⟨11, .data⟩ (by simp) rfl)))
          · intro listed a' w' hw hd K hK
            have hgd : a'.tmps.getD 29 undef = .bool true := (hw.at_ 12 29 rfl (hd ⟨12, .guard⟩ (by simp) rfl))
            refine step_unwanted (j := 12) (b := false) (s := 29) rfl rfl (by rw [hgd]; exact fun h => by cases h) ?_
            exact hK _ _ (Below.refl _ _) (fun s hs => by cases hs; rfl)
          · intro listed a' w' hw hd K hK
            have hgd : a'.tmps.getD 29 undef = .bool true := (hw.at_ 12 29 rfl (hd ⟨12, .guard⟩ (by simp) rfl))
            refine step_unwanted (j := 12) (b := false) (s := 29) rfl rfl (by rw [hgd]; exact fun h => by cases h) ?_
            exact hK _ _ (Below.refl _ _) (fun s hs => by cases hs; rfl)
          · intro listed a' w' hw hd K hK
            have hgd : a'.tmps.getD 29 undef = .bool true := (hw.at_ 12 29 rfl (hd ⟨12, .guard⟩ (by simp) rfl))
            refine step_unwanted (j := 12) (b := false) (s := 29) rfl rfl (by rw [hgd]; exact fun h => by cases h) ?_
            exact hK _ _ (Below.refl _ _) (fun s hs => by cases hs; rfl)
          · intro listed a' w' hw hd K hK
            have hgd : a'.tmps.getD 32 undef = undef := (hw.at_ 15 32 rfl (hd ⟨15, .guard⟩ (by simp) rfl))
            refine step_unwanted (j := 15) (b := true) (s := 32) rfl rfl (by rw [hgd]; exact fun h => by cases h) ?_
            exact hK _ _ (Below.refl _ _) (fun s hs => by cases hs; rfl)
          · intro listed a' w' hw hd K hK
            have hgd : a'.tmps.getD 32 undef = undef := (hw.at_ 15 32 rfl (hd ⟨15, .guard⟩ (by simp) rfl))
            refine step_unwanted (j := 15) (b := true) (s := 32) rfl rfl (by rw [hgd]; exact fun h => by cases h) ?_
            exact hK _ _ (Below.refl _ _) (fun s hs => by cases hs; rfl)
          · intro listed a' w' hw hd K hK
            have hgd : a'.tmps.getD 32 undef = undef := (hw.at_ 15 32 rfl (hd ⟨15, .guard⟩ (by simp) rfl))
            refine step_unwanted (j := 15) (b := true) (s := 32) rfl rfl (by rw [hgd]; exact fun h => by cases h) ?_
            exact hK _ _ (Below.refl _ _) (fun s hs => by cases hs; rfl)
          · intro listed a' w' hw hd K hK
            have hgd : a'.tmps.getD 32 undef = undef := (hw.at_ 15 32 rfl (hd ⟨15, .guard⟩ (by simp) rfl))
            refine step_unwanted (j := 15) (b := true) (s := 32) rfl rfl (by rw [hgd]; exact fun h => by cases h) ?_
            exact hK _ _ (Below.refl _ _) (fun s hs => by cases hs; rfl)
          · intro listed a' w' hw hd K hK
            have hgd : a'.tmps.getD 32 undef = undef := (hw.at_ 15 32 rfl (hd ⟨15, .guard⟩ (by simp) rfl))
            refine step_unwanted (j := 15) (b := true) (s := 32) rfl rfl (by rw [hgd]; exact fun h => by cases h) ?_
            exact hK _ _ (Below.refl _ _) (fun s hs => by cases hs; rfl)
          · intro listed a' w' hw hd K hK
            have hgd : a'.tmps.getD 32 undef = undef := (hw.at_ 15 32 rfl (hd ⟨15, .guard⟩ (by simp) rfl))
            refine step_unwanted (j := 15) (b := true) (s := 32) rfl rfl (by rw [hgd]; exact fun h => by cases h) ?_
            exact hK _ _ (Below.refl _ _) (fun s hs => by cases hs; rfl)
          · intro listed a' w' hw hd K hK
            have hgd : a'.tmps.getD 32 undef = undef := (hw.at_ 15 32 rfl (hd ⟨15, .guard⟩ (by simp) rfl))
            refine step_unwanted (j := 15) (b := true) (s := 32) rfl rfl (by rw [hgd]; exact fun h => by cases h) ?_
            exact hK _ _ (Below.refl _ _) (fun s hs => by cases hs; rfl)
          · intro listed a' w' hw hd K hK
            have hgd : a'.tmps.getD 32 undef = undef := (hw.at_ 15 32 rfl (hd ⟨15, .guard⟩ (by simp) rfl))
            refine step_unwanted (j := 15) (b := true) (s := 32) rfl rfl (by rw [hgd]; exact fun h => by cases h) ?_
            exact hK _ _ (Below.refl _ _) (fun s hs => by cases hs; rfl)
          · intro listed a' w' hw hd K hK
            have hgd : a'.tmps.getD 32 undef = undef := (hw.at_ 15 32 rfl (hd ⟨15, .guard⟩ (by simp) rfl))
            refine step_unwanted (j := 15) (b := true) (s := 32) rfl rfl (by rw [hgd]; exact fun h => by cases h) ?_
            exact hK _ _ (Below.refl _ _) (fun s hs => by cases hs; rfl)
          · intro listed a' w' hw hd K hK
            have hgd : a'.tmps.getD 32 undef = undef := (hw.at_ 15 32 rfl (hd ⟨15, .guard⟩ (by simp) rfl))
            refine step_unwanted (j := 15) (b := true) (s := 32) rfl rfl (by rw [hgd]; exact fun h => by cases h) ?_
            exact hK _ _ (Below.refl _ _) (fun s hs => by cases hs; rfl)
          · intro listed a' w' hw hd K hK
            have hgd : a'.tmps.getD 29 undef = .bool true := (hw.at_ 12 29 rfl (hd ⟨12, .guard⟩ (by simp) rfl))
            refine step_unwanted (j := 12) (b := false) (s := 29) rfl rfl (by rw [hgd]; exact fun h => by cases h) ?_
            exact hK _ _ (Below.refl _ _) (fun s hs => by cases hs; rfl)
          · intro listed a' w' hw hd K hK
            have hv29 : a'.tmps.getD 29 undef = .bool true := (hw.at_ 12 29 rfl (hd ⟨12, .data⟩ (by simp) rfl))
            have hv43 : a'.tmps.getD 43 undef = undef := (hw.at_ 26 43 rfl (hd ⟨26, .data⟩ (by simp) rfl))
            refine step_free rfl ?_
            unfold Oper.wp
            simp only [execOp]
            go_simp
            exact hK _ _ (Below.refl _ _) (fun s hs => by cases hs; rfl)
        · intro listed a' w' hw hall
          have hk44 : a'.tmps.getD 44 undef = .bool true := hw.at_ 27 44 rfl (hall 27 (Nat.lt_of_lt_of_eq (show 27 < 28 by omega) rfl))
          have BX := Lib.hid (mtr BD.out hw.below)
          have KX2 := Lib.hid (KX.out.below hw.below)
          have HX2 := Lib.hid (HX.out.below hw.below)
          have hp := hw.puts [17, 18, 19, 20, 21, 22, 23, 24, 25, 26, 27, 28, 29, 30, 31, 32, 33, 34, 35, 36, 37, 38, 39, 40, 41, 42, 43, 44] (by kernel_rfl)
          clear hw hall
          rw [hp]
          simp only [List.foldl_cons, List.foldl_nil, hk44]
          generalize a'.tmps.getD 17 undef = u17
          generalize a'.tmps.getD 18 undef = u18
          generalize a'.tmps.getD 19 undef = u19
          generalize a'.tmps.getD 20 undef = u20
          generalize a'.tmps.getD 21 undef = u21
          generalize a'.tmps.getD 22 undef = u22
          generalize a'.tmps.getD 23 undef = u23
          generalize a'.tmps.getD 24 undef = u24
          generalize a'.tmps.getD 25 undef = u25
          generalize a'.tmps.getD 26 undef = u26
          generalize a'.tmps.getD 27 undef = u27
          generalize a'.tmps.getD 28 undef = u28
          generalize a'.tmps.getD 29 undef = u29
          generalize a'.tmps.getD 30 undef = u30
          generalize a'.tmps.getD 31 undef = u31
          generalize a'.tmps.getD 32 undef = u32
          generalize a'.tmps.getD 33 undef = u33
          generalize a'.tmps.getD 34 undef = u34
          generalize a'.tmps.getD 35 undef = u35
          generalize a'.tmps.getD 36 undef = u36
          generalize a'.tmps.getD 37 undef = u37
          generalize a'.tmps.getD 38 undef = u38
          generalize a'.tmps.getD 39 undef = u39
          generalize a'.tmps.getD 40 undef = u40
          generalize a'.tmps.getD 41 undef = u41
          generalize a'.tmps.getD 42 undef = u42
          generalize a'.tmps.getD 43 undef = u43
          clear hp hk44
          simp only [Act.put, List.setIfInBounds_toArray, List.set_cons_succ, List.set_cons_zero]
          generalize hw6 : w' = W6 at *
          clear hw6 KX HX BD
          have : r = false := by rw [← HD.out]; exact decide_eq_false HNO.out
          subst this
          go_wp2
          go_ret
          exact ⟨rfl, BX⟩
    · obtain rfl : i = nh := by omega
      have g1 : ¬ (i : Int) < (i : Int) := by omega
      by_cases h1 : 1 ≤ i
      · have h1b : decide ((1 : Int) ≤ (i : Int)) = true := decide_eq_true (by omega)
        have : r = true := by rw [← HD.out]; exact decide_eq_true ⟨by rw [HN.out]; exact hup.out, by rw [HN.out]; exact h1⟩
        subst this
        clear HD
        go_wp2
        go_ret
        exact ⟨by first | rfl | simpa using h1, B2⟩
      · have h1b : decide ((1 : Int) ≤ (i : Int)) = false := decide_eq_false (by omega)
        have : r = false := by rw [← HD.out]; exact decide_eq_false (fun h => h1 (by have := h.2; rwa [HN.out] at this))
        subst this
        clear HD
        go_wp2
        go_ret
        exact ⟨by first | rfl | (simp; omega), B2⟩
end Go.Proofs.Ytlcddfkhklmieaa
