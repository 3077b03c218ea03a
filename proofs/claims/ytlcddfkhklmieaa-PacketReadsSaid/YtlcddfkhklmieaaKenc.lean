/-
  A packet's bytes, by package packet's Encode. For packets of at most 1,000,000 heads and peers, whose numbers are unsigned.
-/
import Derived.Test.YtlcddfkhklmieaaKtab
import Derived.Test.YtlcddfkhklmieaaKmayc
import Derived.Test.YtlcddfkhklmieaaGa
namespace Go.Proofs.Ytlcddfkhklmieaa
set_option maxRecDepth 20000
open Go.RowKit

/-- What Encode answers. -/
def EncK (w : World) (p : Pk) (e : Ending) (w' : World) : Prop :=
  Hid (Below w.heap.size w w') ∧ ((¬ mayK p ∧ e = .returned (.tuple #[.slice none 0 0, .int .i64 3])) ∨
    (mayK p ∧ ∃ A cap, e = .returned (.tuple #[.slice A (packetL p).length cap, .int .i64 0]) ∧ Hid (Own8 w' w.heap.size A (packetL p).length cap (packetL p))))
theorem wrote_only {w w' : World} {p : Nat} {g : Option Nat} {l xs : List UInt8} (h : Wrote w p g l xs w') : Only (fun k => k = p ∨ g = some k) w w' := by
  obtain ⟨_, _, _, h⟩ := h
  exact h
theorem Wrote.later {w w1 w2 : World} {p : Nat} {g : Option Nat} {l xs : List UInt8} (h : Wrote w p g l xs w1) (hb : Below w1.heap.size w1 w2) : Wrote w p g l xs w2 := by
  obtain ⟨g', h1, h2, h3⟩ := h
  exact ⟨g', h1.on hb, h2, h3.trans (Only.ofBelow (S := fun k => k = p ∨ g = some k) hb) fun _ _ e => e⟩
/-- The Writer: untouched, till the last operation has come up. -/
def EncI (w0 : World) (p : Nat) (g : Option Nat) (l xs : List UInt8) (lst : Array Bool) (w : World) : Prop := if lst.getD 6 false = true then Wrote w0 p g l xs w else Below w0.heap.size w0 w
section
variable {w0 w w' : World} {p : Nat} {g : Option Nat} {l xs : List UInt8}
theorem EncI.step {lst : Array Bool} {j : Nat} (h : EncI w0 p g l xs lst w) (hj : j ≠ 6) (hb : Below w.heap.size w w') : EncI w0 p g l xs (lst.setIfInBounds j true) w' := by
  unfold EncI at *
  rw [getD_set_ne false hj]
  split at h
  · rename_i hl
    rw [if_pos hl]
    exact h.later hb
  · rename_i hl
    rw [if_neg hl]
    exact h.trans (hb.mono h.size)
theorem EncI.before {lst : Array Bool} (h : EncI w0 p g l xs lst w) (hl : lst.getD 6 false = false) : Below w0.heap.size w0 w := by
  unfold EncI at h
  rw [if_neg (by rw [hl]; simp)] at h
  exact h
theorem encI_done {lst : Array Bool} (hs : (lst.setIfInBounds 6 true).getD 6 false = true) (h : Wrote w0 p g l xs w) : EncI w0 p g l xs (lst.setIfInBounds 6 true) w := by
  unfold EncI
  rw [if_pos hs]
  exact h
end
def EncG (b q fn : Nat) (k s t h x y : Int) (z : Nat) (H A P : Option Addr) (nh ch n cap np cp : Nat) (i : Nat) (_ : World) (v : Value) : Prop :=
  match i with
  | 0 => v = .agg wtabC
  | 1 => v = .pointer (some ⟨b, 0, none⟩)
  | 2 => v = .int .i64 k
  | 3 => v = fnV fn
  | 4 => v = .agg #[.int .i64 k, .int .i64 s, .int .u64 t, .int .i64 h, .slice H nh ch, .slice A n cap, .int .i64 x, .int .u64 y, .int .u64 (z : Int), .slice P np cp]
  | 5 => v = .pointer (some ⟨q, 0, none⟩)
  | _ => v = .tuple #[]
theorem EncG.mono {gg : Option Nat} {b q fn : Nat} {k s t h x y : Int} {z : Nat} {H A P : Option Addr} {nh ch n cap np cp : Nat} {i : Nat} {v : Value} {w w' : World} (_ : Only (fun k => k = q ∨ gg = some k) w w') (hg : EncG b q fn k s t h x y z H A P nh ch n cap np cp i w v) : EncG b q fn k s t h x y z H A P nh ch n cap np cp i w' v := by
  unfold EncG at *
  exact hg
/-! What may be can be written. -/
theorem ok_of_heads {kind n : Int} {l : List Hd} (h : headsUpTo kind n l l.length) : ∀ x ∈ l, okH x := fun x hx => by
  obtain ⟨i, hi, rfl⟩ := atH_mem hx
  obtain ⟨⟨a1, _, _, a4, a5, a6, _, _⟩, _⟩ := h i hi
  unfold nodeF at a1
  unfold cnt at a4 a5 a6
  exact ⟨by omega, by omega, by omega, by omega, by omega⟩
theorem uns_of_adv {srv : Life} {z : Nat} {l : List Life} (h : advK srv z l) : Unsigned l := fun q hq => ⟨by have := (set_may h.2.2.2.1 q hq).2.2; omega, by have := srvs_small h.2.2.2.2.1 q hq; omega⟩
/-- What is written behind the kind. -/
def tailK (p : Pk) : List UInt8 := if p.kind = 1 then putL p.srv ++ (shortL p.aseq ++ (byteI (p.peers.length : Nat) :: putsL p.peers))
  else (putL p.src ++ [byteI p.hops]) ++ ((byteI (p.heads.length : Nat) :: headsL (decide (p.kind = 3)) p.heads) ++ (if p.kind = 2 then shortL p.body.length ++ p.body else []))
theorem packetL_tail (p : Pk) : packetL p = [byteI p.kind] ++ tailK p := by
  unfold packetL tailK advL restL
  split
  · simp
  · simp
theorem off_older {w0 W : World} {B p b : Nat} {g : Option Nat} {l : List UInt8} (o : WS B w0 W p g l) (hb : b < B) : Off b p g := ⟨by have := o.hp; omega, fun e => by have := o.hg b e; omega⟩
theorem Hds.blk {w : World} {B : Nat} {A : Option Addr} {l : List Hd} (h : Hds w B A l) (hp : 0 < l.length) : ∀ b, blockOf A = some b → b < B := fun b e => by
  obtain ⟨b', o', e', hlt, _⟩ := h hp
  subst e'
  obtain rfl : b' = b := by simpa [blockOf] using e
  exact hlt
theorem Lives.blkB {w : World} {B : Nat} {A : Option Addr} {l : List Life} (h : Lives w B A l) (hp : 0 < l.length) : ∀ b, blockOf A = some b → b < B := fun b e => by
  obtain ⟨b', o', e', hlt, _⟩ := h hp
  subst e'
  obtain rfl : b' = b := by simpa [blockOf] using e
  exact hlt
theorem Bytes.blkB {w : World} {B : Nat} {A : Option Addr} {l : List UInt8} (h : Bytes w B A l) (hp : 0 < l.length) : ∀ b, blockOf A = some b → b < B := fun b e => by
  obtain ⟨b', o', e', hlt, _⟩ := h hp
  subst e'
  obtain rfl : b' = b := by simpa [blockOf] using e
  exact hlt
/-- What the method of a kind writes. -/
theorem put_kind (k s t h x y : Int) (z : Nat) (heads : List Hd) (body : List UInt8) (peers : List Life) (H A P : Option Addr) (nh ch n cap np cp B : Nat) (w : World) (hm : mayK ⟨k, (s, t), h, heads, body, (x, y), z, peers⟩) (ht0 : 0 ≤ t) (hy0 : 0 ≤ y)
    (hH : Hds w B H heads) (hP : Lives w B P peers) (hA : Bytes w B A body) (hnh : heads.length = nh) (hnn : body.length = n) (hnp : peers.length = np) (V : World) (q : Nat) (g : Option Nat) (l : List UInt8) (o : WS B w V q g l) (hl : l.length ≤ 900000) :
    ∃ fn, (fn = 56 ∨ fn = 57 ∨ fn = 58) ∧ (∀ W, (Instr.index 56 (.agg wtabC) (.int .i64 k)).run Try.prog W = .ok (fnV fn) W) ∧ ∀ W, Below V.heap.size V W → Calls Try.prog fn #[.agg #[.int .i64 k, .int .i64 s, .int .u64 t, .int .i64 h, .slice H nh ch, .slice A n cap, .int .i64 x, .int .u64 y, .int .u64 (z : Int), .slice P np cp], .pointer (some ⟨q, 0, none⟩)] W (WroteE W q g l (tailK ⟨k, (s, t), h, heads, body, (x, y), z, peers⟩)) := by
  have hbl : ∀ W, Below V.heap.size V W → Below B w W := fun W hW => o.below.trans (hW.mono o.size)
  rcases id hm with ⟨rfl, ha, hv⟩ | ⟨hk1, hb, hlf, hh0, hh8, hhs, he⟩
  · refine ⟨_, .inl rfl, wtab_1, fun W hW => ?_⟩
    have h4 := peers_four hv
    obtain ⟨hsv, _, hq, hst, hps, _⟩ := id hv
    simp only at h4 hsv hq hst hps hv
    have e := putadv_any q g l 1 s t h x y z H A P nh ch n cap np cp peers W (o.wr.on hW) ⟨hy0, by have := hsv.1.2; simp only at this; omega⟩ (by unfold cnt at hq; omega) ((hP.below (hbl W hW)).more (by have := hW.size; have := o.size; omega)) (fun hp b e => off_older o (hP.blkB hp b e)) hnp (uns_of_adv hv) (by omega) (by omega)
    unfold tailK
    rw [if_pos rfl, hnp]
    exact e
  · unfold bareK at hb
    simp only at hb hlf hh0 hh8 hhs he hk1
    have h10 := heads_ten hhs.1
    have htt : t < 18446744073709551616 := by have := hlf.2; simp only at this; omega
    rcases he with ⟨e2, hb1, hb2⟩ | ⟨e3, e0, hn1⟩
    · simp only at e2 hb1 hb2
      subst e2
      refine ⟨_, .inr (.inl rfl), wtab_2, fun W hW => ?_⟩
      have e := putdata_any q g l 2 s t h x y z H A P nh ch n cap np cp heads body W (o.wr.on hW) ⟨ht0, htt⟩ hh0 (by omega) ((hH.below (hbl W hW)).more (by have := hW.size; have := o.size; omega)) (fun hp b e => off_older o (hH.blk hp b e)) hnh (ok_of_heads hhs.1) (by omega) ((hA.below (hbl W hW)).more (by have := hW.size; have := o.size; omega)) (fun hp b e => off_older o (hA.blkB hp b e)) hnn (by omega) (by omega)
      unfold tailK
      rw [if_neg (show ¬ ((2 : Int) = 1) by decide), if_pos rfl, hnh, hnn]
      exact e
    · simp only at e3 e0 hn1
      subst e3
      refine ⟨_, .inr (.inr rfl), wtab_3, fun W hW => ?_⟩
      have e := putackp_any q g l 3 s t h x y z H A P nh ch n cap np cp heads W (o.wr.on hW) ⟨ht0, htt⟩ hh0 (by omega) ((hH.below (hbl W hW)).more (by have := hW.size; have := o.size; omega)) (fun hp b e => off_older o (hH.blk hp b e)) hnh (ok_of_heads hhs.1) (by omega) (by omega)
      unfold tailK
      rw [if_neg (show ¬ ((3 : Int) = 1) by decide), if_neg (show ¬ ((3 : Int) = 2) by decide), List.append_nil, hnh]
      exact e
set_option maxHeartbeats 2000000 in
theorem kenc_no (k s t h x y : Int) (z : Nat) (H A P : Option Addr) (nh ch n cap np cp : Nat) (w : World)
    (HM : ∀ W, Below w.heap.size w W → Calls Try.prog 11 #[.agg #[.int .i64 k, .int .i64 s, .int .u64 t, .int .i64 h, .slice H nh ch, .slice A n cap, .int .i64 x, .int .u64 y, .int .u64 (z : Int), .slice P np cp]] W fun e w' => e = .returned (.bool false) ∧ Hid (Below W.heap.size W w')) :
    Calls Try.prog 15 #[.agg #[.int .i64 k, .int .i64 s, .int .u64 t, .int .i64 h, .slice H nh ch, .slice A n cap, .int .i64 x, .int .u64 y, .int .u64 (z : Int), .slice P np cp]] w fun e w' => e = .returned (.tuple #[.slice none 0 0, .int .i64 3]) ∧ Hid (Below w.heap.size w w') := by
  have K1 := Lib.hid (kbox_new (k := k) (s := s) (t := t) (h := h) (x := x) (y := y) (z := (z : Int)) (H := H) (A := A) (P := P) (nh := nh) (ch := ch) (n := n) (cap := cap) (np := np) (cp := cp) (w := w) 31)
  have B1 := Lib.hid (wbelow_box w (.cells #[.int .i64 k, .int .i64 s, .int .u64 t, .int .i64 h, .slice H nh ch, .slice A n cap, .int .i64 x, .int .u64 y, .int .u64 (z : Int), .slice P np cp] 31))
  have HM1 := Lib.hid (HM _ B1.out)
  clear HM
  go_enter Try.func15, Try.ntmps15
  obtain ⟨k0, k1, k2, k3, k4, k5, k6, k7, k8, k9⟩ := K1.out
  go_wp2_with fail
  generalize w.alloc (.cells #[.int .i64 k, .int .i64 s, .int .u64 t, .int .i64 h, .slice H nh ch, .slice A n cap, .int .i64 x, .int .u64 y, .int .u64 (z : Int), .slice P np cp] 31) = W1 at *
  refine HM1.out.mono ?_
  rintro en W2 ⟨rfl, hb2⟩
  have B2 := Lib.hid (ktr B1.out hb2.out)
  go_wp2
  go_ret2
  exact ⟨rfl, B2⟩
set_option maxHeartbeats 8000000 in
theorem kenc_yes (k s t h x y : Int) (z : Nat) (H A P : Option Addr) (nh ch n cap np cp : Nat) (w : World) (hk0 : 0 ≤ k) (hk8 : k < 256) (xs res : List UInt8) (hres : res = [byteI k] ++ xs) (hle : res.length ≤ 448)
    (HM : ∀ W, Below w.heap.size w W → Calls Try.prog 11 #[.agg #[.int .i64 k, .int .i64 s, .int .u64 t, .int .i64 h, .slice H nh ch, .slice A n cap, .int .i64 x, .int .u64 y, .int .u64 (z : Int), .slice P np cp]] W fun e w' => e = .returned (.bool true) ∧ Hid (Below W.heap.size W w'))
    (HPK : ∀ V q g l, WS w.heap.size w V q g l → l.length ≤ 900000 → ∃ fn, (fn = 56 ∨ fn = 57 ∨ fn = 58) ∧ (∀ W, (Instr.index 56 (.agg wtabC) (.int .i64 k)).run Try.prog W = .ok (fnV fn) W) ∧ ∀ W, Below V.heap.size V W → Calls Try.prog fn #[.agg #[.int .i64 k, .int .i64 s, .int .u64 t, .int .i64 h, .slice H nh ch, .slice A n cap, .int .i64 x, .int .u64 y, .int .u64 (z : Int), .slice P np cp], .pointer (some ⟨q, 0, none⟩)] W (WroteE W q g l xs)) :
    Calls Try.prog 15 #[.agg #[.int .i64 k, .int .i64 s, .int .u64 t, .int .i64 h, .slice H nh ch, .slice A n cap, .int .i64 x, .int .u64 y, .int .u64 (z : Int), .slice P np cp]] w fun e w' => ∃ A cap, e = .returned (.tuple #[.slice A res.length cap, .int .i64 0]) ∧ Hid (Own8 w' w.heap.size A res.length cap res) ∧ Hid (Below w.heap.size w w') := by
  have mixed : Try.prog.follows .mixedOrders = true := by kernel_rfl
  have K1 := Lib.hid (kbox_new (k := k) (s := s) (t := t) (h := h) (x := x) (y := y) (z := (z : Int)) (H := H) (A := A) (P := P) (nh := nh) (ch := ch) (n := n) (cap := cap) (np := np) (cp := cp) (w := w) 31)
  have B1 := Lib.hid (wbelow_box w (.cells #[.int .i64 k, .int .i64 s, .int .u64 t, .int .i64 h, .slice H nh ch, .slice A n cap, .int .i64 x, .int .u64 y, .int .u64 (z : Int), .slice P np cp] 31))
  have HM1 := Lib.hid (HM _ B1.out)
  have HP := Lib.hid HPK
  have ew := byte_wrap k hk0 hk8
  have HX := Lib.hid (UInt8.toNat_lt (byteI k))
  generalize byteI k = xb at *
  have HRES := Lib.hid hres
  clear HM HPK hk0 hk8 hres
  go_enter Try.func15, Try.ntmps15
  obtain ⟨k0, k1, k2, k3, k4, k5, k6, k7, k8, k9⟩ := K1.out
  go_wp2_with fail
  generalize w.alloc (.cells #[.int .i64 k, .int .i64 s, .int .u64 t, .int .i64 h, .slice H nh ch, .slice A n cap, .int .i64 x, .int .u64 y, .int .u64 (z : Int), .slice P np cp] 31) = W1 at *
  refine HM1.out.mono ?_
  rintro en W2 ⟨rfl, hb2⟩
  have B2 := Lib.hid (ktr B1.out hb2.out)
  have K2 := Lib.hid (K1.out.below hb2.out)
  have HBL := Lib.hid K1.out.lt
  clear B1 K1 HM1 k0 k1 k2 k3 k4 k5 k6 k7 k8 k9
  go_wp2_with fail
  refine (wnew_any W2).mono ?_
  rintro en W3 ⟨rfl, hW, hbw, -⟩
  have K3 := Lib.hid (K2.out.below hbw)
  have o3 : Hid (WS w.heap.size w W3 W2.heap.size none []) := Lib.hid ⟨hW, ktr B2.out hbw, B2.out.size, fun _ e => by cases e⟩
  have HBQ := Lib.hid (show w.heap.size < W2.heap.size from Nat.lt_of_lt_of_le HBL.out hb2.out.size)
  clear hW hbw hb2 K2
  generalize W2.heap.size = q at *
  obtain ⟨k0, k1, k2, k3, k4, k5, k6, k7, k8, k9⟩ := K3.out
  go_wp2_with fail
  refine (wu8_any q none [] xb.toNat W3 HX.out o3.out.wr (by simp)).mono ?_
  rintro en W4 ⟨rfl, hw⟩
  obtain ⟨g4, h, hn4, ho4⟩ := o3.out.wrote hw
  rw [wide_one8, List.nil_append] at h
  have o4 := Lib.hid h
  have HO4 := Lib.hid (show Off w.heap.size q g4 from ⟨by have := HBQ.out; omega, fun e => by rcases hn4 with h | ⟨j, h, hj⟩; (rw [h] at e; cases e); (rw [h] at e; cases e; have := K3.out.lt; omega)⟩)
  have K4 := Lib.hid (K3.out.wrote (g := none) ⟨by have := HBQ.out; omega, fun e => by cases e⟩ ho4)
  obtain ⟨fn, hfn, hix, hput⟩ := HP.out W4 q g4 [xb] h (by simp)
  have HIX := Lib.hid hix
  have HFN := Lib.hid hfn
  have HPUT0 := Lib.hid hput
  clear h hw hn4 ho4 o3 K3 k0 k1 k2 k3 k4 k5 k6 k7 k8 k9 hix hput HP hfn
  go_wp2_with fail
  have KF : Hid (KBox w.heap.size k s t h x y (z : Int) H A P nh ch n cap np cp W4.drew) := K4
  have HPUT : Hid (∀ W, Below W4.drew.heap.size W4.drew W → Calls Try.prog fn #[.agg #[.int .i64 k, .int .i64 s, .int .u64 t, .int .i64 h, .slice H nh ch, .slice A n cap, .int .i64 x, .int .u64 y, .int .u64 (z : Int), .slice P np cp], .pointer (some ⟨q, 0, none⟩)] W (WroteE W q g4 [xb] xs)) := Lib.hid (fun W hW => HPUT0.out W ⟨hW.os, hW.tape, hW.output, hW.size, hW.block⟩)
  have HOF := HO4
  clear K4 HPUT0
  generalize hb : w.heap.size = b at KF HOF ⊢
  have HB := Lib.hid hb
  clear hb
  refine region_steps2 (n := 23) (fun w w' => Only (fun k => k = q ∨ g4 = some k) w w') (EncI W4.drew q g4 [xb] xs) (EncG b q fn k s t h x y z H A P nh ch n cap np cp) (by kernel_rfl) (by kernel_rfl) rfl (fun w => Only.refl _ w) (fun _ _ _ h k => h.trans k fun _ _ e => e) ?inv0 (fun _ _ _ _ hb h => EncG.mono hb h) ?_ ?_
  case inv0 => exact Below.refl _ _
  · refine And.intro ?_ (And.intro ?_ (And.intro ?_ (And.intro ?_ (And.intro ?_ (And.intro ?_ (And.intro ?_ (True.intro)))))))
    · intro listed a' w' hw hl hd K hK
      refine step_free rfl ?_
      unfold Oper.wp
      simp only [execOp]
      go_simp
      refine (writers_any w').mono ?_
      rintro en w2 ⟨rfl, hb2⟩
      exact hK _ _ (Only.ofBelow hb2.out) (hw.inv.step (by decide) hb2.out) (fun s hs => by cases hs; rfl)
    · intro listed a' w' hw hl hd K hK
      have hv1 := hw.kept 1 (by kernel_rfl)
      refine step_free rfl ?_
      unfold Oper.wp
      simp only [execOp]
      go_simp
      exact hK _ _ (Only.refl _ _) (hw.inv.step (by decide) (Below.refl _ _)) (fun s hs => by cases hs; rfl)
    · intro listed a' w' hw hl hd K hK
      have hv15 : a'.tmps.getD 15 undef = .pointer (some ⟨b, 0, none⟩) := (hw.at_ 1 15 rfl (hd ⟨1, .data⟩ (by simp) rfl))
      obtain ⟨k0, k1, k2, k3, k4, k5, k6, k7, k8, k9⟩ := (KF.out.wrote HOF.out hw.held)
      refine step_free rfl ?_
      unfold Oper.wp
      simp only [execOp]
      go_simp
      exact hK _ _ (Only.refl _ _) (hw.inv.step (by decide) (Below.refl _ _)) (fun s hs => by cases hs; rfl)
    · intro listed a' w' hw hl hd K hK
      have hv14 : a'.tmps.getD 14 undef = .agg wtabC := (hw.at_ 0 14 rfl (hd ⟨0, .data⟩ (by simp) rfl))
      have hv16 : a'.tmps.getD 16 undef = .int .i64 k := (hw.at_ 2 16 rfl (hd ⟨2, .data⟩ (by simp) rfl))
      have hx := HIX.out w'
      refine step_free rfl ?_
      unfold Oper.wp
      simp only [execOp]
      go_simp
      exact hK _ _ (Only.refl _ _) (hw.inv.step (by decide) (Below.refl _ _)) (fun s hs => by cases hs; rfl)
    · intro listed a' w' hw hl hd K hK
      have hv1 := hw.kept 1 (by kernel_rfl)
      obtain ⟨k0, k1, k2, k3, k4, k5, k6, k7, k8, k9⟩ := (KF.out.wrote HOF.out hw.held)
      refine step_free rfl ?_
      unfold Oper.wp
      simp only [execOp]
      go_simp
      exact hK _ _ (Only.refl _ _) (hw.inv.step (by decide) (Below.refl _ _)) (fun s hs => by cases hs; rfl)
    · intro listed a' w' hw hl hd K hK
      refine step_free rfl ?_
      apply wp_move
      exact hK _ _ (Only.refl _ _) (hw.inv.step (by decide) (Below.refl _ _)) (fun s hs => by cases hs; exact hw.kept 4 (by kernel_rfl))
    · intro listed a' w' hw hl hd K hK
      have hv17 : a'.tmps.getD 17 undef = fnV fn := (hw.at_ 3 17 rfl (hd ⟨3, .data⟩ (by simp) rfl))
      have hv18 : a'.tmps.getD 18 undef = .agg #[.int .i64 k, .int .i64 s, .int .u64 t, .int .i64 h, .slice H nh ch, .slice A n cap, .int .i64 x, .int .u64 y, .int .u64 (z : Int), .slice P np cp] := (hw.at_ 4 18 rfl (hd ⟨4, .data⟩ (by simp) rfl))
      have hv19 : a'.tmps.getD 19 undef = .pointer (some ⟨q, 0, none⟩) := (hw.at_ 5 19 rfl (hd ⟨5, .data⟩ (by simp) rfl))
      refine step_free rfl ?_
      have hbw := hw.inv.before hl
      rcases HFN.out with hf | hf | hf
      · subst hf
        unfold Oper.wp
        simp only [execOp]
        go_simp
        refine (HPUT.out w' hbw).mono ?_
        rintro en w2 ⟨rfl, hwr⟩
        have hon := wrote_only hwr
        exact hK _ _ hon (encI_done (by simp [hw.lsize]) (Wrote.after hbw hwr)) (fun s hs => by cases hs; rfl)
      · subst hf
        unfold Oper.wp
        simp only [execOp]
        go_simp
        refine (HPUT.out w' hbw).mono ?_
        rintro en w2 ⟨rfl, hwr⟩
        have hon := wrote_only hwr
        exact hK _ _ hon (encI_done (by simp [hw.lsize]) (Wrote.after hbw hwr)) (fun s hs => by cases hs; rfl)
      · subst hf
        unfold Oper.wp
        simp only [execOp]
        go_simp
        refine (HPUT.out w' hbw).mono ?_
        rintro en w2 ⟨rfl, hwr⟩
        have hon := wrote_only hwr
        exact hK _ _ hon (encI_done (by simp [hw.lsize]) (Wrote.after hbw hwr)) (fun s hs => by cases hs; rfl)
  · intro listed a' w' hw hall
    have hF := hw.inv
    have hall6 := hall 6 (Nat.lt_of_lt_of_eq (show 6 < 7 by omega) rfl)
    unfold EncI at hF
    rw [if_pos hall6] at hF
    have hF2 : Wrote W4 q g4 [xb] xs w' := ⟨hF.choose, hF.choose_spec.1, hF.choose_spec.2.1, hF.choose_spec.2.2.drew_left⟩
    obtain ⟨g5, h5, _, _⟩ := o4.out.wrote hF2
    have o5 := Lib.hid h5
    clear hF hF2 hall6 h5 HFN
    have hp := hw.puts [14, 15, 16, 17, 18, 19, 20] (by kernel_rfl)
    clear hw hall
    rw [hp]
    simp only [List.foldl_cons, List.foldl_nil]
    generalize a'.tmps.getD 14 undef = u14
    generalize a'.tmps.getD 15 undef = u15
    generalize a'.tmps.getD 16 undef = u16
    generalize a'.tmps.getD 17 undef = u17
    generalize a'.tmps.getD 18 undef = u18
    generalize a'.tmps.getD 19 undef = u19
    generalize a'.tmps.getD 20 undef = u20
    clear hp 
    simp only [Act.put, List.setIfInBounds_toArray, List.set_cons_succ, List.set_cons_zero]
    clear o4 HIX HPUT KF HOF HO4
    rw [← HRES.out] at o5
    go_wp2_with fail
    refine (wbytes_any q g5 res w' o5.out.wr (by omega)).mono ?_
    rintro en W6 ⟨A6, c6, rfl, ho6, hb6⟩
    have R1 := Lib.hid (o5.out.below.trans (hb6.out.mono o5.out.size))
    have R2 := Lib.hid (ho6.out.lower (base' := w.heap.size) o5.out.size)
    clear ho6 hb6 o5
    generalize hrl : res.length = rl at *
    have HRL := Lib.hid hrl
    clear hrl
    go_wp2
    go_ret2
    exact ⟨A6, c6, by rw [HRL.out]; rfl, by rw [HRL.out]; exact R2, R1⟩
theorem kenc_any (k s t h x y : Int) (z : Nat) (heads : List Hd) (body : List UInt8) (peers : List Life) (H A P : Option Addr) (nh ch n cap np cp B : Nat) (w : World) (ht0 : 0 ≤ t) (hy0 : 0 ≤ y)
    (hH : Hds w B H heads) (hP : Lives w B P peers) (hA : Bytes w B A body) (hB : B ≤ w.heap.size) (hnh : heads.length = nh) (hnn : body.length = n) (hnp : peers.length = np) (hhmx : nh ≤ 1000000) (hpmx : np ≤ 1000000) (hpos : ∀ p ∈ peers, 0 ≤ p.2) :
    Calls Try.prog 15 #[.agg #[.int .i64 k, .int .i64 s, .int .u64 t, .int .i64 h, .slice H nh ch, .slice A n cap, .int .i64 x, .int .u64 y, .int .u64 (z : Int), .slice P np cp]] w (EncK w ⟨k, (s, t), h, heads, body, (x, y), z, peers⟩) := by
  have HM := fun W (hb : Below w.heap.size w W) => kmay_any k s t h x y z heads body peers H A P nh ch n cap np cp B W ht0 hy0 (hH.below (hb.mono hB)) (hP.below (hb.mono hB)) (Nat.le_trans hB hb.size) hnh hnn hnp hhmx hpmx hpos
  by_cases hm : mayK ⟨k, (s, t), h, heads, body, (x, y), z, peers⟩
  · rw [decide_eq_true hm] at HM
    have hk : 0 ≤ k ∧ k < 256 := by
      rcases hm with ⟨h, _⟩ | ⟨_, _, _, _, _, _, h | h⟩
      · simp only at h; omega
      · have := h.1; simp only at this; omega
      · have := h.1; simp only at this; omega
    refine (kenc_yes k s t h x y z H A P nh ch n cap np cp w hk.1 hk.2 (tailK ⟨k, (s, t), h, heads, body, (x, y), z, peers⟩) (packetL ⟨k, (s, t), h, heads, body, (x, y), z, peers⟩) (packetL_tail _) (packetL_le hm) HM (fun V q g l o hl => put_kind k s t h x y z heads body peers H A P nh ch n cap np cp w.heap.size w hm ht0 hy0 (hH.more hB) (hP.more hB) (hA.more hB) hnh hnn hnp V q g l o hl)).mono ?_
    rintro e w' ⟨A', c', rfl, h1, h2⟩
    exact ⟨h2, .inr ⟨hm, A', c', rfl, h1⟩⟩
  · rw [decide_eq_false hm] at HM
    refine (kenc_no k s t h x y z H A P nh ch n cap np cp w HM).mono ?_
    rintro e w' ⟨rfl, h⟩
    exact ⟨h, .inl ⟨hm, rfl⟩⟩
end Go.Proofs.Ytlcddfkhklmieaa
