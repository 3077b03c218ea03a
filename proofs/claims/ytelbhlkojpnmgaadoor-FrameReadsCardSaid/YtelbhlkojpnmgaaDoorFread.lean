/-
  What bytes say as a frame, by the document's Read. For at most 1,048,576 bytes.
-/
import Derived.Test.YtelbhlkojpnmgaaDoorFbytes
import Derived.Test.YtelbhlkojpnmgaaDoorFmay
import Derived.Test.YtelbhlkojpnmgaaDoorSrefopen
import Derived.Test.YtelbhlkojpnmgaaDoorRtext
import Derived.Test.YtelbhlkojpnmgaaDoorFrows
import Derived.Test.YtelbhlkojpnmgaaDoorFsame
namespace Go.Proofs.YtelbhlkojpnmgaaDoor
set_option maxRecDepth 20000
open Go.RowKit

/-- What Read answers. -/
def ReadE (w : World) (l : List UInt8) (e : Ending) (w' : World) : Prop :=
  ∃ A' cap', e = .returned (.tuple #[frV ((readF l).getD noF) A' ((readF l).getD noF).body.length cap', .bool (readF l).isSome]) ∧ Hid (Bytes w' w'.heap.size A' ((readF l).getD noF).body) ∧ Hid (A' = none → cap' = 0) ∧ Hid (∀ j, blockOf A' = some j → w.heap.size ≤ j) ∧ Hid (Below w.heap.size w w')
theorem readE_none {w w' : World} {l : List UInt8} (h : readF l = none) (hb : Hid (Below w.heap.size w w')) : ReadE w l (.returned (.tuple #[.agg #[.int .i64 0, .int .i64 0, .int .i64 0, .int .u64 0, .int .u64 0, .int .u64 0, .int .u64 0, .int .u64 0, .int .u64 0, .slice none 0 0], .bool false])) w' := by
  refine ⟨none, 0, by rw [h]; rfl, Lib.hid ?_, Lib.hid (fun _ => rfl), Lib.hid (fun _ h => by cases h), hb⟩
  rw [h]
  exact Bytes.nil_
theorem three_cells {w : World} {base g n cap : Nat} {l : List UInt8} (h : Own8 w base (some ⟨g, 0, none⟩) (n + 3) cap l) :
    w.cell? ⟨g, 0, none⟩ = some (.int .u8 ((at8 l 0 : Nat) : Int)) ∧ w.cell? ⟨g, 1, none⟩ = some (.int .u8 ((at8 l 1 : Nat) : Int)) ∧ w.cell? ⟨g, 2, none⟩ = some (.int .u8 ((at8 l 2 : Nat) : Int)) := by
  obtain ⟨b, off, e, _, hc⟩ := h.bytes (by rw [h.len]; omega)
  obtain ⟨rfl, rfl⟩ : b = g ∧ off = 0 := by
    have := (Option.some.inj e).symm
    simpa using this
  have hl := h.len
  exact ⟨by simpa using hc 0 (by omega), by simpa using hc 1 (by omega), by simpa using hc 2 (by omega)⟩
theorem reader_new {A : Option Addr} {cap m : Nat} {l : List UInt8} (w : World) (hm : l.length = m) (h : Bts w A cap l) : Rd RfT (w.alloc (.cells #[.slice A m cap, .bool false] 60)) w.heap.size (blockOf A) l false := by
  subst hm
  exact ⟨A, cap, heap_alloc_new w _, h.keep ((Only.refl (fun _ => False) w).alloc _) (fun _ _ h => h), rfl⟩
theorem six_uints {s0 s1 s2 s3 s4 s5 s6 : RS} {n0 n1 n2 n3 n4 n5 : Nat} (h0 : rUint s0 = (n0, s1)) (h1 : rUint s1 = (n1, s2)) (h2 : rUint s2 = (n2, s3)) (h3 : rUint s3 = (n3, s4)) (h4 : rUint s4 = (n4, s5)) (h5 : rUint s5 = (n5, s6)) : uints 6 s0 = ([n0, n1, n2, n3, n4, n5], s6) := by
  simp [uints, h0, h1, h2, h3, h4, h5]
theorem wpList_slice3 {ops : Array Oper} {rest : List Oper} {o : Oper} {a : Act} {w : World} {Q : Exit → Act → World → Prop} (hgd : o.guard = none) (x : Operand)
    (ho : o.op = .slice 23 x (some (.const (.int .i64 3))) none none) (A A3 : Option Addr) (m cap C3 : Nat) (hx : a.eval x = .slice A (m + 3) cap) (hA : behind A cap 3 = A3) (hC : cap - 3 = C3)
    (h : wpList Tryd.prog ops Q rest (a.put o.dst (.slice A3 m C3)) w) : wpList Tryd.prog ops Q (o :: rest) a w := by
  subst hA hC
  refine wpList_plain hgd fun K hK => ?_
  have e : (Instr.sliceAt 23 (.slice A (m + 3) cap) (some (.int .i64 3)) none none).run Tryd.prog w = .ok (.slice (behind A cap 3) m (cap - 3)) w := by
    rw [run_sliceAt_slice _ 23 _ _ _ _ Tryd.underlying23, run_slice_l _ 23 A (m + 3) cap Tryd.underlying23 .i64 3 (by omega) (by omega)]
    rw [show (sizeOf (Tryd.prog.elem 23)).run Tryd.prog w = .ok 1 w from by kernel_rfl]
    simp [Result.andThen, sliced, behind]
  unfold Oper.wp
  simp only [execOp, ho]
  rw [hx]
  simp only [Option.map_some, Option.map_none, Act.eval]
  simp only [Sem.run_bind, e, Result.andThen_ok, Sem.run_pure]
  exact hK _ _ h
def BytR (L : List UInt8) (m : Nat) (w : World) (v : Value) : Prop := ∃ A c, v = .slice A m c ∧ Own8 w 0 A m c L
theorem BytR.mono {L : List UInt8} {m : Nat} {w w' : World} {v : Value} (hb : Below w.heap.size w w') (h : BytR L m w v) : BytR L m w' v := by
  obtain ⟨A, c, e, ho⟩ := h
  exact ⟨A, c, e, own8_later ho hb⟩
theorem only_none5 {w w' : World} (hb : Below w.heap.size w w') : Only (fun _ => False) w w' := ⟨hb.os, hb.tape, hb.output, hb.size, fun j hj _ => hb.block j hj⟩
def RdGT1 (qq : Nat) (i : Nat) (_ : World) (v : Value) : Prop :=
  match i with
  | 0 => v = Value.pointer (some ⟨qq, 0, none⟩)
  | 1 => v = Value.pointer (some ⟨qq, 0, none⟩)
  | 2 => v = Value.pointer (some ⟨qq, 1, none⟩)
  | 3 => v = .bool true
  | 4 => v = .bool true
  | 5 => v = undef
  | 6 => v = undef
  | 7 => v = undef
  | 8 => v = .bool true
  | 9 => v = .bool true
  | 10 => v = undef
  | 11 => v = undef
  | 12 => v = undef
  | 13 => v = undef
  | 14 => v = undef
  | 15 => v = undef
  | _ => v = .bool true
theorem RdGT1.mono {qq : Nat} {i : Nat} {v : Value} {w w' : World} (_ : Below w.heap.size w w') (h : RdGT1 qq i w v) : RdGT1 qq i w' v := by
  unfold RdGT1 at *
  exact h
def RdGT3 (c0 c1 c2 : Int) (n0 n1 n2 n3 n4 n5 : Nat) (A9 : Option Addr) (L9 c9 qq : Nat) (L : List UInt8) (m9 : Nat) (A : Option Addr) (n cap : Nat) (sa sb : ByteArray) (ds : Bool) (i : Nat) (w : World) (v : Value) : Prop :=
  match i with
  | 0 => v = Value.pointer (some ⟨qq, 0, none⟩)
  | 1 => v = Value.pointer (some ⟨qq, 0, none⟩)
  | 2 => v = Value.pointer (some ⟨qq, 1, none⟩)
  | 3 => v = .bool false
  | 4 => v = .bool false
  | 5 => v = .agg #[.int .i64 c0, .int .i64 c1, .int .i64 c2, .int .u64 (n0 : Int), .int .u64 (n1 : Int), .int .u64 (n2 : Int), .int .u64 (n3 : Int), .int .u64 (n4 : Int), .int .u64 (n5 : Int), .slice A9 L9 c9]
  | 6 => v = .bool true
  | 7 => v = .bool false
  | 8 => v = .bool false
  | 9 => v = .bool false
  | 10 => v = .agg #[.int .i64 c0, .int .i64 c1, .int .i64 c2, .int .u64 (n0 : Int), .int .u64 (n1 : Int), .int .u64 (n2 : Int), .int .u64 (n3 : Int), .int .u64 (n4 : Int), .int .u64 (n5 : Int), .slice A9 L9 c9]
  | 11 => BytR L m9 w v
  | 12 => v = Value.string sa
  | 13 => v = Value.slice A n cap
  | 14 => v = Value.string sb
  | 15 => v = .bool ds
  | _ => v = .bool ds
theorem RdGT3.mono {c0 c1 c2 : Int} {n0 n1 n2 n3 n4 n5 : Nat} {A9 : Option Addr} {L9 c9 qq : Nat} {L : List UInt8} {m9 : Nat} {A : Option Addr} {n cap : Nat} {sa sb : ByteArray} {ds : Bool} {i : Nat} {v : Value} {w w' : World} (hb : Below w.heap.size w w') (h : RdGT3 c0 c1 c2 n0 n1 n2 n3 n4 n5 A9 L9 c9 qq L m9 A n cap sa sb ds i w v) : RdGT3 c0 c1 c2 n0 n1 n2 n3 n4 n5 A9 L9 c9 qq L m9 A n cap sa sb ds i w' v := by
  unfold RdGT3 at *
  split at h <;> first | exact h | exact BytR.mono hb h
def RdGT2 (c0 c1 c2 : Int) (n0 n1 n2 n3 n4 n5 : Nat) (A9 : Option Addr) (L9 c9 qq : Nat) (i : Nat) (_ : World) (v : Value) : Prop :=
  match i with
  | 0 => v = Value.pointer (some ⟨qq, 0, none⟩)
  | 1 => v = Value.pointer (some ⟨qq, 0, none⟩)
  | 2 => v = Value.pointer (some ⟨qq, 1, none⟩)
  | 3 => v = .bool false
  | 4 => v = .bool false
  | 5 => v = .agg #[.int .i64 c0, .int .i64 c1, .int .i64 c2, .int .u64 (n0 : Int), .int .u64 (n1 : Int), .int .u64 (n2 : Int), .int .u64 (n3 : Int), .int .u64 (n4 : Int), .int .u64 (n5 : Int), .slice A9 L9 c9]
  | 6 => v = .bool false
  | 7 => v = .bool true
  | 8 => v = .bool true
  | 9 => v = .bool true
  | 10 => v = undef
  | 11 => v = undef
  | 12 => v = undef
  | 13 => v = undef
  | 14 => v = undef
  | 15 => v = undef
  | _ => v = .bool true
theorem RdGT2.mono {c0 c1 c2 : Int} {n0 n1 n2 n3 n4 n5 : Nat} {A9 : Option Addr} {L9 c9 qq : Nat} {i : Nat} {v : Value} {w w' : World} (_ : Below w.heap.size w w') (h : RdGT2 c0 c1 c2 n0 n1 n2 n3 n4 n5 A9 L9 c9 qq i w v) : RdGT2 c0 c1 c2 n0 n1 n2 n3 n4 n5 A9 L9 c9 qq i w' v := by
  unfold RdGT2 at *
  exact h
def RdGN1 (qq : Nat) (i : Nat) (_ : World) (v : Value) : Prop :=
  match i with
  | 0 => v = Value.pointer (some ⟨qq, 0, none⟩)
  | 1 => v = Value.pointer (some ⟨qq, 0, none⟩)
  | 2 => v = Value.pointer (some ⟨qq, 1, none⟩)
  | 3 => v = .bool true
  | 4 => v = .bool true
  | 5 => v = undef
  | 6 => v = undef
  | 7 => v = undef
  | 8 => v = .bool true
  | 9 => v = .bool true
  | 10 => v = undef
  | 11 => v = undef
  | 12 => v = undef
  | 13 => v = undef
  | 14 => v = undef
  | 15 => v = undef
  | _ => v = .bool true
theorem RdGN1.mono {qq : Nat} {i : Nat} {v : Value} {w w' : World} (_ : Below w.heap.size w w') (h : RdGN1 qq i w v) : RdGN1 qq i w' v := by
  unfold RdGN1 at *
  exact h
def RdGN3 (c0 c1 c2 : Int) (n0 n1 n2 n3 n4 n5 : Nat) (qq : Nat) (L : List UInt8) (m9 : Nat) (A : Option Addr) (n cap : Nat) (sa sb : ByteArray) (ds : Bool) (i : Nat) (w : World) (v : Value) : Prop :=
  match i with
  | 0 => v = Value.pointer (some ⟨qq, 0, none⟩)
  | 1 => v = Value.pointer (some ⟨qq, 0, none⟩)
  | 2 => v = Value.pointer (some ⟨qq, 1, none⟩)
  | 3 => v = .bool false
  | 4 => v = .bool false
  | 5 => v = .agg #[.int .i64 c0, .int .i64 c1, .int .i64 c2, .int .u64 (n0 : Int), .int .u64 (n1 : Int), .int .u64 (n2 : Int), .int .u64 (n3 : Int), .int .u64 (n4 : Int), .int .u64 (n5 : Int), .slice none 0 0]
  | 6 => v = .bool true
  | 7 => v = .bool false
  | 8 => v = .bool false
  | 9 => v = .bool false
  | 10 => v = .agg #[.int .i64 c0, .int .i64 c1, .int .i64 c2, .int .u64 (n0 : Int), .int .u64 (n1 : Int), .int .u64 (n2 : Int), .int .u64 (n3 : Int), .int .u64 (n4 : Int), .int .u64 (n5 : Int), .slice none 0 0]
  | 11 => BytR L m9 w v
  | 12 => v = Value.string sa
  | 13 => v = Value.slice A n cap
  | 14 => v = Value.string sb
  | 15 => v = .bool ds
  | _ => v = .bool ds
theorem RdGN3.mono {c0 c1 c2 : Int} {n0 n1 n2 n3 n4 n5 : Nat} {qq : Nat} {L : List UInt8} {m9 : Nat} {A : Option Addr} {n cap : Nat} {sa sb : ByteArray} {ds : Bool} {i : Nat} {v : Value} {w w' : World} (hb : Below w.heap.size w w') (h : RdGN3 c0 c1 c2 n0 n1 n2 n3 n4 n5 qq L m9 A n cap sa sb ds i w v) : RdGN3 c0 c1 c2 n0 n1 n2 n3 n4 n5 qq L m9 A n cap sa sb ds i w' v := by
  unfold RdGN3 at *
  split at h <;> first | exact h | exact BytR.mono hb h
def RdGN2 (c0 c1 c2 : Int) (n0 n1 n2 n3 n4 n5 : Nat) (qq : Nat) (i : Nat) (_ : World) (v : Value) : Prop :=
  match i with
  | 0 => v = Value.pointer (some ⟨qq, 0, none⟩)
  | 1 => v = Value.pointer (some ⟨qq, 0, none⟩)
  | 2 => v = Value.pointer (some ⟨qq, 1, none⟩)
  | 3 => v = .bool false
  | 4 => v = .bool false
  | 5 => v = .agg #[.int .i64 c0, .int .i64 c1, .int .i64 c2, .int .u64 (n0 : Int), .int .u64 (n1 : Int), .int .u64 (n2 : Int), .int .u64 (n3 : Int), .int .u64 (n4 : Int), .int .u64 (n5 : Int), .slice none 0 0]
  | 6 => v = .bool false
  | 7 => v = .bool true
  | 8 => v = .bool true
  | 9 => v = .bool true
  | 10 => v = undef
  | 11 => v = undef
  | 12 => v = undef
  | 13 => v = undef
  | 14 => v = undef
  | 15 => v = undef
  | _ => v = .bool true
theorem RdGN2.mono {c0 c1 c2 : Int} {n0 n1 n2 n3 n4 n5 : Nat} {qq : Nat} {i : Nat} {v : Value} {w w' : World} (_ : Below w.heap.size w w') (h : RdGN2 c0 c1 c2 n0 n1 n2 n3 n4 n5 qq i w v) : RdGN2 c0 c1 c2 n0 n1 n2 n3 n4 n5 qq i w' v := by
  unfold RdGN2 at *
  exact h
set_option maxHeartbeats 16000000 in
theorem rfread_any (A : Option Addr) (l : List UInt8) (n cap : Nat) (w : World) (hn : l.length = n) (hA : A = none → cap = 0) (hb : Bytes w w.heap.size A l) (hc : n ≤ cap) (hl : n ≤ 1048576) :
    Calls Tryd.prog 18 #[.slice A n cap] w (ReadE w l) := by
  have mixed : Tryd.prog.follows .mixedOrders = true := by kernel_rfl
  have HN := Lib.hid hn
  have HA := Lib.hid hA
  have Z := Lib.hid (zrow_new w)
  have B1 := Lib.hid (fbelow_box w (.cells #[.int .i64 0, .int .i64 0, .int .i64 0, .int .u64 0, .int .u64 0, .int .u64 0, .int .u64 0, .int .u64 0, .int .u64 0, .slice none 0 0] 25))
  have HB := Lib.hid hb
  clear hn hA hb
  go_enter Tryd.func18, Tryd.ntmps18
  go_wp2_with fail
  generalize w.alloc (.cells #[.int .i64 0, .int .i64 0, .int .i64 0, .int .u64 0, .int .u64 0, .int .u64 0, .int .u64 0, .int .u64 0, .int .u64 0, .slice none 0 0] 25) = W1 at *
  have HB1 := Lib.hid (HB.out.below B1.out)
  refine (refOpen_any A l n cap W1 HN.out HA.out (HB1.out.more B1.out.size) hc hl).mono ?_
  rintro e W2 ⟨hB2, h⟩
  have Z2 := Lib.hid (Z.out.below hB2.out)
  have B2 := Lib.hid (fbtr B1.out hB2.out)
  have g0 := Z2.out.thaw 0
  have g1 := Z2.out.thaw 1
  have g2 := Z2.out.thaw 2
  have g3 := Z2.out.thaw 3
  have g4 := Z2.out.thaw 4
  have g5 := Z2.out.thaw 5
  have g6 := Z2.out.thaw 6
  have g7 := Z2.out.thaw 7
  have g8 := Z2.out.thaw 8
  have g9 := Z2.out.thaw 9
  obtain ⟨y0, y1, y2, y3, y4, y5, y6, y7, y8, y9⟩ := Z2.out.box
  have R1 := Lib.hid (Z2.out.set 0 0 0 0 0 0 0 0 0 none 0 0)
  have hT := only_ten W2 w.heap.size (.int .i64 0) (.int .i64 0) (.int .i64 0) (.int .u64 0) (.int .u64 0) (.int .u64 0) (.int .u64 0) (.int .u64 0) (.int .u64 0) (.slice none 0 0)
  have R2 := Lib.hid (hT.below B2.out (fun j hj => by omega) B2.out.size)
  clear hT
  rcases h with ⟨hs, rfl⟩ | ⟨hs, A2, cc2, rfl, ho2⟩
  · have HR := Lib.hid (readF_unsealed hs)
    clear hs
    go_wp2
    refine bodyPost_ret (results_row_tmp rfl _ _ w.heap.size 25 #[.int .i64 0, .int .i64 0, .int .i64 0, .int .u64 0, .int .u64 0, .int .u64 0, .int .u64 0, .int .u64 0, .int .u64 0, .slice none 0 0] (0, 0) _ rfl R1.out Tryd.underlying25 rfl (by kernel_rfl)) rfl ?_
    exact readE_none HR.out R2
  · by_cases h3 : n - 4 < 3
    · have HR := Lib.hid (show readF l = none by
        unfold readF openF
        rw [if_neg (by have := HN.out; rw [List.length_take]; omega)])
      have h3' : ((n - 4 : Nat) : Int) < 3 := by omega
      clear hs
      go_wp2
      refine bodyPost_ret (results_row_tmp rfl _ _ w.heap.size 25 #[.int .i64 0, .int .i64 0, .int .i64 0, .int .u64 0, .int .u64 0, .int .u64 0, .int .u64 0, .int .u64 0, .int .u64 0, .slice none 0 0] (0, 0) _ rfl R1.out Tryd.underlying25 rfl (by kernel_rfl)) rfl ?_
      exact readE_none HR.out R2
    · obtain ⟨m, hm⟩ : ∃ m, n - 4 = m + 3 := ⟨n - 4 - 3, by omega⟩
      rw [hm] at ho2 ⊢
      have h3' : decide ((m : Int) + 3 < 3) = false := decide_eq_false (by omega)
      clear R1 R2
      obtain ⟨g, rfl⟩ : ∃ g, A2 = some ⟨g, 0, none⟩ := by
        rcases ho2.out.form8 with h | h
        · subst h
          have h1 := ho2.out.none_cap rfl
          have h2 := ho2.out.cap_le
          omega
        · exact h
      generalize hins : l.take (m + 3) = ins at ho2
      have HI := Lib.hid hins
      have HIL := Lib.hid ho2.out.len
      have hbt := Lib.hid ho2.out.bts
      have hG := Nat.lt_of_lt_of_le (lt_of_heap Z.out) (ho2.out.lt (g := g) rfl).1
      have hgl := (ho2.out.lt (g := g) rfl).2
      have HOP := Lib.hid (show openF l = ins by unfold openF; rw [HN.out, hm]; exact hins)
      clear hins
      obtain ⟨u0, u1, u2⟩ := three_cells ho2.out
      have hcap := ho2.out.cap_le
      have HSL := Lib.hid hs
      clear ho2 hs
      have l0 := at8_lt ins 0
      have l1 := at8_lt ins 1
      have l2 := at8_lt ins 2
      have e0 : wrap64 ((at8 ins 0 : Nat) : Int) = ((at8 ins 0 : Nat) : Int) := by unfold wrap64; omega
      have e1 : wrap64 ((at8 ins 1 : Nat) : Int) = ((at8 ins 1 : Nat) : Int) := by unfold wrap64; omega
      have e2 : wrap64 ((at8 ins 2 : Nat) : Int) = ((at8 ins 2 : Nat) : Int) := by unfold wrap64; omega
      generalize hc0 : ((at8 ins 0 : Nat) : Int) = c0 at u0 e0
      generalize hc1 : ((at8 ins 1 : Nat) : Int) = c1 at u1 e1
      generalize hc2 : ((at8 ins 2 : Nat) : Int) = c2 at u2 e2
      have HC0 := Lib.hid hc0
      have HC1 := Lib.hid hc1
      have HC2 := Lib.hid hc2
      clear hc0 hc1 hc2 l0 l1 l2
      obtain ⟨A3, hA3⟩ : ∃ A3, behind (some ⟨g, 0, none⟩) cc2 3 = A3 := ⟨_, rfl⟩
      obtain ⟨C3, hC3⟩ : ∃ C3, cc2 - 3 = C3 := ⟨_, rfl⟩
      have HA3 := Lib.hid hA3
      have HC3 := Lib.hid hC3
      have W3 := Lib.hid (reader_new (A := A3) (cap := C3) (l := ins.drop 3) (m := m) W2 (by rw [List.length_drop, HIL.out]; omega) (by have h := hbt.out.back 3 (by rw [HIL.out]; omega); rw [hA3, hC3] at h; exact h))
      have hbo : blockOf A3 = some g := by rw [← hA3, behind_block]; rfl
      rw [hbo] at W3
      clear hbo hA3 hC3 hbt
      have B3 := Lib.hid (fbelow_box W2 (.cells #[.slice A3 m C3, .bool false] 60))
      have v0 := fcell_below u0 B3.out
      have v1 := fcell_below u1 B3.out
      have v2 := fcell_below u2 B3.out
      have Z3 := Lib.hid (Z2.out.below B3.out)
      have BB3 := Lib.hid (fbtr B2.out B3.out)
      go_wp2_with (refine wpList_slice3 rfl (.tmp 21) rfl (some ⟨g, 0, none⟩) A3 m cc2 C3 rfl HA3.out HC3.out ?_)
      generalize W2.alloc (.cells #[.slice A3 m C3, .bool false] 60) = V3 at *
      have hq3 := W3.out.lt
      generalize hqq : W2.heap.size = qq at *
      have B4 := Lib.hid (fbelow_box V3 (.cells #[.int .i64 0, .int .i64 0, .int .i64 0, .int .u64 0, .int .u64 0, .int .u64 0, .int .u64 0, .int .u64 0, .int .u64 0, .slice none 0 0] 25))
      have x0 := fcell_below v0 B4.out
      have x1 := fcell_below v1 B4.out
      have x2 := fcell_below v2 B4.out
      have FZ := frow_new (k := 0) (s := 0) (t := 0) (i := 0) (c := 0) (p := 0) (q := 0) (a := 0) (e := 0) (A := none) (n := 0) (cap := 0) (ty := 25) V3
      obtain ⟨z0, z1, z2, z3, z4, z5, z6, z7, z8, z9⟩ := FZ.box
      have f0 := FZ.thaw 0
      have f1 := FZ.thaw 1
      have f2 := FZ.thaw 2
      have f3 := FZ.thaw 3
      have f4 := FZ.thaw 4
      have f5 := FZ.thaw 5
      have f6 := FZ.thaw 6
      have f7 := FZ.thaw 7
      have f8 := FZ.thaw 8
      have f9 := FZ.thaw 9
      have FV := Lib.hid (frow_new (k := c0) (s := c1) (t := c2) (i := 0) (c := 0) (p := 0) (q := 0) (a := 0) (e := 0) (A := none) (n := 0) (cap := 0) (ty := 25) V3)
      have B5 := Lib.hid (fbelow_box V3 (.cells #[.int .i64 c0, .int .i64 c1, .int .i64 c2, .int .u64 0, .int .u64 0, .int .u64 0, .int .u64 0, .int .u64 0, .int .u64 0, .slice none 0 0] 25))
      clear B4 FZ
      go_region
      clear u0 u1 u2 v0 v1 v2 x0 x1 x2 z0 z1 z2 z3 z4 z5 z6 z7 z8 z9 f0 f1 f2 f3 f4 f5 f6 f7 f8 f9 y0 y1 y2 y3 y4 y5 y6 y7 y8 y9 g0 g1 g2 g3 g4 g5 g6 g7 g8 g9
      generalize V3.alloc (.cells #[.int .i64 c0, .int .i64 c1, .int .i64 c2, .int .u64 0, .int .u64 0, .int .u64 0, .int .u64 0, .int .u64 0, .int .u64 0, .slice none 0 0] 25) = V4 at *
      have BD := Lib.hid (show Below V3.heap.size V3 V4.drew from ⟨B5.out.os, B5.out.tape, B5.out.output, B5.out.size, B5.out.block⟩)
      have RD := Lib.hid (rd_below W3.out BD.out)
      have FR := Lib.hid (show FRow V3.heap.size c0 c1 c2 0 0 0 0 0 0 none 0 0 25 V4.drew from FV.out)
      have ZR := Lib.hid (Z3.out.below BD.out)
      have BB := Lib.hid (fbtr BB3.out BD.out)
      clear W3 FV Z3 BB3 B5 BD B3
      generalize V4.drew = V5 at *
      generalize hfb : V3.heap.size = fb at *
      clear hfb
      have HS0 := Lib.hid (show (⟨ins.drop 3, false⟩ : RS).l.length ≤ 1048576 from by simp only; rw [List.length_drop, HIL.out]; omega)
      have RD : Hid (Rd RfT V5 qq (some g) (⟨ins.drop 3, false⟩ : RS).l (⟨ins.drop 3, false⟩ : RS).bad) := RD
      generalize hs0 : (⟨ins.drop 3, false⟩ : RS) = s0 at RD HS0
      have HE0 := Lib.hid hs0
      clear hs0
      go_wp2_with fail
      refine (fuint_any qq (some g) s0 _ RD.out (by have := HS0.out; omega)).mono ?_
      rintro e V6 ⟨rfl, h1, h2⟩
      have HS1 := Lib.hid (Nat.le_trans (uint_le s0) HS0.out)
      obtain ⟨n0, s1, hx⟩ : ∃ n s, rUint s0 = (n, s) := ⟨_, _, rfl⟩
      have HX0 := Lib.hid hx
      rw [hx] at h1 HS1 ⊢
      simp only at h1 HS1 ⊢
      clear hx HS0
      have FR6 := Lib.hid (FR.out.only h2.out (by omega))
      have ZR6 := Lib.hid (ZR.out.only h2.out (by omega))
      have BB6 := Lib.hid (h2.out.below BB.out (fun j hj => by omega) BB.out.size)
      obtain ⟨z0, z1, z2, z3, z4, z5, z6, z7, z8, z9⟩ := FR6.out.box
      have fz := FR6.out.thaw 3
      have hO : Only (fun k => k = fb) V6 (V6.setCell ⟨fb, 3, none⟩ (.int .u64 (n0 : Int))) := (Only.refl (fun k => k = fb) V6).setCell (p := ⟨fb, 3, none⟩) (.inl rfl) _
      clear FR ZR BB RD h2
      have RD := Lib.hid (h1.out.keep hO (by omega) (fun k hk => by cases hk; omega))
      have FR := Lib.hid (FR6.out.set3 (n0 : Int))
      have ZR := Lib.hid (ZR6.out.only hO (by omega))
      have BB := Lib.hid (hO.below BB6.out (fun j hj => by omega) BB6.out.size)
      clear hO FR6 ZR6 BB6 h1
      go_wp2_with fail
      generalize V6.setCell ⟨fb, 3, none⟩ (.int .u64 (n0 : Int)) = V7 at *
      clear fz z0 z1 z2 z3 z4 z5 z6 z7 z8 z9
      clear V6
      refine (fuint_any qq (some g) s1 _ RD.out (by have := HS1.out; omega)).mono ?_
      rintro e V6 ⟨rfl, h1, h2⟩
      have HS2 := Lib.hid (Nat.le_trans (uint_le s1) HS1.out)
      obtain ⟨n1, s2, hx⟩ : ∃ n s, rUint s1 = (n, s) := ⟨_, _, rfl⟩
      have HX1 := Lib.hid hx
      rw [hx] at h1 HS2 ⊢
      simp only at h1 HS2 ⊢
      clear hx HS1
      have FR6 := Lib.hid (FR.out.only h2.out (by omega))
      have ZR6 := Lib.hid (ZR.out.only h2.out (by omega))
      have BB6 := Lib.hid (h2.out.below BB.out (fun j hj => by omega) BB.out.size)
      obtain ⟨z0, z1, z2, z3, z4, z5, z6, z7, z8, z9⟩ := FR6.out.box
      have fz := FR6.out.thaw 4
      have hO : Only (fun k => k = fb) V6 (V6.setCell ⟨fb, 4, none⟩ (.int .u64 (n1 : Int))) := (Only.refl (fun k => k = fb) V6).setCell (p := ⟨fb, 4, none⟩) (.inl rfl) _
      clear FR ZR BB RD h2
      have RD := Lib.hid (h1.out.keep hO (by omega) (fun k hk => by cases hk; omega))
      have FR := Lib.hid (FR6.out.set4 (n1 : Int))
      have ZR := Lib.hid (ZR6.out.only hO (by omega))
      have BB := Lib.hid (hO.below BB6.out (fun j hj => by omega) BB6.out.size)
      clear hO FR6 ZR6 BB6 h1
      go_wp2_with fail
      generalize V6.setCell ⟨fb, 4, none⟩ (.int .u64 (n1 : Int)) = V7 at *
      clear fz z0 z1 z2 z3 z4 z5 z6 z7 z8 z9
      clear V6
      refine (fuint_any qq (some g) s2 _ RD.out (by have := HS2.out; omega)).mono ?_
      rintro e V6 ⟨rfl, h1, h2⟩
      have HS3 := Lib.hid (Nat.le_trans (uint_le s2) HS2.out)
      obtain ⟨n2, s3, hx⟩ : ∃ n s, rUint s2 = (n, s) := ⟨_, _, rfl⟩
      have HX2 := Lib.hid hx
      rw [hx] at h1 HS3 ⊢
      simp only at h1 HS3 ⊢
      clear hx HS2
      have FR6 := Lib.hid (FR.out.only h2.out (by omega))
      have ZR6 := Lib.hid (ZR.out.only h2.out (by omega))
      have BB6 := Lib.hid (h2.out.below BB.out (fun j hj => by omega) BB.out.size)
      obtain ⟨z0, z1, z2, z3, z4, z5, z6, z7, z8, z9⟩ := FR6.out.box
      have fz := FR6.out.thaw 5
      have hO : Only (fun k => k = fb) V6 (V6.setCell ⟨fb, 5, none⟩ (.int .u64 (n2 : Int))) := (Only.refl (fun k => k = fb) V6).setCell (p := ⟨fb, 5, none⟩) (.inl rfl) _
      clear FR ZR BB RD h2
      have RD := Lib.hid (h1.out.keep hO (by omega) (fun k hk => by cases hk; omega))
      have FR := Lib.hid (FR6.out.set5 (n2 : Int))
      have ZR := Lib.hid (ZR6.out.only hO (by omega))
      have BB := Lib.hid (hO.below BB6.out (fun j hj => by omega) BB6.out.size)
      clear hO FR6 ZR6 BB6 h1
      go_wp2_with fail
      generalize V6.setCell ⟨fb, 5, none⟩ (.int .u64 (n2 : Int)) = V7 at *
      clear fz z0 z1 z2 z3 z4 z5 z6 z7 z8 z9
      clear V6
      refine (fuint_any qq (some g) s3 _ RD.out (by have := HS3.out; omega)).mono ?_
      rintro e V6 ⟨rfl, h1, h2⟩
      have HS4 := Lib.hid (Nat.le_trans (uint_le s3) HS3.out)
      obtain ⟨n3, s4, hx⟩ : ∃ n s, rUint s3 = (n, s) := ⟨_, _, rfl⟩
      have HX3 := Lib.hid hx
      rw [hx] at h1 HS4 ⊢
      simp only at h1 HS4 ⊢
      clear hx HS3
      have FR6 := Lib.hid (FR.out.only h2.out (by omega))
      have ZR6 := Lib.hid (ZR.out.only h2.out (by omega))
      have BB6 := Lib.hid (h2.out.below BB.out (fun j hj => by omega) BB.out.size)
      obtain ⟨z0, z1, z2, z3, z4, z5, z6, z7, z8, z9⟩ := FR6.out.box
      have fz := FR6.out.thaw 6
      have hO : Only (fun k => k = fb) V6 (V6.setCell ⟨fb, 6, none⟩ (.int .u64 (n3 : Int))) := (Only.refl (fun k => k = fb) V6).setCell (p := ⟨fb, 6, none⟩) (.inl rfl) _
      clear FR ZR BB RD h2
      have RD := Lib.hid (h1.out.keep hO (by omega) (fun k hk => by cases hk; omega))
      have FR := Lib.hid (FR6.out.set6 (n3 : Int))
      have ZR := Lib.hid (ZR6.out.only hO (by omega))
      have BB := Lib.hid (hO.below BB6.out (fun j hj => by omega) BB6.out.size)
      clear hO FR6 ZR6 BB6 h1
      go_wp2_with fail
      generalize V6.setCell ⟨fb, 6, none⟩ (.int .u64 (n3 : Int)) = V7 at *
      clear fz z0 z1 z2 z3 z4 z5 z6 z7 z8 z9
      clear V6
      refine (fuint_any qq (some g) s4 _ RD.out (by have := HS4.out; omega)).mono ?_
      rintro e V6 ⟨rfl, h1, h2⟩
      have HS5 := Lib.hid (Nat.le_trans (uint_le s4) HS4.out)
      obtain ⟨n4, s5, hx⟩ : ∃ n s, rUint s4 = (n, s) := ⟨_, _, rfl⟩
      have HX4 := Lib.hid hx
      rw [hx] at h1 HS5 ⊢
      simp only at h1 HS5 ⊢
      clear hx HS4
      have FR6 := Lib.hid (FR.out.only h2.out (by omega))
      have ZR6 := Lib.hid (ZR.out.only h2.out (by omega))
      have BB6 := Lib.hid (h2.out.below BB.out (fun j hj => by omega) BB.out.size)
      obtain ⟨z0, z1, z2, z3, z4, z5, z6, z7, z8, z9⟩ := FR6.out.box
      have fz := FR6.out.thaw 7
      have hO : Only (fun k => k = fb) V6 (V6.setCell ⟨fb, 7, none⟩ (.int .u64 (n4 : Int))) := (Only.refl (fun k => k = fb) V6).setCell (p := ⟨fb, 7, none⟩) (.inl rfl) _
      clear FR ZR BB RD h2
      have RD := Lib.hid (h1.out.keep hO (by omega) (fun k hk => by cases hk; omega))
      have FR := Lib.hid (FR6.out.set7 (n4 : Int))
      have ZR := Lib.hid (ZR6.out.only hO (by omega))
      have BB := Lib.hid (hO.below BB6.out (fun j hj => by omega) BB6.out.size)
      clear hO FR6 ZR6 BB6 h1
      go_wp2_with fail
      generalize V6.setCell ⟨fb, 7, none⟩ (.int .u64 (n4 : Int)) = V7 at *
      clear fz z0 z1 z2 z3 z4 z5 z6 z7 z8 z9
      clear V6
      refine (fuint_any qq (some g) s5 _ RD.out (by have := HS5.out; omega)).mono ?_
      rintro e V6 ⟨rfl, h1, h2⟩
      have HS6 := Lib.hid (Nat.le_trans (uint_le s5) HS5.out)
      obtain ⟨n5, s6, hx⟩ : ∃ n s, rUint s5 = (n, s) := ⟨_, _, rfl⟩
      have HX5 := Lib.hid hx
      rw [hx] at h1 HS6 ⊢
      simp only at h1 HS6 ⊢
      clear hx HS5
      have FR6 := Lib.hid (FR.out.only h2.out (by omega))
      have ZR6 := Lib.hid (ZR.out.only h2.out (by omega))
      have BB6 := Lib.hid (h2.out.below BB.out (fun j hj => by omega) BB.out.size)
      obtain ⟨z0, z1, z2, z3, z4, z5, z6, z7, z8, z9⟩ := FR6.out.box
      have fz := FR6.out.thaw 8
      have hO : Only (fun k => k = fb) V6 (V6.setCell ⟨fb, 8, none⟩ (.int .u64 (n5 : Int))) := (Only.refl (fun k => k = fb) V6).setCell (p := ⟨fb, 8, none⟩) (.inl rfl) _
      clear FR ZR BB RD h2
      have RD := Lib.hid (h1.out.keep hO (by omega) (fun k hk => by cases hk; omega))
      have FR := Lib.hid (FR6.out.set8 (n5 : Int))
      have ZR := Lib.hid (ZR6.out.only hO (by omega))
      have BB := Lib.hid (hO.below BB6.out (fun j hj => by omega) BB6.out.size)
      clear hO FR6 ZR6 BB6 h1
      have HUS := Lib.hid (six_uints HX0.out HX1.out HX2.out HX3.out HX4.out HX5.out)
      clear HX0 HX1 HX2 HX3 HX4 HX5 e0 e1 e2
      obtain ⟨A6, c6, r0, r1, -, -, -, -, -⟩ := RD.out.flat
      by_cases h0 : 0 < s6.l.length
      · go_wp2_with fail
        generalize V6.setCell ⟨fb, 8, none⟩ (.int .u64 (n5 : Int)) = V7 at *
        clear fz z0 z1 z2 z3 z4 z5 z6 z7 z8 z9 r0 r1
        refine (ftext_any qq (some g) s6 448 _ (by omega) (by omega) RD.out (by have := HS6.out; omega)).mono ?_
        rintro e V8 ⟨rfl, h1, h2⟩
        have HTX := Lib.hid (show restF (ins.drop 3) = ([n0, n1, n2, n3, n4, n5], rText s6 448) from by
          unfold restF
          rw [HE0.out, HUS.out]
          simp only
          rw [if_pos h0])
        obtain ⟨tx, s7, hx⟩ : ∃ t s, rText s6 448 = (t, s) := ⟨_, _, rfl⟩
        rw [hx] at h1 HTX ⊢
        simp only at h1 ⊢
        clear hx
        have FR8 := Lib.hid (FR.out.only h2.out (by omega))
        have ZR8 := Lib.hid (ZR.out.only h2.out (by omega))
        have BB8 := Lib.hid (h2.out.below BB.out (fun j hj => by omega) BB.out.size)
        clear FR ZR BB RD h2
        obtain ⟨V9, c9, C, hby, hno⟩ := conv_wbl ⟨tx.toArray⟩ V8
        have hsz : (⟨tx.toArray⟩ : ByteArray).size = tx.length := by simp [ByteArray.size]
        have hst : strL ⟨tx.toArray⟩ = tx := by simp [strL]
        rw [hst] at hby
        rw [hsz] at C
        generalize hl9 : tx.length = L9 at C
        have HL9 := Lib.hid hl9
        clear hst hsz hl9
        generalize (⟨tx.toArray⟩ : ByteArray) = sx at C ⊢
        have FR9 := Lib.hid (FR8.out.only hno.out (fun h => h))
        have ZR9 := Lib.hid (ZR8.out.only hno.out (fun h => h))
        have RD9 := Lib.hid (h1.out.keep hno.out (fun h => h) (fun _ _ h => h))
        have BB9 := Lib.hid (hno.out.below BB8.out (fun j hj => hj.elim) BB8.out.size)
        have hb8 : fb < V8.heap.size := lt_of_heap FR8.out
        obtain ⟨z0, z1, z2, z3, z4, z5, z6, z7, z8, z9⟩ := FR9.out.box
        have fz := FR9.out.thaw 9
        generalize hv8 : V8.heap.size = nb at C hby hb8
        have hO : Only (fun k => k = fb) V9 (V9.setCell ⟨fb, 9, none⟩ (.slice (some ⟨nb, 0, none⟩) L9 c9)) := (Only.refl (fun k => k = fb) V9).setCell (p := ⟨fb, 9, none⟩) (.inl rfl) _
        have RD := Lib.hid (RD9.out.keep hO (by omega) (fun k hk => by cases hk; omega))
        have FR := Lib.hid (FR9.out.set9 (some ⟨nb, 0, none⟩) L9 c9)
        have ZR := Lib.hid (ZR9.out.only hO (by omega))
        have BB := Lib.hid (hO.below BB9.out (fun j hj => by omega) BB9.out.size)
        have hwnb : w.heap.size < nb := by omega
        have WB := Lib.hid ((hby.out.keep hO (fun k hk => by have : nb = k := Option.some.inj hk; omega)).lower (B' := w.heap.size + 1) (by omega))
        clear hO FR8 ZR8 BB8 FR9 ZR9 RD9 BB9 h1 hno hv8 hby
        go_wp2_with fail
        generalize V9.setCell ⟨fb, 9, none⟩ (.slice (some ⟨nb, 0, none⟩) L9 c9) = V at *
        generalize some (⟨nb, 0, none⟩ : Addr) = A9 at FR WB ⊢
        have RDL := RD.out.lt
        obtain ⟨A7, c7, r0, r1, -, -, -, -, -⟩ := RD.out.flat
        have HRAW := Lib.hid (show rawF ins = ⟨c0, c1, c2, n0, n1, n2, n3, n4, n5, tx⟩ from by
          unfold rawF
          rw [HTX.out, ← HC0.out, ← HC1.out, ← HC2.out]
          rfl)
        have HBD := Lib.hid (show (restF (ins.drop 3)).2.2.bad = s7.bad from by rw [HTX.out])
        clear fz z0 z1 z2 z3 z4 z5 z6 z7 z8 z9 RD HTX HC0 HC1 HC2
        have FR : Hid (FRow fb c0 c1 c2 (n0 : Int) (n1 : Int) (n2 : Int) (n3 : Int) (n4 : Int) (n5 : Int) A9 L9 c9 25 V.drew) := FR
        have ZR : Hid (FRow w.heap.size 0 0 0 0 0 0 0 0 0 none 0 0 25 V.drew) := ZR
        have BB : Hid (Below w.heap.size w V.drew) := Lib.hid ⟨BB.out.os, BB.out.tape, BB.out.output, BB.out.size, BB.out.block⟩
        have WB : Hid (Wbl V.drew (w.heap.size + 1) A9 c9 tx) := WB
        have r1 : V.drew.cell? ⟨qq, 1, none⟩ = some (.bool s7.bad) := r1
        clear r0
        by_cases hbad : s7.bad = true
        · rw [hbad] at r1
          have HR := Lib.hid (show readF l = none by
            unfold readF
            rw [if_neg (by rw [HOP.out, HBD.out, hbad]; simp)])
          clear hbad HBD HRAW
          refine region_steps (n := 85) (RdGT1 qq) (by kernel_rfl) (by kernel_rfl) rfl (fun _ _ _ _ hb h => RdGT1.mono hb h) ?_ ?_
          · refine And.intro ?_ (And.intro ?_ (And.intro ?_ (And.intro ?_ (And.intro ?_ (And.intro ?_ (And.intro ?_ (And.intro ?_ (And.intro ?_ (And.intro ?_ (And.intro ?_ (And.intro ?_ (And.intro ?_ (And.intro ?_ (And.intro ?_ (And.intro ?_ (And.intro ?_ (True.intro)))))))))))))))))
            · intro listed a' w' hw hd K hK
              refine step_free rfl ?_
              apply wp_move
              exact hK _ _ (Below.refl _ _) (fun s hs => by cases hs; exact hw.kept 6 (by kernel_rfl))
            · intro listed a' w' hw hd K hK
              have hv66 : a'.tmps.getD 66 undef = Value.pointer (some ⟨qq, 0, none⟩) := (hw.at_ 0 66 rfl (hd ⟨0, .data⟩ (by simp) rfl))
              refine step_free rfl ?_
              unfold Oper.wp
              simp only [execOp]
              go_simp
              exact hK _ _ (Below.refl _ _) (fun s hs => by cases hs; rfl)
            · intro listed a' w' hw hd K hK
              have hv67 : a'.tmps.getD 67 undef = Value.pointer (some ⟨qq, 0, none⟩) := (hw.at_ 1 67 rfl (hd ⟨1, .data⟩ (by simp) rfl))
              refine step_free rfl ?_
              unfold Oper.wp
              simp only [execOp]
              go_simp
              exact hK _ _ (Below.refl _ _) (fun s hs => by cases hs; rfl)
            · intro listed a' w' hw hd K hK
              have hv68 : a'.tmps.getD 68 undef = Value.pointer (some ⟨qq, 1, none⟩) := (hw.at_ 2 68 rfl (hd ⟨2, .data⟩ (by simp) rfl))
              have q1 := fcell_below r1 hw.below
              refine step_free rfl ?_
              unfold Oper.wp
              simp only [execOp]
              go_simp
              exact hK _ _ (Below.refl _ _) (fun s hs => by cases hs; rfl)
            · intro listed a' w' hw hd K hK
              refine step_free rfl ?_
              apply wp_move
              exact hK _ _ (Below.refl _ _) (fun s hs => by cases hs; exact (hw.at_ 3 69 rfl (hd ⟨3, .data⟩ (by simp) rfl)))
            · intro listed a' w' hw hd K hK
              have hgd : a'.tmps.getD 70 undef = .bool true := (hw.at_ 4 70 rfl (hd ⟨4, .guard⟩ (by simp) rfl))
              refine step_unwanted (j := 4) (b := false) (s := 70) rfl rfl (by rw [hgd]; exact fun h => by cases h) ?_
              exact hK _ _ (Below.refl _ _) (fun s hs => by cases hs; rfl)
            · intro listed a' w' hw hd K hK
              have hgd : a'.tmps.getD 70 undef = .bool true := (hw.at_ 4 70 rfl (hd ⟨4, .guard⟩ (by simp) rfl))
              refine step_unwanted (j := 4) (b := false) (s := 70) rfl rfl (by rw [hgd]; exact fun h => by cases h) ?_
              exact hK _ _ (Below.refl _ _) (fun s hs => by cases hs; rfl)
            · intro listed a' w' hw hd K hK
              have hgd : a'.tmps.getD 70 undef = .bool true := (hw.at_ 4 70 rfl (hd ⟨4, .guard⟩ (by simp) rfl))
              refine step_unwanted (j := 4) (b := false) (s := 70) rfl rfl (by rw [hgd]; exact fun h => by cases h) ?_
              exact hK _ _ (Below.refl _ _) (fun s hs => by cases hs; rfl)
            · intro listed a' w' hw hd K hK
              have hv70 : a'.tmps.getD 70 undef = .bool true := (hw.at_ 4 70 rfl (hd ⟨4, .data⟩ (by simp) rfl))
              have hv73 : a'.tmps.getD 73 undef = undef := (hw.at_ 7 73 rfl (hd ⟨7, .data⟩ (by simp) rfl))
              refine step_free rfl ?_
              unfold Oper.wp
              simp only [execOp]
              go_simp
              exact hK _ _ (Below.refl _ _) (fun s hs => by cases hs; rfl)
            · intro listed a' w' hw hd K hK
              refine step_free rfl ?_
              apply wp_move
              exact hK _ _ (Below.refl _ _) (fun s hs => by cases hs; exact (hw.at_ 8 74 rfl (hd ⟨8, .data⟩ (by simp) rfl)))
            · intro listed a' w' hw hd K hK
              have hgd : a'.tmps.getD 75 undef = .bool true := (hw.at_ 9 75 rfl (hd ⟨9, .guard⟩ (by simp) rfl))
              refine step_unwanted (j := 9) (b := false) (s := 75) rfl rfl (by rw [hgd]; exact fun h => by cases h) ?_
              exact hK _ _ (Below.refl _ _) (fun s hs => by cases hs; rfl)
            · intro listed a' w' hw hd K hK
              have hgd : a'.tmps.getD 75 undef = .bool true := (hw.at_ 9 75 rfl (hd ⟨9, .guard⟩ (by simp) rfl))
              refine step_unwanted (j := 9) (b := false) (s := 75) rfl rfl (by rw [hgd]; exact fun h => by cases h) ?_
              exact hK _ _ (Below.refl _ _) (fun s hs => by cases hs; rfl)
            · intro listed a' w' hw hd K hK
              have hgd : a'.tmps.getD 75 undef = .bool true := (hw.at_ 9 75 rfl (hd ⟨9, .guard⟩ (by simp) rfl))
              refine step_unwanted (j := 9) (b := false) (s := 75) rfl rfl (by rw [hgd]; exact fun h => by cases h) ?_
              exact hK _ _ (Below.refl _ _) (fun s hs => by cases hs; rfl)
            · intro listed a' w' hw hd K hK
              have hgd : a'.tmps.getD 75 undef = .bool true := (hw.at_ 9 75 rfl (hd ⟨9, .guard⟩ (by simp) rfl))
              refine step_unwanted (j := 9) (b := false) (s := 75) rfl rfl (by rw [hgd]; exact fun h => by cases h) ?_
              exact hK _ _ (Below.refl _ _) (fun s hs => by cases hs; rfl)
            · intro listed a' w' hw hd K hK
              have hgd : a'.tmps.getD 75 undef = .bool true := (hw.at_ 9 75 rfl (hd ⟨9, .guard⟩ (by simp) rfl))
              refine step_unwanted (j := 9) (b := false) (s := 75) rfl rfl (by rw [hgd]; exact fun h => by cases h) ?_
              exact hK _ _ (Below.refl _ _) (fun s hs => by cases hs; rfl)
            · intro listed a' w' hw hd K hK
              have hgd : a'.tmps.getD 75 undef = .bool true := (hw.at_ 9 75 rfl (hd ⟨9, .guard⟩ (by simp) rfl))
              refine step_unwanted (j := 9) (b := false) (s := 75) rfl rfl (by rw [hgd]; exact fun h => by cases h) ?_
              exact hK _ _ (Below.refl _ _) (fun s hs => by cases hs; rfl)
            · intro listed a' w' hw hd K hK
              have hv75 : a'.tmps.getD 75 undef = .bool true := (hw.at_ 9 75 rfl (hd ⟨9, .data⟩ (by simp) rfl))
              have hv81 : a'.tmps.getD 81 undef = undef := (hw.at_ 15 81 rfl (hd ⟨15, .data⟩ (by simp) rfl))
              refine step_free rfl ?_
              unfold Oper.wp
              simp only [execOp]
              go_simp
              exact hK _ _ (Below.refl _ _) (fun s hs => by cases hs; rfl)
          · intro listed a' w' hw hall
            have hk82 : a'.tmps.getD 82 undef = .bool true := hw.at_ 16 82 rfl (hall 16 (Nat.lt_of_lt_of_eq (show 16 < 17 by omega) rfl))
            have ZX := Lib.hid (ZR.out.below hw.below)
            have BBX := Lib.hid (fbtr BB.out hw.below)
            have hp := hw.puts [66, 67, 68, 69, 70, 71, 72, 73, 74, 75, 76, 77, 78, 79, 80, 81, 82] (by kernel_rfl)
            clear hw hall
            rw [hp]
            simp only [List.foldl_cons, List.foldl_nil, hk82]
            generalize a'.tmps.getD 66 undef = u66
            generalize a'.tmps.getD 67 undef = u67
            generalize a'.tmps.getD 68 undef = u68
            generalize a'.tmps.getD 69 undef = u69
            generalize a'.tmps.getD 70 undef = u70
            generalize a'.tmps.getD 71 undef = u71
            generalize a'.tmps.getD 72 undef = u72
            generalize a'.tmps.getD 73 undef = u73
            generalize a'.tmps.getD 74 undef = u74
            generalize a'.tmps.getD 75 undef = u75
            generalize a'.tmps.getD 76 undef = u76
            generalize a'.tmps.getD 77 undef = u77
            generalize a'.tmps.getD 78 undef = u78
            generalize a'.tmps.getD 79 undef = u79
            generalize a'.tmps.getD 80 undef = u80
            generalize a'.tmps.getD 81 undef = u81
            clear hp hk82
            simp only [Act.put, List.setIfInBounds_toArray, List.set_cons_succ, List.set_cons_zero]
            generalize hw6 : w' = VX at *
            clear hw6
            have g0 := ZX.out.thaw 0
            have g1 := ZX.out.thaw 1
            have g2 := ZX.out.thaw 2
            have g3 := ZX.out.thaw 3
            have g4 := ZX.out.thaw 4
            have g5 := ZX.out.thaw 5
            have g6 := ZX.out.thaw 6
            have g7 := ZX.out.thaw 7
            have g8 := ZX.out.thaw 8
            have g9 := ZX.out.thaw 9
            obtain ⟨y0, y1, y2, y3, y4, y5, y6, y7, y8, y9⟩ := ZX.out.box
            have R1 := Lib.hid (ZX.out.set 0 0 0 0 0 0 0 0 0 none 0 0)
            have R2 := Lib.hid ((only_ten VX w.heap.size (.int .i64 0) (.int .i64 0) (.int .i64 0) (.int .u64 0) (.int .u64 0) (.int .u64 0) (.int .u64 0) (.int .u64 0) (.int .u64 0) (.slice none 0 0)).below BBX.out (fun j hj => by omega) BBX.out.size)
            clear ZX BBX
            go_wp2
            refine bodyPost_ret (results_row_tmp rfl _ _ w.heap.size 25 #[.int .i64 0, .int .i64 0, .int .i64 0, .int .u64 0, .int .u64 0, .int .u64 0, .int .u64 0, .int .u64 0, .int .u64 0, .slice none 0 0] (0, 0) _ rfl R1.out Tryd.underlying25 rfl (by kernel_rfl)) rfl ?_
            exact readE_none HR.out R2
        · have hbf : s7.bad = false := by simpa using hbad
          rw [hbf] at r1
          have HM := Lib.hid (fun W => show Calls Tryd.prog 11 #[.agg #[.int .i64 c0, .int .i64 c1, .int .i64 c2, .int .u64 (n0 : Int), .int .u64 (n1 : Int), .int .u64 (n2 : Int), .int .u64 (n3 : Int), .int .u64 (n4 : Int), .int .u64 (n5 : Int), .slice A9 L9 c9]] W (fun en w' => en = .returned (.bool (decide (mayF ⟨c0, c1, c2, n0, n1, n2, n3, n4, n5, tx⟩))) ∧ Hid (Below W.heap.size W w')) from rfmay_any ⟨c0, c1, c2, n0, n1, n2, n3, n4, n5, tx⟩ A9 L9 c9 HL9.out W)
          by_cases hmay : mayF ⟨c0, c1, c2, n0, n1, n2, n3, n4, n5, tx⟩
          · rw [decide_eq_true hmay] at HM
            have HBR := Lib.hid (fun W (h : Bytes W V.drew.heap.size A9 tx) (hB : V.drew.heap.size ≤ W.heap.size) => show Calls Tryd.prog 15 #[.agg #[.int .i64 c0, .int .i64 c1, .int .i64 c2, .int .u64 (n0 : Int), .int .u64 (n1 : Int), .int .u64 (n2 : Int), .int .u64 (n3 : Int), .int .u64 (n4 : Int), .int .u64 (n5 : Int), .slice A9 L9 c9]] W (BytesE W (frameL ⟨c0, c1, c2, n0, n1, n2, n3, n4, n5, tx⟩)) from rfbytes_any ⟨c0, c1, c2, n0, n1, n2, n3, n4, n5, tx⟩ hmay A9 L9 c9 V.drew.heap.size W HL9.out h hB)
            unfold BytesE at HBR
            have HRS := Lib.hid (fun e : frameL ⟨c0, c1, c2, n0, n1, n2, n3, n4, n5, tx⟩ = l => show readF l = some ⟨c0, c1, c2, n0, n1, n2, n3, n4, n5, tx⟩ from by
              unfold readF
              rw [HOP.out, HRAW.out]
              exact if_pos ⟨HSL.out, by rw [HIL.out]; omega, by rw [HBD.out, hbf], hmay, e⟩)
            have HRN := Lib.hid (fun e : frameL ⟨c0, c1, c2, n0, n1, n2, n3, n4, n5, tx⟩ ≠ l => show readF l = none from by
              unfold readF
              rw [HOP.out, HRAW.out]
              exact if_neg (fun h => e h.2.2.2.2))
            have HE := Lib.hid (same_str (frameL ⟨c0, c1, c2, n0, n1, n2, n3, n4, n5, tx⟩) l)
            clear hbad hbf hmay HBD HRAW
            generalize frameL ⟨c0, c1, c2, n0, n1, n2, n3, n4, n5, tx⟩ = L at *
            generalize hm9 : L.length = m9 at *
            have HML := Lib.hid hm9
            clear hm9
            obtain ⟨sa, hsa⟩ : ∃ sa : ByteArray, (⟨L.toArray⟩ : ByteArray) = sa := ⟨_, rfl⟩
            obtain ⟨sb, hsb⟩ : ∃ sb : ByteArray, (⟨l.toArray⟩ : ByteArray) = sb := ⟨_, rfl⟩
            rw [hsa, hsb] at HE
            have HSA := Lib.hid hsa
            have HSB := Lib.hid hsb
            clear hsa hsb
            have HQ := Lib.hid (show (!(sa.toList == sb.toList)) = !decide (L = l) from by rw [HE.out])
            generalize hds : (!decide (L = l)) = ds at HQ
            have HDS := Lib.hid hds
            clear hds HE
            refine region_steps (n := 85) (RdGT3 c0 c1 c2 n0 n1 n2 n3 n4 n5 A9 L9 c9 qq L m9 A n cap sa sb ds) (by kernel_rfl) (by kernel_rfl) rfl (fun _ _ _ _ hb h => RdGT3.mono hb h) ?_ ?_
            · refine And.intro ?_ (And.intro ?_ (And.intro ?_ (And.intro ?_ (And.intro ?_ (And.intro ?_ (And.intro ?_ (And.intro ?_ (And.intro ?_ (And.intro ?_ (And.intro ?_ (And.intro ?_ (And.intro ?_ (And.intro ?_ (And.intro ?_ (And.intro ?_ (And.intro ?_ (True.intro)))))))))))))))))
              · intro listed a' w' hw hd K hK
                refine step_free rfl ?_
                apply wp_move
                exact hK _ _ (Below.refl _ _) (fun s hs => by cases hs; exact hw.kept 6 (by kernel_rfl))
              · intro listed a' w' hw hd K hK
                have hv66 : a'.tmps.getD 66 undef = Value.pointer (some ⟨qq, 0, none⟩) := (hw.at_ 0 66 rfl (hd ⟨0, .data⟩ (by simp) rfl))
                refine step_free rfl ?_
                unfold Oper.wp
                simp only [execOp]
                go_simp
                exact hK _ _ (Below.refl _ _) (fun s hs => by cases hs; rfl)
              · intro listed a' w' hw hd K hK
                have hv67 : a'.tmps.getD 67 undef = Value.pointer (some ⟨qq, 0, none⟩) := (hw.at_ 1 67 rfl (hd ⟨1, .data⟩ (by simp) rfl))
                refine step_free rfl ?_
                unfold Oper.wp
                simp only [execOp]
                go_simp
                exact hK _ _ (Below.refl _ _) (fun s hs => by cases hs; rfl)
              · intro listed a' w' hw hd K hK
                have hv68 : a'.tmps.getD 68 undef = Value.pointer (some ⟨qq, 1, none⟩) := (hw.at_ 2 68 rfl (hd ⟨2, .data⟩ (by simp) rfl))
                have q1 := fcell_below r1 hw.below
                refine step_free rfl ?_
                unfold Oper.wp
                simp only [execOp]
                go_simp
                exact hK _ _ (Below.refl _ _) (fun s hs => by cases hs; rfl)
              · intro listed a' w' hw hd K hK
                refine step_free rfl ?_
                apply wp_move
                exact hK _ _ (Below.refl _ _) (fun s hs => by cases hs; exact (hw.at_ 3 69 rfl (hd ⟨3, .data⟩ (by simp) rfl)))
              · intro listed a' w' hw hd K hK
                have hgd : a'.tmps.getD 70 undef = .bool false := (hw.at_ 4 70 rfl (hd ⟨4, .guard⟩ (by simp) rfl))
                have hv7 := hw.kept 7 (by kernel_rfl)
                obtain ⟨k0, k1, k2, k3, k4, k5, k6, k7, k8, k9⟩ := (FR.out.below hw.below).box
                refine step_guarded (j := 4) (b := false) (s := 70) rfl rfl (by rw [hw.size]; exact Nat.lt_of_lt_of_eq (show 70 < 85 by omega) rfl) hgd ?_
                unfold Oper.wp
                simp only [execOp]
                go_simp
                exact hK _ _ (Below.refl _ _) (fun s hs => by cases hs; rfl)
              · intro listed a' w' hw hd K hK
                have hgd : a'.tmps.getD 70 undef = .bool false := (hw.at_ 4 70 rfl (hd ⟨4, .guard⟩ (by simp) rfl))
                have hv71 : a'.tmps.getD 71 undef = .agg #[.int .i64 c0, .int .i64 c1, .int .i64 c2, .int .u64 (n0 : Int), .int .u64 (n1 : Int), .int .u64 (n2 : Int), .int .u64 (n3 : Int), .int .u64 (n4 : Int), .int .u64 (n5 : Int), .slice A9 L9 c9] := (hw.at_ 5 71 rfl (hd ⟨5, .data⟩ (by simp) rfl))
                refine step_guarded (j := 4) (b := false) (s := 70) rfl rfl (by rw [hw.size]; exact Nat.lt_of_lt_of_eq (show 70 < 85 by omega) rfl) hgd ?_
                unfold Oper.wp
                simp only [execOp]
                go_simp
                refine (HM.out w').mono ?_
                rintro e w2 ⟨rfl, hb2⟩
                exact hK _ _ hb2.out (fun s hs => by cases hs; rfl)
              · intro listed a' w' hw hd K hK
                have hgd : a'.tmps.getD 70 undef = .bool false := (hw.at_ 4 70 rfl (hd ⟨4, .guard⟩ (by simp) rfl))
                have hv72 : a'.tmps.getD 72 undef = .bool true := (hw.at_ 6 72 rfl (hd ⟨6, .data⟩ (by simp) rfl))
                refine step_guarded (j := 4) (b := false) (s := 70) rfl rfl (by rw [hw.size]; exact Nat.lt_of_lt_of_eq (show 70 < 85 by omega) rfl) hgd ?_
                unfold Oper.wp
                simp only [execOp]
                go_simp
                exact hK _ _ (Below.refl _ _) (fun s hs => by cases hs; rfl)
              · intro listed a' w' hw hd K hK
                have hv70 : a'.tmps.getD 70 undef = .bool false := (hw.at_ 4 70 rfl (hd ⟨4, .data⟩ (by simp) rfl))
                have hv73 : a'.tmps.getD 73 undef = .bool false := (hw.at_ 7 73 rfl (hd ⟨7, .data⟩ (by simp) rfl))
                refine step_free rfl ?_
                unfold Oper.wp
                simp only [execOp]
                go_simp
                exact hK _ _ (Below.refl _ _) (fun s hs => by cases hs; rfl)
              · intro listed a' w' hw hd K hK
                refine step_free rfl ?_
                apply wp_move
                exact hK _ _ (Below.refl _ _) (fun s hs => by cases hs; exact (hw.at_ 8 74 rfl (hd ⟨8, .data⟩ (by simp) rfl)))
              · intro listed a' w' hw hd K hK
                have hgd : a'.tmps.getD 75 undef = .bool false := (hw.at_ 9 75 rfl (hd ⟨9, .guard⟩ (by simp) rfl))
                have hv7 := hw.kept 7 (by kernel_rfl)
                obtain ⟨k0, k1, k2, k3, k4, k5, k6, k7, k8, k9⟩ := (FR.out.below hw.below).box
                refine step_guarded (j := 9) (b := false) (s := 75) rfl rfl (by rw [hw.size]; exact Nat.lt_of_lt_of_eq (show 75 < 85 by omega) rfl) hgd ?_
                unfold Oper.wp
                simp only [execOp]
                go_simp
                exact hK _ _ (Below.refl _ _) (fun s hs => by cases hs; rfl)
              · intro listed a' w' hw hd K hK
                have hgd : a'.tmps.getD 75 undef = .bool false := (hw.at_ 9 75 rfl (hd ⟨9, .guard⟩ (by simp) rfl))
                have hv76 : a'.tmps.getD 76 undef = .agg #[.int .i64 c0, .int .i64 c1, .int .i64 c2, .int .u64 (n0 : Int), .int .u64 (n1 : Int), .int .u64 (n2 : Int), .int .u64 (n3 : Int), .int .u64 (n4 : Int), .int .u64 (n5 : Int), .slice A9 L9 c9] := (hw.at_ 10 76 rfl (hd ⟨10, .data⟩ (by simp) rfl))
                refine step_guarded (j := 9) (b := false) (s := 75) rfl rfl (by rw [hw.size]; exact Nat.lt_of_lt_of_eq (show 75 < 85 by omega) rfl) hgd ?_
                unfold Oper.wp
                simp only [execOp]
                go_simp
                refine (HBR.out w' (WB.out.bytes.below hw.below) hw.below.size).mono ?_
                rintro en w2 ⟨A8, c8, rfl, ho8, hb2⟩
                exact hK _ _ hb2.out (fun s hs => by cases hs; exact ⟨A8, c8, rfl, ho8.out.lower (Nat.zero_le _)⟩)
              · intro listed a' w' hw hd K hK
                have hgd : a'.tmps.getD 75 undef = .bool false := (hw.at_ 9 75 rfl (hd ⟨9, .guard⟩ (by simp) rfl))
                have hv77 : BytR L m9 w' (a'.tmps.getD 77 undef) := (hw.at_ 11 77 rfl (hd ⟨11, .data⟩ (by simp) rfl))
                obtain ⟨A8, c8, e8, ho8⟩ := hv77
                have cs := conv_str c8 ho8.bytes HML.out
                rw [HSA.out] at cs
                refine step_guarded (j := 9) (b := false) (s := 75) rfl rfl (by rw [hw.size]; exact Nat.lt_of_lt_of_eq (show 75 < 85 by omega) rfl) hgd ?_
                unfold Oper.wp
                simp only [execOp]
                go_simp
                exact hK _ _ (Below.refl _ _) (fun s hs => by cases hs; rfl)
              · intro listed a' w' hw hd K hK
                have hgd : a'.tmps.getD 75 undef = .bool false := (hw.at_ 9 75 rfl (hd ⟨9, .guard⟩ (by simp) rfl))
                refine step_guarded (j := 9) (b := false) (s := 75) rfl rfl (by rw [hw.size]; exact Nat.lt_of_lt_of_eq (show 75 < 85 by omega) rfl) hgd ?_
                apply wp_move
                exact hK _ _ (Below.refl _ _) (fun s hs => by cases hs; exact hw.kept 0 (by kernel_rfl))
              · intro listed a' w' hw hd K hK
                have hgd : a'.tmps.getD 75 undef = .bool false := (hw.at_ 9 75 rfl (hd ⟨9, .guard⟩ (by simp) rfl))
                have hv79 : a'.tmps.getD 79 undef = Value.slice A n cap := (hw.at_ 13 79 rfl (hd ⟨13, .data⟩ (by simp) rfl))
                have cs := conv_str cap (HB.out.below (fbtr BB.out hw.below)) HN.out
                rw [HSB.out] at cs
                refine step_guarded (j := 9) (b := false) (s := 75) rfl rfl (by rw [hw.size]; exact Nat.lt_of_lt_of_eq (show 75 < 85 by omega) rfl) hgd ?_
                unfold Oper.wp
                simp only [execOp]
                go_simp
                exact hK _ _ (Below.refl _ _) (fun s hs => by cases hs; rfl)
              · intro listed a' w' hw hd K hK
                have hgd : a'.tmps.getD 75 undef = .bool false := (hw.at_ 9 75 rfl (hd ⟨9, .guard⟩ (by simp) rfl))
                have hv78 : a'.tmps.getD 78 undef = Value.string sa := (hw.at_ 12 78 rfl (hd ⟨12, .data⟩ (by simp) rfl))
                have hv80 : a'.tmps.getD 80 undef = Value.string sb := (hw.at_ 14 80 rfl (hd ⟨14, .data⟩ (by simp) rfl))
                have hq := HQ.out
                refine step_guarded (j := 9) (b := false) (s := 75) rfl rfl (by rw [hw.size]; exact Nat.lt_of_lt_of_eq (show 75 < 85 by omega) rfl) hgd ?_
                unfold Oper.wp
                simp only [execOp]
                go_simp
                exact hK _ _ (Below.refl _ _) (fun s hs => by cases hs; rfl)
              · intro listed a' w' hw hd K hK
                have hv75 : a'.tmps.getD 75 undef = .bool false := (hw.at_ 9 75 rfl (hd ⟨9, .data⟩ (by simp) rfl))
                have hv81 : a'.tmps.getD 81 undef = .bool ds := (hw.at_ 15 81 rfl (hd ⟨15, .data⟩ (by simp) rfl))
                refine step_free rfl ?_
                unfold Oper.wp
                simp only [execOp]
                go_simp
                exact hK _ _ (Below.refl _ _) (fun s hs => by cases hs; rfl)
            · intro listed a' w' hw hall
              have hk82 : a'.tmps.getD 82 undef = .bool ds := hw.at_ 16 82 rfl (hall 16 (Nat.lt_of_lt_of_eq (show 16 < 17 by omega) rfl))
              have ZX := Lib.hid (ZR.out.below hw.below)
              have BBX := Lib.hid (fbtr BB.out hw.below)
              have FX := Lib.hid (FR.out.below hw.below)
              have WX := Lib.hid (WB.out.keep (only_none5 hw.below) (fun _ _ h => h))
              have hp := hw.puts [66, 67, 68, 69, 70, 71, 72, 73, 74, 75, 76, 77, 78, 79, 80, 81, 82] (by kernel_rfl)
              clear hw hall
              rw [hp]
              simp only [List.foldl_cons, List.foldl_nil, hk82]
              generalize a'.tmps.getD 66 undef = u66
              generalize a'.tmps.getD 67 undef = u67
              generalize a'.tmps.getD 68 undef = u68
              generalize a'.tmps.getD 69 undef = u69
              generalize a'.tmps.getD 70 undef = u70
              generalize a'.tmps.getD 71 undef = u71
              generalize a'.tmps.getD 72 undef = u72
              generalize a'.tmps.getD 73 undef = u73
              generalize a'.tmps.getD 74 undef = u74
              generalize a'.tmps.getD 75 undef = u75
              generalize a'.tmps.getD 76 undef = u76
              generalize a'.tmps.getD 77 undef = u77
              generalize a'.tmps.getD 78 undef = u78
              generalize a'.tmps.getD 79 undef = u79
              generalize a'.tmps.getD 80 undef = u80
              generalize a'.tmps.getD 81 undef = u81
              clear hp hk82
              simp only [Act.put, List.setIfInBounds_toArray, List.set_cons_succ, List.set_cons_zero]
              generalize hw6 : w' = VX at *
              clear hw6
              by_cases hLl : L = l
              · have HR := Lib.hid (HRS.out hLl)
                obtain rfl : ds = false := by rw [← HDS.out]; simp [hLl]
                clear HRS HRN HDS HBR hLl
                obtain ⟨k0, k1, k2, k3, k4, k5, k6, k7, k8, k9⟩ := FX.out.box
                obtain ⟨y0, y1, y2, y3, y4, y5, y6, y7, y8, y9⟩ := ZX.out.box
                have g0 := ZX.out.thaw 0
                have g1 := ZX.out.thaw 1
                have g2 := ZX.out.thaw 2
                have g3 := ZX.out.thaw 3
                have g4 := ZX.out.thaw 4
                have g5 := ZX.out.thaw 5
                have g6 := ZX.out.thaw 6
                have g7 := ZX.out.thaw 7
                have g8 := ZX.out.thaw 8
                have g9 := ZX.out.thaw 9
                have hT := only_ten VX w.heap.size (.int .i64 c0) (.int .i64 c1) (.int .i64 c2) (.int .u64 (n0 : Int)) (.int .u64 (n1 : Int)) (.int .u64 (n2 : Int)) (.int .u64 (n3 : Int)) (.int .u64 (n4 : Int)) (.int .u64 (n5 : Int)) (.slice A9 L9 c9)
                have R1 := Lib.hid (ZX.out.set c0 c1 c2 (n0 : Int) (n1 : Int) (n2 : Int) (n3 : Int) (n4 : Int) (n5 : Int) A9 L9 c9)
                have R2 := Lib.hid (hT.below BBX.out (fun j hj => by omega) BBX.out.size)
                have R3 := Lib.hid (WX.out.keep hT (fun j hj e => by have := WX.out.lt hj; omega))
                clear hT FX ZX BBX WX
                go_wp2
                refine bodyPost_ret (results_row_tmp rfl _ _ w.heap.size 25 #[.int .i64 c0, .int .i64 c1, .int .i64 c2, .int .u64 (n0 : Int), .int .u64 (n1 : Int), .int .u64 (n2 : Int), .int .u64 (n3 : Int), .int .u64 (n4 : Int), .int .u64 (n5 : Int), .slice A9 L9 c9] (0, 0) _ rfl R1.out Tryd.underlying25 rfl (by kernel_rfl)) rfl ?_
                refine ⟨A9, c9, ?_, ?_, ?_, ?_, R2⟩
                · rw [HR.out]
                  simp only [Option.getD_some, Option.isSome_some, HL9.out]
                  rfl
                · rw [HR.out]
                  exact Lib.hid R3.out.bytes
                · exact Lib.hid R3.out.none_cap
                · exact Lib.hid (fun j hj => by have := (R3.out.lt hj).1; omega)
              · have HR := Lib.hid (HRN.out hLl)
                obtain rfl : ds = true := by rw [← HDS.out]; simp [hLl]
                clear HRS HRN HDS HBR hLl FX WX
                have g0 := ZX.out.thaw 0
                have g1 := ZX.out.thaw 1
                have g2 := ZX.out.thaw 2
                have g3 := ZX.out.thaw 3
                have g4 := ZX.out.thaw 4
                have g5 := ZX.out.thaw 5
                have g6 := ZX.out.thaw 6
                have g7 := ZX.out.thaw 7
                have g8 := ZX.out.thaw 8
                have g9 := ZX.out.thaw 9
                obtain ⟨y0, y1, y2, y3, y4, y5, y6, y7, y8, y9⟩ := ZX.out.box
                have R1 := Lib.hid (ZX.out.set 0 0 0 0 0 0 0 0 0 none 0 0)
                have R2 := Lib.hid ((only_ten VX w.heap.size (.int .i64 0) (.int .i64 0) (.int .i64 0) (.int .u64 0) (.int .u64 0) (.int .u64 0) (.int .u64 0) (.int .u64 0) (.int .u64 0) (.slice none 0 0)).below BBX.out (fun j hj => by omega) BBX.out.size)
                clear ZX BBX
                go_wp2
                refine bodyPost_ret (results_row_tmp rfl _ _ w.heap.size 25 #[.int .i64 0, .int .i64 0, .int .i64 0, .int .u64 0, .int .u64 0, .int .u64 0, .int .u64 0, .int .u64 0, .int .u64 0, .slice none 0 0] (0, 0) _ rfl R1.out Tryd.underlying25 rfl (by kernel_rfl)) rfl ?_
                exact readE_none HR.out R2
          · rw [decide_eq_false hmay] at HM
            have HR := Lib.hid (show readF l = none by
              unfold readF
              rw [if_neg (by
                rw [HOP.out, HRAW.out]
                exact fun h => hmay h.2.2.2.1)])
            clear hbad hbf hmay HBD HRAW
            refine region_steps (n := 85) (RdGT2 c0 c1 c2 n0 n1 n2 n3 n4 n5 A9 L9 c9 qq) (by kernel_rfl) (by kernel_rfl) rfl (fun _ _ _ _ hb h => RdGT2.mono hb h) ?_ ?_
            · refine And.intro ?_ (And.intro ?_ (And.intro ?_ (And.intro ?_ (And.intro ?_ (And.intro ?_ (And.intro ?_ (And.intro ?_ (And.intro ?_ (And.intro ?_ (And.intro ?_ (And.intro ?_ (And.intro ?_ (And.intro ?_ (And.intro ?_ (And.intro ?_ (And.intro ?_ (True.intro)))))))))))))))))
              · intro listed a' w' hw hd K hK
                refine step_free rfl ?_
                apply wp_move
                exact hK _ _ (Below.refl _ _) (fun s hs => by cases hs; exact hw.kept 6 (by kernel_rfl))
              · intro listed a' w' hw hd K hK
                have hv66 : a'.tmps.getD 66 undef = Value.pointer (some ⟨qq, 0, none⟩) := (hw.at_ 0 66 rfl (hd ⟨0, .data⟩ (by simp) rfl))
                refine step_free rfl ?_
                unfold Oper.wp
                simp only [execOp]
                go_simp
                exact hK _ _ (Below.refl _ _) (fun s hs => by cases hs; rfl)
              · intro listed a' w' hw hd K hK
                have hv67 : a'.tmps.getD 67 undef = Value.pointer (some ⟨qq, 0, none⟩) := (hw.at_ 1 67 rfl (hd ⟨1, .data⟩ (by simp) rfl))
                refine step_free rfl ?_
                unfold Oper.wp
                simp only [execOp]
                go_simp
                exact hK _ _ (Below.refl _ _) (fun s hs => by cases hs; rfl)
              · intro listed a' w' hw hd K hK
                have hv68 : a'.tmps.getD 68 undef = Value.pointer (some ⟨qq, 1, none⟩) := (hw.at_ 2 68 rfl (hd ⟨2, .data⟩ (by simp) rfl))
                have q1 := fcell_below r1 hw.below
                refine step_free rfl ?_
                unfold Oper.wp
                simp only [execOp]
                go_simp
                exact hK _ _ (Below.refl _ _) (fun s hs => by cases hs; rfl)
              · intro listed a' w' hw hd K hK
                refine step_free rfl ?_
                apply wp_move
                exact hK _ _ (Below.refl _ _) (fun s hs => by cases hs; exact (hw.at_ 3 69 rfl (hd ⟨3, .data⟩ (by simp) rfl)))
              · intro listed a' w' hw hd K hK
                have hgd : a'.tmps.getD 70 undef = .bool false := (hw.at_ 4 70 rfl (hd ⟨4, .guard⟩ (by simp) rfl))
                have hv7 := hw.kept 7 (by kernel_rfl)
                obtain ⟨k0, k1, k2, k3, k4, k5, k6, k7, k8, k9⟩ := (FR.out.below hw.below).box
                refine step_guarded (j := 4) (b := false) (s := 70) rfl rfl (by rw [hw.size]; exact Nat.lt_of_lt_of_eq (show 70 < 85 by omega) rfl) hgd ?_
                unfold Oper.wp
                simp only [execOp]
                go_simp
                exact hK _ _ (Below.refl _ _) (fun s hs => by cases hs; rfl)
              · intro listed a' w' hw hd K hK
                have hgd : a'.tmps.getD 70 undef = .bool false := (hw.at_ 4 70 rfl (hd ⟨4, .guard⟩ (by simp) rfl))
                have hv71 : a'.tmps.getD 71 undef = .agg #[.int .i64 c0, .int .i64 c1, .int .i64 c2, .int .u64 (n0 : Int), .int .u64 (n1 : Int), .int .u64 (n2 : Int), .int .u64 (n3 : Int), .int .u64 (n4 : Int), .int .u64 (n5 : Int), .slice A9 L9 c9] := (hw.at_ 5 71 rfl (hd ⟨5, .data⟩ (by simp) rfl))
                refine step_guarded (j := 4) (b := false) (s := 70) rfl rfl (by rw [hw.size]; exact Nat.lt_of_lt_of_eq (show 70 < 85 by omega) rfl) hgd ?_
                unfold Oper.wp
                simp only [execOp]
                go_simp
                refine (HM.out w').mono ?_
                rintro e w2 ⟨rfl, hb2⟩
                exact hK _ _ hb2.out (fun s hs => by cases hs; rfl)
              · intro listed a' w' hw hd K hK
                have hgd : a'.tmps.getD 70 undef = .bool false := (hw.at_ 4 70 rfl (hd ⟨4, .guard⟩ (by simp) rfl))
                have hv72 : a'.tmps.getD 72 undef = .bool false := (hw.at_ 6 72 rfl (hd ⟨6, .data⟩ (by simp) rfl))
                refine step_guarded (j := 4) (b := false) (s := 70) rfl rfl (by rw [hw.size]; exact Nat.lt_of_lt_of_eq (show 70 < 85 by omega) rfl) hgd ?_
                unfold Oper.wp
                simp only [execOp]
                go_simp
                exact hK _ _ (Below.refl _ _) (fun s hs => by cases hs; rfl)
              · intro listed a' w' hw hd K hK
                have hv70 : a'.tmps.getD 70 undef = .bool false := (hw.at_ 4 70 rfl (hd ⟨4, .data⟩ (by simp) rfl))
                have hv73 : a'.tmps.getD 73 undef = .bool true := (hw.at_ 7 73 rfl (hd ⟨7, .data⟩ (by simp) rfl))
                refine step_free rfl ?_
                unfold Oper.wp
                simp only [execOp]
                go_simp
                exact hK _ _ (Below.refl _ _) (fun s hs => by cases hs; rfl)
              · intro listed a' w' hw hd K hK
                refine step_free rfl ?_
                apply wp_move
                exact hK _ _ (Below.refl _ _) (fun s hs => by cases hs; exact (hw.at_ 8 74 rfl (hd ⟨8, .data⟩ (by simp) rfl)))
              · intro listed a' w' hw hd K hK
                have hgd : a'.tmps.getD 75 undef = .bool true := (hw.at_ 9 75 rfl (hd ⟨9, .guard⟩ (by simp) rfl))
                refine step_unwanted (j := 9) (b := false) (s := 75) rfl rfl (by rw [hgd]; exact fun h => by cases h) ?_
                exact hK _ _ (Below.refl _ _) (fun s hs => by cases hs; rfl)
              · intro listed a' w' hw hd K hK
                have hgd : a'.tmps.getD 75 undef = .bool true := (hw.at_ 9 75 rfl (hd ⟨9, .guard⟩ (by simp) rfl))
                refine step_unwanted (j := 9) (b := false) (s := 75) rfl rfl (by rw [hgd]; exact fun h => by cases h) ?_
                exact hK _ _ (Below.refl _ _) (fun s hs => by cases hs; rfl)
              · intro listed a' w' hw hd K hK
                have hgd : a'.tmps.getD 75 undef = .bool true := (hw.at_ 9 75 rfl (hd ⟨9, .guard⟩ (by simp) rfl))
                refine step_unwanted (j := 9) (b := false) (s := 75) rfl rfl (by rw [hgd]; exact fun h => by cases h) ?_
                exact hK _ _ (Below.refl _ _) (fun s hs => by cases hs; rfl)
              · intro listed a' w' hw hd K hK
                have hgd : a'.tmps.getD 75 undef = .bool true := (hw.at_ 9 75 rfl (hd ⟨9, .guard⟩ (by simp) rfl))
                refine step_unwanted (j := 9) (b := false) (s := 75) rfl rfl (by rw [hgd]; exact fun h => by cases h) ?_
                exact hK _ _ (Below.refl _ _) (fun s hs => by cases hs; rfl)
              · intro listed a' w' hw hd K hK
                have hgd : a'.tmps.getD 75 undef = .bool true := (hw.at_ 9 75 rfl (hd ⟨9, .guard⟩ (by simp) rfl))
                refine step_unwanted (j := 9) (b := false) (s := 75) rfl rfl (by rw [hgd]; exact fun h => by cases h) ?_
                exact hK _ _ (Below.refl _ _) (fun s hs => by cases hs; rfl)
              · intro listed a' w' hw hd K hK
                have hgd : a'.tmps.getD 75 undef = .bool true := (hw.at_ 9 75 rfl (hd ⟨9, .guard⟩ (by simp) rfl))
                refine step_unwanted (j := 9) (b := false) (s := 75) rfl rfl (by rw [hgd]; exact fun h => by cases h) ?_
                exact hK _ _ (Below.refl _ _) (fun s hs => by cases hs; rfl)
              · intro listed a' w' hw hd K hK
                have hv75 : a'.tmps.getD 75 undef = .bool true := (hw.at_ 9 75 rfl (hd ⟨9, .data⟩ (by simp) rfl))
                have hv81 : a'.tmps.getD 81 undef = undef := (hw.at_ 15 81 rfl (hd ⟨15, .data⟩ (by simp) rfl))
                refine step_free rfl ?_
                unfold Oper.wp
                simp only [execOp]
                go_simp
                exact hK _ _ (Below.refl _ _) (fun s hs => by cases hs; rfl)
            · intro listed a' w' hw hall
              have hk82 : a'.tmps.getD 82 undef = .bool true := hw.at_ 16 82 rfl (hall 16 (Nat.lt_of_lt_of_eq (show 16 < 17 by omega) rfl))
              have ZX := Lib.hid (ZR.out.below hw.below)
              have BBX := Lib.hid (fbtr BB.out hw.below)
              have hp := hw.puts [66, 67, 68, 69, 70, 71, 72, 73, 74, 75, 76, 77, 78, 79, 80, 81, 82] (by kernel_rfl)
              clear hw hall
              rw [hp]
              simp only [List.foldl_cons, List.foldl_nil, hk82]
              generalize a'.tmps.getD 66 undef = u66
              generalize a'.tmps.getD 67 undef = u67
              generalize a'.tmps.getD 68 undef = u68
              generalize a'.tmps.getD 69 undef = u69
              generalize a'.tmps.getD 70 undef = u70
              generalize a'.tmps.getD 71 undef = u71
              generalize a'.tmps.getD 72 undef = u72
              generalize a'.tmps.getD 73 undef = u73
              generalize a'.tmps.getD 74 undef = u74
              generalize a'.tmps.getD 75 undef = u75
              generalize a'.tmps.getD 76 undef = u76
              generalize a'.tmps.getD 77 undef = u77
              generalize a'.tmps.getD 78 undef = u78
              generalize a'.tmps.getD 79 undef = u79
              generalize a'.tmps.getD 80 undef = u80
              generalize a'.tmps.getD 81 undef = u81
              clear hp hk82
              simp only [Act.put, List.setIfInBounds_toArray, List.set_cons_succ, List.set_cons_zero]
              generalize hw6 : w' = VX at *
              clear hw6
              have g0 := ZX.out.thaw 0
              have g1 := ZX.out.thaw 1
              have g2 := ZX.out.thaw 2
              have g3 := ZX.out.thaw 3
              have g4 := ZX.out.thaw 4
              have g5 := ZX.out.thaw 5
              have g6 := ZX.out.thaw 6
              have g7 := ZX.out.thaw 7
              have g8 := ZX.out.thaw 8
              have g9 := ZX.out.thaw 9
              obtain ⟨y0, y1, y2, y3, y4, y5, y6, y7, y8, y9⟩ := ZX.out.box
              have R1 := Lib.hid (ZX.out.set 0 0 0 0 0 0 0 0 0 none 0 0)
              have R2 := Lib.hid ((only_ten VX w.heap.size (.int .i64 0) (.int .i64 0) (.int .i64 0) (.int .u64 0) (.int .u64 0) (.int .u64 0) (.int .u64 0) (.int .u64 0) (.int .u64 0) (.slice none 0 0)).below BBX.out (fun j hj => by omega) BBX.out.size)
              clear ZX BBX
              go_wp2
              refine bodyPost_ret (results_row_tmp rfl _ _ w.heap.size 25 #[.int .i64 0, .int .i64 0, .int .i64 0, .int .u64 0, .int .u64 0, .int .u64 0, .int .u64 0, .int .u64 0, .int .u64 0, .slice none 0 0] (0, 0) _ rfl R1.out Tryd.underlying25 rfl (by kernel_rfl)) rfl ?_
              exact readE_none HR.out R2
      · have HTX := Lib.hid (show restF (ins.drop 3) = ([n0, n1, n2, n3, n4, n5], ([], s6)) from by
          unfold restF
          rw [HE0.out, HUS.out]
          simp only
          rw [if_neg h0])
        go_wp2_with fail
        clear h0
        generalize V6.setCell ⟨fb, 8, none⟩ (.int .u64 (n5 : Int)) = V at *
        have WB : Hid (Wbl V (w.heap.size + 1) none 0 []) := Lib.hid Wbl.nil_
        clear r0 r1
        have RDL := RD.out.lt
        obtain ⟨A7, c7, r0, r1, -, -, -, -, -⟩ := RD.out.flat
        have HRAW := Lib.hid (show rawF ins = ⟨c0, c1, c2, n0, n1, n2, n3, n4, n5, []⟩ from by
          unfold rawF
          rw [HTX.out, ← HC0.out, ← HC1.out, ← HC2.out]
          rfl)
        have HBD := Lib.hid (show (restF (ins.drop 3)).2.2.bad = s6.bad from by rw [HTX.out])
        clear fz z0 z1 z2 z3 z4 z5 z6 z7 z8 z9 RD HTX HC0 HC1 HC2
        have FR : Hid (FRow fb c0 c1 c2 (n0 : Int) (n1 : Int) (n2 : Int) (n3 : Int) (n4 : Int) (n5 : Int) none 0 0 25 V.drew) := FR
        have ZR : Hid (FRow w.heap.size 0 0 0 0 0 0 0 0 0 none 0 0 25 V.drew) := ZR
        have BB : Hid (Below w.heap.size w V.drew) := Lib.hid ⟨BB.out.os, BB.out.tape, BB.out.output, BB.out.size, BB.out.block⟩
        have WB : Hid (Wbl V.drew (w.heap.size + 1) none 0 []) := WB
        have r1 : V.drew.cell? ⟨qq, 1, none⟩ = some (.bool s6.bad) := r1
        clear r0
        by_cases hbad : s6.bad = true
        · rw [hbad] at r1
          have HR := Lib.hid (show readF l = none by
            unfold readF
            rw [if_neg (by rw [HOP.out, HBD.out, hbad]; simp)])
          clear hbad HBD HRAW
          refine region_steps (n := 85) (RdGN1 qq) (by kernel_rfl) (by kernel_rfl) rfl (fun _ _ _ _ hb h => RdGN1.mono hb h) ?_ ?_
          · refine And.intro ?_ (And.intro ?_ (And.intro ?_ (And.intro ?_ (And.intro ?_ (And.intro ?_ (And.intro ?_ (And.intro ?_ (And.intro ?_ (And.intro ?_ (And.intro ?_ (And.intro ?_ (And.intro ?_ (And.intro ?_ (And.intro ?_ (And.intro ?_ (And.intro ?_ (True.intro)))))))))))))))))
            · intro listed a' w' hw hd K hK
              refine step_free rfl ?_
              apply wp_move
              exact hK _ _ (Below.refl _ _) (fun s hs => by cases hs; exact hw.kept 6 (by kernel_rfl))
            · intro listed a' w' hw hd K hK
              have hv66 : a'.tmps.getD 66 undef = Value.pointer (some ⟨qq, 0, none⟩) := (hw.at_ 0 66 rfl (hd ⟨0, .data⟩ (by simp) rfl))
              refine step_free rfl ?_
              unfold Oper.wp
              simp only [execOp]
              go_simp
              exact hK _ _ (Below.refl _ _) (fun s hs => by cases hs; rfl)
            · intro listed a' w' hw hd K hK
              have hv67 : a'.tmps.getD 67 undef = Value.pointer (some ⟨qq, 0, none⟩) := (hw.at_ 1 67 rfl (hd ⟨1, .data⟩ (by simp) rfl))
              refine step_free rfl ?_
              unfold Oper.wp
              simp only [execOp]
              go_simp
              exact hK _ _ (Below.refl _ _) (fun s hs => by cases hs; rfl)
            · intro listed a' w' hw hd K hK
              have hv68 : a'.tmps.getD 68 undef = Value.pointer (some ⟨qq, 1, none⟩) := (hw.at_ 2 68 rfl (hd ⟨2, .data⟩ (by simp) rfl))
              have q1 := fcell_below r1 hw.below
              refine step_free rfl ?_
              unfold Oper.wp
              simp only [execOp]
              go_simp
              exact hK _ _ (Below.refl _ _) (fun s hs => by cases hs; rfl)
            · intro listed a' w' hw hd K hK
              refine step_free rfl ?_
              apply wp_move
              exact hK _ _ (Below.refl _ _) (fun s hs => by cases hs; exact (hw.at_ 3 69 rfl (hd ⟨3, .data⟩ (by simp) rfl)))
            · intro listed a' w' hw hd K hK
              have hgd : a'.tmps.getD 70 undef = .bool true := (hw.at_ 4 70 rfl (hd ⟨4, .guard⟩ (by simp) rfl))
              refine step_unwanted (j := 4) (b := false) (s := 70) rfl rfl (by rw [hgd]; exact fun h => by cases h) ?_
              exact hK _ _ (Below.refl _ _) (fun s hs => by cases hs; rfl)
            · intro listed a' w' hw hd K hK
              have hgd : a'.tmps.getD 70 undef = .bool true := (hw.at_ 4 70 rfl (hd ⟨4, .guard⟩ (by simp) rfl))
              refine step_unwanted (j := 4) (b := false) (s := 70) rfl rfl (by rw [hgd]; exact fun h => by cases h) ?_
              exact hK _ _ (Below.refl _ _) (fun s hs => by cases hs; rfl)
            · intro listed a' w' hw hd K hK
              have hgd : a'.tmps.getD 70 undef = .bool true := (hw.at_ 4 70 rfl (hd ⟨4, .guard⟩ (by simp) rfl))
              refine step_unwanted (j := 4) (b := false) (s := 70) rfl rfl (by rw [hgd]; exact fun h => by cases h) ?_
              exact hK _ _ (Below.refl _ _) (fun s hs => by cases hs; rfl)
            · intro listed a' w' hw hd K hK
              have hv70 : a'.tmps.getD 70 undef = .bool true := (hw.at_ 4 70 rfl (hd ⟨4, .data⟩ (by simp) rfl))
              have hv73 : a'.tmps.getD 73 undef = undef := (hw.at_ 7 73 rfl (hd ⟨7, .data⟩ (by simp) rfl))
              refine step_free rfl ?_
              unfold Oper.wp
              simp only [execOp]
              go_simp
              exact hK _ _ (Below.refl _ _) (fun s hs => by cases hs; rfl)
            · intro listed a' w' hw hd K hK
              refine step_free rfl ?_
              apply wp_move
              exact hK _ _ (Below.refl _ _) (fun s hs => by cases hs; exact (hw.at_ 8 74 rfl (hd ⟨8, .data⟩ (by simp) rfl)))
            · intro listed a' w' hw hd K hK
              have hgd : a'.tmps.getD 75 undef = .bool true := (hw.at_ 9 75 rfl (hd ⟨9, .guard⟩ (by simp) rfl))
              refine step_unwanted (j := 9) (b := false) (s := 75) rfl rfl (by rw [hgd]; exact fun h => by cases h) ?_
              exact hK _ _ (Below.refl _ _) (fun s hs => by cases hs; rfl)
            · intro listed a' w' hw hd K hK
              have hgd : a'.tmps.getD 75 undef = .bool true := (hw.at_ 9 75 rfl (hd ⟨9, .guard⟩ (by simp) rfl))
              refine step_unwanted (j := 9) (b := false) (s := 75) rfl rfl (by rw [hgd]; exact fun h => by cases h) ?_
              exact hK _ _ (Below.refl _ _) (fun s hs => by cases hs; rfl)
            · intro listed a' w' hw hd K hK
              have hgd : a'.tmps.getD 75 undef = .bool true := (hw.at_ 9 75 rfl (hd ⟨9, .guard⟩ (by simp) rfl))
              refine step_unwanted (j := 9) (b := false) (s := 75) rfl rfl (by rw [hgd]; exact fun h => by cases h) ?_
              exact hK _ _ (Below.refl _ _) (fun s hs => by cases hs; rfl)
            · intro listed a' w' hw hd K hK
              have hgd : a'.tmps.getD 75 undef = .bool true := (hw.at_ 9 75 rfl (hd ⟨9, .guard⟩ (by simp) rfl))
              refine step_unwanted (j := 9) (b := false) (s := 75) rfl rfl (by rw [hgd]; exact fun h => by cases h) ?_
              exact hK _ _ (Below.refl _ _) (fun s hs => by cases hs; rfl)
            · intro listed a' w' hw hd K hK
              have hgd : a'.tmps.getD 75 undef = .bool true := (hw.at_ 9 75 rfl (hd ⟨9, .guard⟩ (by simp) rfl))
              refine step_unwanted (j := 9) (b := false) (s := 75) rfl rfl (by rw [hgd]; exact fun h => by cases h) ?_
              exact hK _ _ (Below.refl _ _) (fun s hs => by cases hs; rfl)
            · intro listed a' w' hw hd K hK
              have hgd : a'.tmps.getD 75 undef = .bool true := (hw.at_ 9 75 rfl (hd ⟨9, .guard⟩ (by simp) rfl))
              refine step_unwanted (j := 9) (b := false) (s := 75) rfl rfl (by rw [hgd]; exact fun h => by cases h) ?_
              exact hK _ _ (Below.refl _ _) (fun s hs => by cases hs; rfl)
            · intro listed a' w' hw hd K hK
              have hv75 : a'.tmps.getD 75 undef = .bool true := (hw.at_ 9 75 rfl (hd ⟨9, .data⟩ (by simp) rfl))
              have hv81 : a'.tmps.getD 81 undef = undef := (hw.at_ 15 81 rfl (hd ⟨15, .data⟩ (by simp) rfl))
              refine step_free rfl ?_
              unfold Oper.wp
              simp only [execOp]
              go_simp
              exact hK _ _ (Below.refl _ _) (fun s hs => by cases hs; rfl)
          · intro listed a' w' hw hall
            have hk82 : a'.tmps.getD 82 undef = .bool true := hw.at_ 16 82 rfl (hall 16 (Nat.lt_of_lt_of_eq (show 16 < 17 by omega) rfl))
            have ZX := Lib.hid (ZR.out.below hw.below)
            have BBX := Lib.hid (fbtr BB.out hw.below)
            have hp := hw.puts [66, 67, 68, 69, 70, 71, 72, 73, 74, 75, 76, 77, 78, 79, 80, 81, 82] (by kernel_rfl)
            clear hw hall
            rw [hp]
            simp only [List.foldl_cons, List.foldl_nil, hk82]
            generalize a'.tmps.getD 66 undef = u66
            generalize a'.tmps.getD 67 undef = u67
            generalize a'.tmps.getD 68 undef = u68
            generalize a'.tmps.getD 69 undef = u69
            generalize a'.tmps.getD 70 undef = u70
            generalize a'.tmps.getD 71 undef = u71
            generalize a'.tmps.getD 72 undef = u72
            generalize a'.tmps.getD 73 undef = u73
            generalize a'.tmps.getD 74 undef = u74
            generalize a'.tmps.getD 75 undef = u75
            generalize a'.tmps.getD 76 undef = u76
            generalize a'.tmps.getD 77 undef = u77
            generalize a'.tmps.getD 78 undef = u78
            generalize a'.tmps.getD 79 undef = u79
            generalize a'.tmps.getD 80 undef = u80
            generalize a'.tmps.getD 81 undef = u81
            clear hp hk82
            simp only [Act.put, List.setIfInBounds_toArray, List.set_cons_succ, List.set_cons_zero]
            generalize hw6 : w' = VX at *
            clear hw6
            have g0 := ZX.out.thaw 0
            have g1 := ZX.out.thaw 1
            have g2 := ZX.out.thaw 2
            have g3 := ZX.out.thaw 3
            have g4 := ZX.out.thaw 4
            have g5 := ZX.out.thaw 5
            have g6 := ZX.out.thaw 6
            have g7 := ZX.out.thaw 7
            have g8 := ZX.out.thaw 8
            have g9 := ZX.out.thaw 9
            obtain ⟨y0, y1, y2, y3, y4, y5, y6, y7, y8, y9⟩ := ZX.out.box
            have R1 := Lib.hid (ZX.out.set 0 0 0 0 0 0 0 0 0 none 0 0)
            have R2 := Lib.hid ((only_ten VX w.heap.size (.int .i64 0) (.int .i64 0) (.int .i64 0) (.int .u64 0) (.int .u64 0) (.int .u64 0) (.int .u64 0) (.int .u64 0) (.int .u64 0) (.slice none 0 0)).below BBX.out (fun j hj => by omega) BBX.out.size)
            clear ZX BBX
            go_wp2
            refine bodyPost_ret (results_row_tmp rfl _ _ w.heap.size 25 #[.int .i64 0, .int .i64 0, .int .i64 0, .int .u64 0, .int .u64 0, .int .u64 0, .int .u64 0, .int .u64 0, .int .u64 0, .slice none 0 0] (0, 0) _ rfl R1.out Tryd.underlying25 rfl (by kernel_rfl)) rfl ?_
            exact readE_none HR.out R2
        · have hbf : s6.bad = false := by simpa using hbad
          rw [hbf] at r1
          have HM := Lib.hid (fun W => show Calls Tryd.prog 11 #[.agg #[.int .i64 c0, .int .i64 c1, .int .i64 c2, .int .u64 (n0 : Int), .int .u64 (n1 : Int), .int .u64 (n2 : Int), .int .u64 (n3 : Int), .int .u64 (n4 : Int), .int .u64 (n5 : Int), .slice none 0 0]] W (fun en w' => en = .returned (.bool (decide (mayF ⟨c0, c1, c2, n0, n1, n2, n3, n4, n5, []⟩))) ∧ Hid (Below W.heap.size W w')) from rfmay_any ⟨c0, c1, c2, n0, n1, n2, n3, n4, n5, []⟩ none 0 0 rfl W)
          by_cases hmay : mayF ⟨c0, c1, c2, n0, n1, n2, n3, n4, n5, []⟩
          · rw [decide_eq_true hmay] at HM
            have HBR := Lib.hid (fun W (h : Bytes W V.drew.heap.size none []) (hB : V.drew.heap.size ≤ W.heap.size) => show Calls Tryd.prog 15 #[.agg #[.int .i64 c0, .int .i64 c1, .int .i64 c2, .int .u64 (n0 : Int), .int .u64 (n1 : Int), .int .u64 (n2 : Int), .int .u64 (n3 : Int), .int .u64 (n4 : Int), .int .u64 (n5 : Int), .slice none 0 0]] W (BytesE W (frameL ⟨c0, c1, c2, n0, n1, n2, n3, n4, n5, []⟩)) from rfbytes_any ⟨c0, c1, c2, n0, n1, n2, n3, n4, n5, []⟩ hmay none 0 0 V.drew.heap.size W rfl h hB)
            unfold BytesE at HBR
            have HRS := Lib.hid (fun e : frameL ⟨c0, c1, c2, n0, n1, n2, n3, n4, n5, []⟩ = l => show readF l = some ⟨c0, c1, c2, n0, n1, n2, n3, n4, n5, []⟩ from by
              unfold readF
              rw [HOP.out, HRAW.out]
              exact if_pos ⟨HSL.out, by rw [HIL.out]; omega, by rw [HBD.out, hbf], hmay, e⟩)
            have HRN := Lib.hid (fun e : frameL ⟨c0, c1, c2, n0, n1, n2, n3, n4, n5, []⟩ ≠ l => show readF l = none from by
              unfold readF
              rw [HOP.out, HRAW.out]
              exact if_neg (fun h => e h.2.2.2.2))
            have HE := Lib.hid (same_str (frameL ⟨c0, c1, c2, n0, n1, n2, n3, n4, n5, []⟩) l)
            clear hbad hbf hmay HBD HRAW
            generalize frameL ⟨c0, c1, c2, n0, n1, n2, n3, n4, n5, []⟩ = L at *
            generalize hm9 : L.length = m9 at *
            have HML := Lib.hid hm9
            clear hm9
            obtain ⟨sa, hsa⟩ : ∃ sa : ByteArray, (⟨L.toArray⟩ : ByteArray) = sa := ⟨_, rfl⟩
            obtain ⟨sb, hsb⟩ : ∃ sb : ByteArray, (⟨l.toArray⟩ : ByteArray) = sb := ⟨_, rfl⟩
            rw [hsa, hsb] at HE
            have HSA := Lib.hid hsa
            have HSB := Lib.hid hsb
            clear hsa hsb
            have HQ := Lib.hid (show (!(sa.toList == sb.toList)) = !decide (L = l) from by rw [HE.out])
            generalize hds : (!decide (L = l)) = ds at HQ
            have HDS := Lib.hid hds
            clear hds HE
            refine region_steps (n := 85) (RdGN3 c0 c1 c2 n0 n1 n2 n3 n4 n5 qq L m9 A n cap sa sb ds) (by kernel_rfl) (by kernel_rfl) rfl (fun _ _ _ _ hb h => RdGN3.mono hb h) ?_ ?_
            · refine And.intro ?_ (And.intro ?_ (And.intro ?_ (And.intro ?_ (And.intro ?_ (And.intro ?_ (And.intro ?_ (And.intro ?_ (And.intro ?_ (And.intro ?_ (And.intro ?_ (And.intro ?_ (And.intro ?_ (And.intro ?_ (And.intro ?_ (And.intro ?_ (And.intro ?_ (True.intro)))))))))))))))))
              · intro listed a' w' hw hd K hK
                refine step_free rfl ?_
                apply wp_move
                exact hK _ _ (Below.refl _ _) (fun s hs => by cases hs; exact hw.kept 6 (by kernel_rfl))
              · intro listed a' w' hw hd K hK
                have hv66 : a'.tmps.getD 66 undef = Value.pointer (some ⟨qq, 0, none⟩) := (hw.at_ 0 66 rfl (hd ⟨0, .data⟩ (by simp) rfl))
                refine step_free rfl ?_
                unfold Oper.wp
                simp only [execOp]
                go_simp
                exact hK _ _ (Below.refl _ _) (fun s hs => by cases hs; rfl)
              · intro listed a' w' hw hd K hK
                have hv67 : a'.tmps.getD 67 undef = Value.pointer (some ⟨qq, 0, none⟩) := (hw.at_ 1 67 rfl (hd ⟨1, .data⟩ (by simp) rfl))
                refine step_free rfl ?_
                unfold Oper.wp
                simp only [execOp]
                go_simp
                exact hK _ _ (Below.refl _ _) (fun s hs => by cases hs; rfl)
              · intro listed a' w' hw hd K hK
                have hv68 : a'.tmps.getD 68 undef = Value.pointer (some ⟨qq, 1, none⟩) := (hw.at_ 2 68 rfl (hd ⟨2, .data⟩ (by simp) rfl))
                have q1 := fcell_below r1 hw.below
                refine step_free rfl ?_
                unfold Oper.wp
                simp only [execOp]
                go_simp
                exact hK _ _ (Below.refl _ _) (fun s hs => by cases hs; rfl)
              · intro listed a' w' hw hd K hK
                refine step_free rfl ?_
                apply wp_move
                exact hK _ _ (Below.refl _ _) (fun s hs => by cases hs; exact (hw.at_ 3 69 rfl (hd ⟨3, .data⟩ (by simp) rfl)))
              · intro listed a' w' hw hd K hK
                have hgd : a'.tmps.getD 70 undef = .bool false := (hw.at_ 4 70 rfl (hd ⟨4, .guard⟩ (by simp) rfl))
                have hv7 := hw.kept 7 (by kernel_rfl)
                obtain ⟨k0, k1, k2, k3, k4, k5, k6, k7, k8, k9⟩ := (FR.out.below hw.below).box
                refine step_guarded (j := 4) (b := false) (s := 70) rfl rfl (by rw [hw.size]; exact Nat.lt_of_lt_of_eq (show 70 < 85 by omega) rfl) hgd ?_
                unfold Oper.wp
                simp only [execOp]
                go_simp
                exact hK _ _ (Below.refl _ _) (fun s hs => by cases hs; rfl)
              · intro listed a' w' hw hd K hK
                have hgd : a'.tmps.getD 70 undef = .bool false := (hw.at_ 4 70 rfl (hd ⟨4, .guard⟩ (by simp) rfl))
                have hv71 : a'.tmps.getD 71 undef = .agg #[.int .i64 c0, .int .i64 c1, .int .i64 c2, .int .u64 (n0 : Int), .int .u64 (n1 : Int), .int .u64 (n2 : Int), .int .u64 (n3 : Int), .int .u64 (n4 : Int), .int .u64 (n5 : Int), .slice none 0 0] := (hw.at_ 5 71 rfl (hd ⟨5, .data⟩ (by simp) rfl))
                refine step_guarded (j := 4) (b := false) (s := 70) rfl rfl (by rw [hw.size]; exact Nat.lt_of_lt_of_eq (show 70 < 85 by omega) rfl) hgd ?_
                unfold Oper.wp
                simp only [execOp]
                go_simp
                refine (HM.out w').mono ?_
                rintro e w2 ⟨rfl, hb2⟩
                exact hK _ _ hb2.out (fun s hs => by cases hs; rfl)
              · intro listed a' w' hw hd K hK
                have hgd : a'.tmps.getD 70 undef = .bool false := (hw.at_ 4 70 rfl (hd ⟨4, .guard⟩ (by simp) rfl))
                have hv72 : a'.tmps.getD 72 undef = .bool true := (hw.at_ 6 72 rfl (hd ⟨6, .data⟩ (by simp) rfl))
                refine step_guarded (j := 4) (b := false) (s := 70) rfl rfl (by rw [hw.size]; exact Nat.lt_of_lt_of_eq (show 70 < 85 by omega) rfl) hgd ?_
                unfold Oper.wp
                simp only [execOp]
                go_simp
                exact hK _ _ (Below.refl _ _) (fun s hs => by cases hs; rfl)
              · intro listed a' w' hw hd K hK
                have hv70 : a'.tmps.getD 70 undef = .bool false := (hw.at_ 4 70 rfl (hd ⟨4, .data⟩ (by simp) rfl))
                have hv73 : a'.tmps.getD 73 undef = .bool false := (hw.at_ 7 73 rfl (hd ⟨7, .data⟩ (by simp) rfl))
                refine step_free rfl ?_
                unfold Oper.wp
                simp only [execOp]
                go_simp
                exact hK _ _ (Below.refl _ _) (fun s hs => by cases hs; rfl)
              · intro listed a' w' hw hd K hK
                refine step_free rfl ?_
                apply wp_move
                exact hK _ _ (Below.refl _ _) (fun s hs => by cases hs; exact (hw.at_ 8 74 rfl (hd ⟨8, .data⟩ (by simp) rfl)))
              · intro listed a' w' hw hd K hK
                have hgd : a'.tmps.getD 75 undef = .bool false := (hw.at_ 9 75 rfl (hd ⟨9, .guard⟩ (by simp) rfl))
                have hv7 := hw.kept 7 (by kernel_rfl)
                obtain ⟨k0, k1, k2, k3, k4, k5, k6, k7, k8, k9⟩ := (FR.out.below hw.below).box
                refine step_guarded (j := 9) (b := false) (s := 75) rfl rfl (by rw [hw.size]; exact Nat.lt_of_lt_of_eq (show 75 < 85 by omega) rfl) hgd ?_
                unfold Oper.wp
                simp only [execOp]
                go_simp
                exact hK _ _ (Below.refl _ _) (fun s hs => by cases hs; rfl)
              · intro listed a' w' hw hd K hK
                have hgd : a'.tmps.getD 75 undef = .bool false := (hw.at_ 9 75 rfl (hd ⟨9, .guard⟩ (by simp) rfl))
                have hv76 : a'.tmps.getD 76 undef = .agg #[.int .i64 c0, .int .i64 c1, .int .i64 c2, .int .u64 (n0 : Int), .int .u64 (n1 : Int), .int .u64 (n2 : Int), .int .u64 (n3 : Int), .int .u64 (n4 : Int), .int .u64 (n5 : Int), .slice none 0 0] := (hw.at_ 10 76 rfl (hd ⟨10, .data⟩ (by simp) rfl))
                refine step_guarded (j := 9) (b := false) (s := 75) rfl rfl (by rw [hw.size]; exact Nat.lt_of_lt_of_eq (show 75 < 85 by omega) rfl) hgd ?_
                unfold Oper.wp
                simp only [execOp]
                go_simp
                refine (HBR.out w' (WB.out.bytes.below hw.below) hw.below.size).mono ?_
                rintro en w2 ⟨A8, c8, rfl, ho8, hb2⟩
                exact hK _ _ hb2.out (fun s hs => by cases hs; exact ⟨A8, c8, rfl, ho8.out.lower (Nat.zero_le _)⟩)
              · intro listed a' w' hw hd K hK
                have hgd : a'.tmps.getD 75 undef = .bool false := (hw.at_ 9 75 rfl (hd ⟨9, .guard⟩ (by simp) rfl))
                have hv77 : BytR L m9 w' (a'.tmps.getD 77 undef) := (hw.at_ 11 77 rfl (hd ⟨11, .data⟩ (by simp) rfl))
                obtain ⟨A8, c8, e8, ho8⟩ := hv77
                have cs := conv_str c8 ho8.bytes HML.out
                rw [HSA.out] at cs
                refine step_guarded (j := 9) (b := false) (s := 75) rfl rfl (by rw [hw.size]; exact Nat.lt_of_lt_of_eq (show 75 < 85 by omega) rfl) hgd ?_
                unfold Oper.wp
                simp only [execOp]
                go_simp
                exact hK _ _ (Below.refl _ _) (fun s hs => by cases hs; rfl)
              · intro listed a' w' hw hd K hK
                have hgd : a'.tmps.getD 75 undef = .bool false := (hw.at_ 9 75 rfl (hd ⟨9, .guard⟩ (by simp) rfl))
                refine step_guarded (j := 9) (b := false) (s := 75) rfl rfl (by rw [hw.size]; exact Nat.lt_of_lt_of_eq (show 75 < 85 by omega) rfl) hgd ?_
                apply wp_move
                exact hK _ _ (Below.refl _ _) (fun s hs => by cases hs; exact hw.kept 0 (by kernel_rfl))
              · intro listed a' w' hw hd K hK
                have hgd : a'.tmps.getD 75 undef = .bool false := (hw.at_ 9 75 rfl (hd ⟨9, .guard⟩ (by simp) rfl))
                have hv79 : a'.tmps.getD 79 undef = Value.slice A n cap := (hw.at_ 13 79 rfl (hd ⟨13, .data⟩ (by simp) rfl))
                have cs := conv_str cap (HB.out.below (fbtr BB.out hw.below)) HN.out
                rw [HSB.out] at cs
                refine step_guarded (j := 9) (b := false) (s := 75) rfl rfl (by rw [hw.size]; exact Nat.lt_of_lt_of_eq (show 75 < 85 by omega) rfl) hgd ?_
                unfold Oper.wp
                simp only [execOp]
                go_simp
                exact hK _ _ (Below.refl _ _) (fun s hs => by cases hs; rfl)
              · intro listed a' w' hw hd K hK
                have hgd : a'.tmps.getD 75 undef = .bool false := (hw.at_ 9 75 rfl (hd ⟨9, .guard⟩ (by simp) rfl))
                have hv78 : a'.tmps.getD 78 undef = Value.string sa := (hw.at_ 12 78 rfl (hd ⟨12, .data⟩ (by simp) rfl))
                have hv80 : a'.tmps.getD 80 undef = Value.string sb := (hw.at_ 14 80 rfl (hd ⟨14, .data⟩ (by simp) rfl))
                have hq := HQ.out
                refine step_guarded (j := 9) (b := false) (s := 75) rfl rfl (by rw [hw.size]; exact Nat.lt_of_lt_of_eq (show 75 < 85 by omega) rfl) hgd ?_
                unfold Oper.wp
                simp only [execOp]
                go_simp
                exact hK _ _ (Below.refl _ _) (fun s hs => by cases hs; rfl)
              · intro listed a' w' hw hd K hK
                have hv75 : a'.tmps.getD 75 undef = .bool false := (hw.at_ 9 75 rfl (hd ⟨9, .data⟩ (by simp) rfl))
                have hv81 : a'.tmps.getD 81 undef = .bool ds := (hw.at_ 15 81 rfl (hd ⟨15, .data⟩ (by simp) rfl))
                refine step_free rfl ?_
                unfold Oper.wp
                simp only [execOp]
                go_simp
                exact hK _ _ (Below.refl _ _) (fun s hs => by cases hs; rfl)
            · intro listed a' w' hw hall
              have hk82 : a'.tmps.getD 82 undef = .bool ds := hw.at_ 16 82 rfl (hall 16 (Nat.lt_of_lt_of_eq (show 16 < 17 by omega) rfl))
              have ZX := Lib.hid (ZR.out.below hw.below)
              have BBX := Lib.hid (fbtr BB.out hw.below)
              have FX := Lib.hid (FR.out.below hw.below)
              have WX := Lib.hid (WB.out.keep (only_none5 hw.below) (fun _ _ h => h))
              have hp := hw.puts [66, 67, 68, 69, 70, 71, 72, 73, 74, 75, 76, 77, 78, 79, 80, 81, 82] (by kernel_rfl)
              clear hw hall
              rw [hp]
              simp only [List.foldl_cons, List.foldl_nil, hk82]
              generalize a'.tmps.getD 66 undef = u66
              generalize a'.tmps.getD 67 undef = u67
              generalize a'.tmps.getD 68 undef = u68
              generalize a'.tmps.getD 69 undef = u69
              generalize a'.tmps.getD 70 undef = u70
              generalize a'.tmps.getD 71 undef = u71
              generalize a'.tmps.getD 72 undef = u72
              generalize a'.tmps.getD 73 undef = u73
              generalize a'.tmps.getD 74 undef = u74
              generalize a'.tmps.getD 75 undef = u75
              generalize a'.tmps.getD 76 undef = u76
              generalize a'.tmps.getD 77 undef = u77
              generalize a'.tmps.getD 78 undef = u78
              generalize a'.tmps.getD 79 undef = u79
              generalize a'.tmps.getD 80 undef = u80
              generalize a'.tmps.getD 81 undef = u81
              clear hp hk82
              simp only [Act.put, List.setIfInBounds_toArray, List.set_cons_succ, List.set_cons_zero]
              generalize hw6 : w' = VX at *
              clear hw6
              by_cases hLl : L = l
              · have HR := Lib.hid (HRS.out hLl)
                obtain rfl : ds = false := by rw [← HDS.out]; simp [hLl]
                clear HRS HRN HDS HBR hLl
                obtain ⟨k0, k1, k2, k3, k4, k5, k6, k7, k8, k9⟩ := FX.out.box
                obtain ⟨y0, y1, y2, y3, y4, y5, y6, y7, y8, y9⟩ := ZX.out.box
                have g0 := ZX.out.thaw 0
                have g1 := ZX.out.thaw 1
                have g2 := ZX.out.thaw 2
                have g3 := ZX.out.thaw 3
                have g4 := ZX.out.thaw 4
                have g5 := ZX.out.thaw 5
                have g6 := ZX.out.thaw 6
                have g7 := ZX.out.thaw 7
                have g8 := ZX.out.thaw 8
                have g9 := ZX.out.thaw 9
                have hT := only_ten VX w.heap.size (.int .i64 c0) (.int .i64 c1) (.int .i64 c2) (.int .u64 (n0 : Int)) (.int .u64 (n1 : Int)) (.int .u64 (n2 : Int)) (.int .u64 (n3 : Int)) (.int .u64 (n4 : Int)) (.int .u64 (n5 : Int)) (.slice none 0 0)
                have R1 := Lib.hid (ZX.out.set c0 c1 c2 (n0 : Int) (n1 : Int) (n2 : Int) (n3 : Int) (n4 : Int) (n5 : Int) none 0 0)
                have R2 := Lib.hid (hT.below BBX.out (fun j hj => by omega) BBX.out.size)
                have R3 := Lib.hid (WX.out.keep hT (fun j hj e => by have := WX.out.lt hj; omega))
                clear hT FX ZX BBX WX
                go_wp2
                refine bodyPost_ret (results_row_tmp rfl _ _ w.heap.size 25 #[.int .i64 c0, .int .i64 c1, .int .i64 c2, .int .u64 (n0 : Int), .int .u64 (n1 : Int), .int .u64 (n2 : Int), .int .u64 (n3 : Int), .int .u64 (n4 : Int), .int .u64 (n5 : Int), .slice none 0 0] (0, 0) _ rfl R1.out Tryd.underlying25 rfl (by kernel_rfl)) rfl ?_
                refine ⟨none, 0, ?_, ?_, ?_, ?_, R2⟩
                · rw [HR.out]
                  rfl
                · rw [HR.out]
                  exact Lib.hid R3.out.bytes
                · exact Lib.hid R3.out.none_cap
                · exact Lib.hid (fun j hj => by have := (R3.out.lt hj).1; omega)
              · have HR := Lib.hid (HRN.out hLl)
                obtain rfl : ds = true := by rw [← HDS.out]; simp [hLl]
                clear HRS HRN HDS HBR hLl FX WX
                have g0 := ZX.out.thaw 0
                have g1 := ZX.out.thaw 1
                have g2 := ZX.out.thaw 2
                have g3 := ZX.out.thaw 3
                have g4 := ZX.out.thaw 4
                have g5 := ZX.out.thaw 5
                have g6 := ZX.out.thaw 6
                have g7 := ZX.out.thaw 7
                have g8 := ZX.out.thaw 8
                have g9 := ZX.out.thaw 9
                obtain ⟨y0, y1, y2, y3, y4, y5, y6, y7, y8, y9⟩ := ZX.out.box
                have R1 := Lib.hid (ZX.out.set 0 0 0 0 0 0 0 0 0 none 0 0)
                have R2 := Lib.hid ((only_ten VX w.heap.size (.int .i64 0) (.int .i64 0) (.int .i64 0) (.int .u64 0) (.int .u64 0) (.int .u64 0) (.int .u64 0) (.int .u64 0) (.int .u64 0) (.slice none 0 0)).below BBX.out (fun j hj => by omega) BBX.out.size)
                clear ZX BBX
                go_wp2
                refine bodyPost_ret (results_row_tmp rfl _ _ w.heap.size 25 #[.int .i64 0, .int .i64 0, .int .i64 0, .int .u64 0, .int .u64 0, .int .u64 0, .int .u64 0, .int .u64 0, .int .u64 0, .slice none 0 0] (0, 0) _ rfl R1.out Tryd.underlying25 rfl (by kernel_rfl)) rfl ?_
                exact readE_none HR.out R2
          · rw [decide_eq_false hmay] at HM
            have HR := Lib.hid (show readF l = none by
              unfold readF
              rw [if_neg (by
                rw [HOP.out, HRAW.out]
                exact fun h => hmay h.2.2.2.1)])
            clear hbad hbf hmay HBD HRAW
            refine region_steps (n := 85) (RdGN2 c0 c1 c2 n0 n1 n2 n3 n4 n5 qq) (by kernel_rfl) (by kernel_rfl) rfl (fun _ _ _ _ hb h => RdGN2.mono hb h) ?_ ?_
            · refine And.intro ?_ (And.intro ?_ (And.intro ?_ (And.intro ?_ (And.intro ?_ (And.intro ?_ (And.intro ?_ (And.intro ?_ (And.intro ?_ (And.intro ?_ (And.intro ?_ (And.intro ?_ (And.intro ?_ (And.intro ?_ (And.intro ?_ (And.intro ?_ (And.intro ?_ (True.intro)))))))))))))))))
              · intro listed a' w' hw hd K hK
                refine step_free rfl ?_
                apply wp_move
                exact hK _ _ (Below.refl _ _) (fun s hs => by cases hs; exact hw.kept 6 (by kernel_rfl))
              · intro listed a' w' hw hd K hK
                have hv66 : a'.tmps.getD 66 undef = Value.pointer (some ⟨qq, 0, none⟩) := (hw.at_ 0 66 rfl (hd ⟨0, .data⟩ (by simp) rfl))
                refine step_free rfl ?_
                unfold Oper.wp
                simp only [execOp]
                go_simp
                exact hK _ _ (Below.refl _ _) (fun s hs => by cases hs; rfl)
              · intro listed a' w' hw hd K hK
                have hv67 : a'.tmps.getD 67 undef = Value.pointer (some ⟨qq, 0, none⟩) := (hw.at_ 1 67 rfl (hd ⟨1, .data⟩ (by simp) rfl))
                refine step_free rfl ?_
                unfold Oper.wp
                simp only [execOp]
                go_simp
                exact hK _ _ (Below.refl _ _) (fun s hs => by cases hs; rfl)
              · intro listed a' w' hw hd K hK
                have hv68 : a'.tmps.getD 68 undef = Value.pointer (some ⟨qq, 1, none⟩) := (hw.at_ 2 68 rfl (hd ⟨2, .data⟩ (by simp) rfl))
                have q1 := fcell_below r1 hw.below
                refine step_free rfl ?_
                unfold Oper.wp
                simp only [execOp]
                go_simp
                exact hK _ _ (Below.refl _ _) (fun s hs => by cases hs; rfl)
              · intro listed a' w' hw hd K hK
                refine step_free rfl ?_
                apply wp_move
                exact hK _ _ (Below.refl _ _) (fun s hs => by cases hs; exact (hw.at_ 3 69 rfl (hd ⟨3, .data⟩ (by simp) rfl)))
              · intro listed a' w' hw hd K hK
                have hgd : a'.tmps.getD 70 undef = .bool false := (hw.at_ 4 70 rfl (hd ⟨4, .guard⟩ (by simp) rfl))
                have hv7 := hw.kept 7 (by kernel_rfl)
                obtain ⟨k0, k1, k2, k3, k4, k5, k6, k7, k8, k9⟩ := (FR.out.below hw.below).box
                refine step_guarded (j := 4) (b := false) (s := 70) rfl rfl (by rw [hw.size]; exact Nat.lt_of_lt_of_eq (show 70 < 85 by omega) rfl) hgd ?_
                unfold Oper.wp
                simp only [execOp]
                go_simp
                exact hK _ _ (Below.refl _ _) (fun s hs => by cases hs; rfl)
              · intro listed a' w' hw hd K hK
                have hgd : a'.tmps.getD 70 undef = .bool false := (hw.at_ 4 70 rfl (hd ⟨4, .guard⟩ (by simp) rfl))
                have hv71 : a'.tmps.getD 71 undef = .agg #[.int .i64 c0, .int .i64 c1, .int .i64 c2, .int .u64 (n0 : Int), .int .u64 (n1 : Int), .int .u64 (n2 : Int), .int .u64 (n3 : Int), .int .u64 (n4 : Int), .int .u64 (n5 : Int), .slice none 0 0] := (hw.at_ 5 71 rfl (hd ⟨5, .data⟩ (by simp) rfl))
                refine step_guarded (j := 4) (b := false) (s := 70) rfl rfl (by rw [hw.size]; exact Nat.lt_of_lt_of_eq (show 70 < 85 by omega) rfl) hgd ?_
                unfold Oper.wp
                simp only [execOp]
                go_simp
                refine (HM.out w').mono ?_
                rintro e w2 ⟨rfl, hb2⟩
                exact hK _ _ hb2.out (fun s hs => by cases hs; rfl)
              · intro listed a' w' hw hd K hK
                have hgd : a'.tmps.getD 70 undef = .bool false := (hw.at_ 4 70 rfl (hd ⟨4, .guard⟩ (by simp) rfl))
                have hv72 : a'.tmps.getD 72 undef = .bool false := (hw.at_ 6 72 rfl (hd ⟨6, .data⟩ (by simp) rfl))
                refine step_guarded (j := 4) (b := false) (s := 70) rfl rfl (by rw [hw.size]; exact Nat.lt_of_lt_of_eq (show 70 < 85 by omega) rfl) hgd ?_
                unfold Oper.wp
                simp only [execOp]
                go_simp
                exact hK _ _ (Below.refl _ _) (fun s hs => by cases hs; rfl)
              · intro listed a' w' hw hd K hK
                have hv70 : a'.tmps.getD 70 undef = .bool false := (hw.at_ 4 70 rfl (hd ⟨4, .data⟩ (by simp) rfl))
                have hv73 : a'.tmps.getD 73 undef = .bool true := (hw.at_ 7 73 rfl (hd ⟨7, .data⟩ (by simp) rfl))
                refine step_free rfl ?_
                unfold Oper.wp
                simp only [execOp]
                go_simp
                exact hK _ _ (Below.refl _ _) (fun s hs => by cases hs; rfl)
              · intro listed a' w' hw hd K hK
                refine step_free rfl ?_
                apply wp_move
                exact hK _ _ (Below.refl _ _) (fun s hs => by cases hs; exact (hw.at_ 8 74 rfl (hd ⟨8, .data⟩ (by simp) rfl)))
              · intro listed a' w' hw hd K hK
                have hgd : a'.tmps.getD 75 undef = .bool true := (hw.at_ 9 75 rfl (hd ⟨9, .guard⟩ (by simp) rfl))
                refine step_unwanted (j := 9) (b := false) (s := 75) rfl rfl (by rw [hgd]; exact fun h => by cases h) ?_
                exact hK _ _ (Below.refl _ _) (fun s hs => by cases hs; rfl)
              · intro listed a' w' hw hd K hK
                have hgd : a'.tmps.getD 75 undef = .bool true := (hw.at_ 9 75 rfl (hd ⟨9, .guard⟩ (by simp) rfl))
                refine step_unwanted (j := 9) (b := false) (s := 75) rfl rfl (by rw [hgd]; exact fun h => by cases h) ?_
                exact hK _ _ (Below.refl _ _) (fun s hs => by cases hs; rfl)
              · intro listed a' w' hw hd K hK
                have hgd : a'.tmps.getD 75 undef = .bool true := (hw.at_ 9 75 rfl (hd ⟨9, .guard⟩ (by simp) rfl))
                refine step_unwanted (j := 9) (b := false) (s := 75) rfl rfl (by rw [hgd]; exact fun h => by cases h) ?_
                exact hK _ _ (Below.refl _ _) (fun s hs => by cases hs; rfl)
              · intro listed a' w' hw hd K hK
                have hgd : a'.tmps.getD 75 undef = .bool true := (hw.at_ 9 75 rfl (hd ⟨9, .guard⟩ (by simp) rfl))
                refine step_unwanted (j := 9) (b := false) (s := 75) rfl rfl (by rw [hgd]; exact fun h => by cases h) ?_
                exact hK _ _ (Below.refl _ _) (fun s hs => by cases hs; rfl)
              · intro listed a' w' hw hd K hK
                have hgd : a'.tmps.getD 75 undef = .bool true := (hw.at_ 9 75 rfl (hd ⟨9, .guard⟩ (by simp) rfl))
                refine step_unwanted (j := 9) (b := false) (s := 75) rfl rfl (by rw [hgd]; exact fun h => by cases h) ?_
                exact hK _ _ (Below.refl _ _) (fun s hs => by cases hs; rfl)
              · intro listed a' w' hw hd K hK
                have hgd : a'.tmps.getD 75 undef = .bool true := (hw.at_ 9 75 rfl (hd ⟨9, .guard⟩ (by simp) rfl))
                refine step_unwanted (j := 9) (b := false) (s := 75) rfl rfl (by rw [hgd]; exact fun h => by cases h) ?_
                exact hK _ _ (Below.refl _ _) (fun s hs => by cases hs; rfl)
              · intro listed a' w' hw hd K hK
                have hv75 : a'.tmps.getD 75 undef = .bool true := (hw.at_ 9 75 rfl (hd ⟨9, .data⟩ (by simp) rfl))
                have hv81 : a'.tmps.getD 81 undef = undef := (hw.at_ 15 81 rfl (hd ⟨15, .data⟩ (by simp) rfl))
                refine step_free rfl ?_
                unfold Oper.wp
                simp only [execOp]
                go_simp
                exact hK _ _ (Below.refl _ _) (fun s hs => by cases hs; rfl)
            · intro listed a' w' hw hall
              have hk82 : a'.tmps.getD 82 undef = .bool true := hw.at_ 16 82 rfl (hall 16 (Nat.lt_of_lt_of_eq (show 16 < 17 by omega) rfl))
              have ZX := Lib.hid (ZR.out.below hw.below)
              have BBX := Lib.hid (fbtr BB.out hw.below)
              have hp := hw.puts [66, 67, 68, 69, 70, 71, 72, 73, 74, 75, 76, 77, 78, 79, 80, 81, 82] (by kernel_rfl)
              clear hw hall
              rw [hp]
              simp only [List.foldl_cons, List.foldl_nil, hk82]
              generalize a'.tmps.getD 66 undef = u66
              generalize a'.tmps.getD 67 undef = u67
              generalize a'.tmps.getD 68 undef = u68
              generalize a'.tmps.getD 69 undef = u69
              generalize a'.tmps.getD 70 undef = u70
              generalize a'.tmps.getD 71 undef = u71
              generalize a'.tmps.getD 72 undef = u72
              generalize a'.tmps.getD 73 undef = u73
              generalize a'.tmps.getD 74 undef = u74
              generalize a'.tmps.getD 75 undef = u75
              generalize a'.tmps.getD 76 undef = u76
              generalize a'.tmps.getD 77 undef = u77
              generalize a'.tmps.getD 78 undef = u78
              generalize a'.tmps.getD 79 undef = u79
              generalize a'.tmps.getD 80 undef = u80
              generalize a'.tmps.getD 81 undef = u81
              clear hp hk82
              simp only [Act.put, List.setIfInBounds_toArray, List.set_cons_succ, List.set_cons_zero]
              generalize hw6 : w' = VX at *
              clear hw6
              have g0 := ZX.out.thaw 0
              have g1 := ZX.out.thaw 1
              have g2 := ZX.out.thaw 2
              have g3 := ZX.out.thaw 3
              have g4 := ZX.out.thaw 4
              have g5 := ZX.out.thaw 5
              have g6 := ZX.out.thaw 6
              have g7 := ZX.out.thaw 7
              have g8 := ZX.out.thaw 8
              have g9 := ZX.out.thaw 9
              obtain ⟨y0, y1, y2, y3, y4, y5, y6, y7, y8, y9⟩ := ZX.out.box
              have R1 := Lib.hid (ZX.out.set 0 0 0 0 0 0 0 0 0 none 0 0)
              have R2 := Lib.hid ((only_ten VX w.heap.size (.int .i64 0) (.int .i64 0) (.int .i64 0) (.int .u64 0) (.int .u64 0) (.int .u64 0) (.int .u64 0) (.int .u64 0) (.int .u64 0) (.slice none 0 0)).below BBX.out (fun j hj => by omega) BBX.out.size)
              clear ZX BBX
              go_wp2
              refine bodyPost_ret (results_row_tmp rfl _ _ w.heap.size 25 #[.int .i64 0, .int .i64 0, .int .i64 0, .int .u64 0, .int .u64 0, .int .u64 0, .int .u64 0, .int .u64 0, .int .u64 0, .slice none 0 0] (0, 0) _ rfl R1.out Tryd.underlying25 rfl (by kernel_rfl)) rfl ?_
              exact readE_none HR.out R2
end Go.Proofs.YtelbhlkojpnmgaaDoor
