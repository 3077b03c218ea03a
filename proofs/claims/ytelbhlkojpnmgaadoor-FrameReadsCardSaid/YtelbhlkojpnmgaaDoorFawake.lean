/-
  What the statements' own example comes to: awake answers true, and what was there stays as it was. Condition: the sum's table stands as it was laid.
-/
import Derived.Test.YtelbhlkojpnmgaaDoorFenc
import Derived.Test.YtelbhlkojpnmgaaDoorFdec
import Derived.Test.YtelbhlkojpnmgaaDoorFsame
namespace Go.Proofs.YtelbhlkojpnmgaaDoor
set_option maxRecDepth 20000
open Go.RowKit

def exF : Fr := ⟨1, 1, 2, 1, 3, 0, 0, 0, 0, []⟩
def exL : List UInt8 := [1, 1, 2, 1, 3, 0, 0, 0, 0]
theorem ex_may : mayF exF := by decide
theorem ex_in : inF exF = exL := by
  have s0 : shortL 0 = [0] := by rw [shortL_last (by decide)]; rfl
  have s1 : shortL 1 = [1] := by rw [shortL_last (by decide)]; rfl
  have s3 : shortL 3 = [3] := by rw [shortL_last (by decide)]; rfl
  unfold inF headF numsF tailF exF shortsL
  simp only [List.map_cons, List.map_nil, s0, s1, s3]
  rfl
theorem ex_len : (frameL exF).length = 13 := by
  unfold frameL
  rw [Crc.seal_length, ex_in]
  rfl
theorem ex_front : (frameL exF).take 9 = exL := by
  unfold frameL
  rw [ex_in]
  exact Crc.take_seal exL
theorem drow_new (w : World) (A : Option Addr) (n cap : Nat) (f : Fr) : FRow w.heap.size f.kind f.src f.dst (f.inc : Int) (f.conn : Int) (f.pinc : Int) (f.pconn : Int) (f.ack : Int) (f.seq : Int) A n cap 25 (w.alloc (.cells (frC f A n cap) 25)) := frow_new w
theorem only_none {w w' : World} (hb : Below w.heap.size w w') : Only (fun _ => False) w w' := ⟨hb.os, hb.tape, hb.output, hb.size, fun j hj _ => hb.block j hj⟩
theorem dec_put {w w' : World} {e : Ending} {f : Fr} (hm : mayF f) (h : DecE w (frameL f) e w') : ∃ A cap, e = .returned (.tuple #[frV f A f.body.length cap, .int .i64 0]) ∧ Hid (Wbl w' w.heap.size A cap f.body) ∧ Hid (Below w.heap.size w w') := by
  unfold DecE at h
  rw [readF_put hm] at h
  exact h
set_option maxHeartbeats 4000000 in
theorem awake5_any (w : World) (ht : Tab w) :
    Calls Tryd.prog 12 #[] w fun e w' => e = .returned (.bool true) ∧ Hid (Below w.heap.size w w') := by
  have HT := Lib.hid ht
  have HTP := ht.pos
  have F1 := Lib.hid (frow_new (k := 1) (s := 1) (t := 2) (i := 1) (c := 3) (p := 0) (q := 0) (a := 0) (e := 0) (A := none) (n := 0) (cap := 0) (ty := 25) w)
  have B1 := Lib.hid (fbelow_box w (.cells #[.int .i64 1, .int .i64 1, .int .i64 2, .int .u64 1, .int .u64 3, .int .u64 0, .int .u64 0, .int .u64 0, .int .u64 0, .slice none 0 0] 25))
  have HE := Lib.hid (fun (W : World) (hT : Tab W) => show Calls Tryd.prog 14 #[.agg #[.int .i64 1, .int .i64 1, .int .i64 2, .int .u64 1, .int .u64 3, .int .u64 0, .int .u64 0, .int .u64 0, .int .u64 0, .slice none 0 0]] W (EncE W exF) from enc_any exF none 0 0 0 W hT rfl Bytes.nil_ (Nat.zero_le _))
  have HM := Lib.hid (fun (W : World) => show Calls Tryd.prog 10 #[.agg #[.int .i64 1, .int .i64 1, .int .i64 2, .int .u64 1, .int .u64 3, .int .u64 0, .int .u64 0, .int .u64 0, .int .u64 0, .slice none 0 0]] W (fun en w' => en = .returned (.bool (decide (mayF exF))) ∧ Hid (Below W.heap.size W w')) from fmay_any exF none 0 0 rfl W)
  rw [decide_eq_true ex_may] at HM
  clear ht
  go_enter Tryd.func12, Tryd.ntmps12
  go_wp2_with fail
  generalize w.alloc (.cells #[.int .i64 1, .int .i64 1, .int .i64 2, .int .u64 1, .int .u64 3, .int .u64 0, .int .u64 0, .int .u64 0, .int .u64 0, .slice none 0 0] 25) = W1 at *
  have HT1 := Lib.hid (HT.out.below HTP B1.out)
  have hz1 : w.heap.size < W1.heap.size := lt_of_heap F1.out
  refine (HE.out W1 HT1.out).mono ?_
  rintro e W2 ⟨hb2, h⟩
  rcases h with ⟨h, -⟩ | ⟨-, g, rfl, hg, hbk⟩
  · exact absurd ex_may h
  have F2 := Lib.hid (F1.out.below hb2.out)
  have B2 := Lib.hid (fbtr B1.out hb2.out)
  have HT2 := Lib.hid (HT.out.below HTP B2.out)
  have hz2 := hb2.out.size
  rw [ex_len]
  clear F1 B1 HT1 HE hb2 hg
  go_wp2_with fail
  refine (dec_any (some ⟨g, 0, none⟩) (frameL exF) 13 13 W2 HT2.out ex_len (hbk.out.all.more hbk.out.lt) (Nat.le_refl _) (by omega)).mono ?_
  rintro e W3 h
  obtain ⟨A3, c3, rfl, hw3, hb3⟩ := dec_put ex_may h
  clear h
  have K3 := Lib.hid (hbk.out.below hb3.out hbk.out.lt)
  have F3 := Lib.hid (F2.out.below hb3.out)
  have B3 := Lib.hid (fbtr B2.out hb3.out)
  have hz3 := hb3.out.size
  have E3 : frV exF A3 exF.body.length c3 = .agg #[.int .i64 1, .int .i64 1, .int .i64 2, .int .u64 1, .int .u64 3, .int .u64 0, .int .u64 0, .int .u64 0, .int .u64 0, .slice A3 0 c3] := rfl
  rw [E3]
  clear E3 F2 B2 HT2 hbk hb3 hw3
  have o4 : Only (fun _ => False) W3 (W3.alloc (.cells #[.int .i64 1, .int .i64 1, .int .i64 2, .int .u64 1, .int .u64 3, .int .u64 0, .int .u64 0, .int .u64 0, .int .u64 0, .slice A3 0 c3] 25)) := (Only.refl (fun _ => False) W3).alloc _
  have F4 := Lib.hid (F3.out.only o4 (fun h => h))
  have G4 := Lib.hid (frow_new (k := 1) (s := 1) (t := 2) (i := 1) (c := 3) (p := 0) (q := 0) (a := 0) (e := 0) (A := A3) (n := 0) (cap := c3) (ty := 25) W3)
  have K4 := Lib.hid (K3.out.alloc (.cells #[.int .i64 1, .int .i64 1, .int .i64 2, .int .u64 1, .int .u64 3, .int .u64 0, .int .u64 0, .int .u64 0, .int .u64 0, .slice A3 0 c3] 25))
  have B4 := Lib.hid (fbtr B3.out (fbelow_box W3 (.cells #[.int .i64 1, .int .i64 1, .int .i64 2, .int .u64 1, .int .u64 3, .int .u64 0, .int .u64 0, .int .u64 0, .int .u64 0, .slice A3 0 c3] 25)))
  clear o4 F3 K3 B3
  obtain ⟨k0, k1, k2, k3, k4, k5, k6, k7, k8, k9⟩ := F4.out.box
  go_wp2_with fail
  generalize W3.alloc (.cells #[.int .i64 1, .int .i64 1, .int .i64 2, .int .u64 1, .int .u64 3, .int .u64 0, .int .u64 0, .int .u64 0, .int .u64 0, .slice A3 0 c3] 25) = W4 at *
  generalize W3.heap.size = fb at *
  refine (HM.out W4).mono ?_
  rintro e W5 ⟨rfl, hb5⟩
  have F5 := Lib.hid (F4.out.below hb5.out)
  have G5 := Lib.hid (G4.out.below hb5.out)
  have K5 := Lib.hid (K4.out.below hb5.out K4.out.lt)
  have B5 := Lib.hid (fbtr B4.out hb5.out)
  clear F4 G4 K4 B4 hb5 HM k0 k1 k2 k3 k4 k5 k6 k7 k8 k9
  obtain ⟨k0, k1, k2, k3, k4, k5, k6, k7, k8, k9⟩ := F5.out.box
  obtain ⟨z0, z1, z2, z3, z4, z5, z6, z7, z8, z9⟩ := G5.out.box
  have cs : Sem.run Tryd.prog (convert 23 9 (.slice (some ⟨g, 0, none⟩) 9 13)) W5 = .ok (.string ⟨#[1, 1, 2, 1, 3, 0, 0, 0, 0]⟩) W5 := by
    have h := K5.out.bytes 0 9 (by rw [ex_len]; omega)
    rw [List.drop_zero, ex_front] at h
    exact conv_str 13 h rfl
  go_wp2_with fail
  refine (show Calls Tryd.prog 16 #[.agg #[.int .i64 1, .int .i64 1, .int .i64 2, .int .u64 1, .int .u64 3, .int .u64 0, .int .u64 0, .int .u64 0, .int .u64 0, .slice none 0 0], .agg #[.int .i64 1, .int .i64 1, .int .i64 2, .int .u64 1, .int .u64 3, .int .u64 0, .int .u64 0, .int .u64 0, .int .u64 0, .slice A3 0 c3]] W5 (fun en w' => en = .returned (.bool (decide (exF = exF))) ∧ Hid (Below W5.heap.size W5 w')) from fsame_any exF exF none A3 0 0 0 c3 0 rfl rfl W5 (fun h => by cases h) (fun h => by cases h) (Nat.zero_le _)).mono ?_
  rintro e W6 ⟨rfl, hb6⟩
  rw [decide_eq_true rfl]
  go_wp2
  go_ret
  exact ⟨rfl, Lib.hid (fbtr B5.out hb6.out)⟩
end Go.Proofs.YtelbhlkojpnmgaaDoor
