/-
  The statement CodeTexts' walk: whatever texts, none above 2^47 bytes, it answers true, and leaves all that was there as it was.
-/
import Derived.Test.YtadpbcbgmopfaaaReft
namespace Go.Proofs.Ytadpbcbgmopfaaa
open Go.RowKit

/-- What a text puts in, and all of them. -/
def textL (s : ByteArray) : List UInt8 := shortL s.size ++ strL s ++ strL s
def textsL (ss : List ByteArray) : List UInt8 := (ss.map textL).flatten
def totL (ss : List ByteArray) : Nat := (ss.map fun s => 100 + s.size).sum
theorem textsL_take (ss : List ByteArray) (k : Nat) (hk : k < ss.length) : textsL (ss.take (k + 1)) = textsL (ss.take k) ++ textL (ss.getD k ByteArray.empty) := by
  unfold textsL
  rw [List.take_add_one, List.getElem?_eq_getElem hk, List.map_append, List.flatten_append]
  simp [List.getD, hk]
theorem totL_take (ss : List ByteArray) (k : Nat) (hk : k < ss.length) : totL (ss.take (k + 1)) = totL (ss.take k) + (100 + (ss.getD k ByteArray.empty).size) := by
  unfold totL
  rw [List.take_add_one, List.getElem?_eq_getElem hk, List.map_append, List.sum_append]
  simp [List.getD, hk]
theorem totL_mono (ss : List ByteArray) (k : Nat) : totL (ss.take k) ≤ totL ss := by
  have h : totL ss = totL (ss.take k) + totL (ss.drop k) := by
    have e := congrArg totL (List.take_append_drop k ss)
    rw [← e]
    unfold totL
    rw [List.map_append, List.sum_append]
  omega
theorem textL_len (s : ByteArray) (h : s.size ≤ 1048576) : (textL s).length ≤ 2 * (100 + s.size) := by
  have h1 := shortL_ten (x := s.size) (by omega)
  have h2 : (strL s).length = s.size := rfl
  unfold textL
  rw [List.length_append, List.length_append, h2]
  omega
theorem textsL_len (ss : List ByteArray) (h : ∀ s ∈ ss, s.size ≤ 1048576) : (textsL ss).length ≤ 2 * totL ss := by
  induction ss with
  | nil => simp [textsL, totL]
  | cons s r ih =>
    have h1 := textL_len s (h s (by simp))
    have h2 := ih (fun x hx => h x (by simp [hx]))
    unfold textsL totL at *
    simp only [List.map_cons, List.flatten_cons, List.length_append, List.sum_cons]
    omega
theorem size_tot (ss : List ByteArray) : ∀ s ∈ ss, 100 + s.size ≤ totL ss := by
  induction ss with
  | nil => intro s hs; cases hs
  | cons x r ih =>
    intro s hs
    unfold totL at *
    simp only [List.map_cons, List.sum_cons]
    rcases List.mem_cons.1 hs with rfl | h
    · omega
    · have := ih s h; omega
theorem getD_in (ss : List ByteArray) (k : Nat) (hk : k < ss.length) : ss.getD k ByteArray.empty ∈ ss := by
  rw [show ss.getD k ByteArray.empty = ss[k] by simp [List.getD, hk]]
  exact List.getElem_mem _


def TotRel (w : World) (ss : List ByteArray) (n i : Value) (wr : World) : Prop :=
  ∃ k, k ≤ ss.length ∧ i = .int .i64 (k : Nat) ∧ n = .int .i64 (totL (ss.take k) : Nat) ∧ wr = w ∧ totL (ss.take k) ≤ 140737488451432
def TextsRel (w : World) (p : Nat) (ss : List ByteArray) (o i : Value) (wr : World) : Prop :=
  ∃ k g, k ≤ ss.length ∧ i = .int .i64 (k : Nat) ∧ o = .string ⟨(textsL (ss.take k)).toArray⟩ ∧ Hid (WS w.heap.size w wr p g (textsL (ss.take k)))
set_option maxRecDepth 100000 in
set_option maxHeartbeats 3200000 in
theorem texts_walk (A0 : Option Addr) (ss : List ByteArray) (c0 : Nat) (w : World) (hs : StrsIn w A0 ss) (hlen : ss.length ≤ 9223372036854775807) (hz : ∀ s ∈ ss, s.size ≤ 140737488351232) :
    Calls Try.prog 5 #[.slice A0 ss.length c0] w fun e w' => e = .returned (.bool true) ∧ Hid (Below w.heap.size w w') := by
  have HS := Lib.hid hs
  have HZ := Lib.hid hz
  clear hs hz
  generalize hn0 : ss.length = n0 at *
  have HN := Lib.hid hn0
  clear hn0
  go_enter Try.func5, Try.ntmps5
  go_wp2_with fail
  go_loopw [3, 4] (fun n i wr => TotRel w ss n i wr) (fun _ i _ => n0 - (intOf i).toNat)
  case atStart => exact ⟨0, by omega, rfl, rfl, rfl, by simp [totL]⟩
  case round =>
    obtain ⟨k, hk, rfl, rfl, rfl, ht⟩ := hrel
    rw [HN.out] at hk
    by_cases hlt : k < n0
    · by_cases htk : totL (ss.take k) ≤ 100000
      · obtain ⟨b, off, rfl, hbB, hc⟩ := HS.out (by rw [HN.out]; omega)
        have hcell := hc k (by rw [HN.out]; exact hlt)
        have HT1 := Lib.hid (totL_take ss k (by rw [HN.out]; exact hlt))
        have hsz := HZ.out _ (getD_in ss k (by rw [HN.out]; exact hlt))
        clear hc
        generalize ss.getD k ByteArray.empty = s at *
        generalize totL (ss.take k) = t at *
        have k0 : (0 : Int) ≤ (k : Int) := by omega
        have k1 : (k : Int) < (n0 : Int) := by omega
        have t1 : (t : Int) ≤ 100000 := by omega
        have w3 : wrap64 ((k : Int) + 1) = (k : Int) + 1 := by unfold wrap64; omega
        have w1 : wrap64 (100 + (s.size : Int)) = 100 + (s.size : Int) := by unfold wrap64; omega
        have w2 : wrap64 ((t : Int) + (100 + (s.size : Int))) = (t : Int) + (100 + (s.size : Int)) := by unfold wrap64; omega
        go_wp2
        go_roundw
        case rel => exact ⟨k + 1, by rw [HN.out]; omega, by go_num, by rw [HT1.out]; go_num, rfl, by rw [HT1.out]; omega⟩
        case measure => simp [intOf]; omega
      · have k1 : (k : Int) < (n0 : Int) := by omega
        generalize totL (ss.take k) = t at *
        have t1 : ¬ (t : Int) ≤ 100000 := by omega
        have t2 : (100000 : Int) < (t : Int) := by omega
        go_wp2_with fail
        refine (awake_any wr).mono ?_
        rintro e W1 ⟨rfl, hb⟩
        go_wp2
        go_ret
        exact ⟨rfl, hb⟩
    · obtain rfl : k = n0 := by omega
      have k1 : ¬ (k : Int) < (k : Int) := by omega
      rw [List.take_of_length_le (by rw [HN.out]; exact Nat.le_refl _)] at ht ⊢
      by_cases htk : totL ss ≤ 100000
      · have HSZ := Lib.hid (show ∀ s ∈ ss, s.size ≤ 100000 from fun s hs => by have := size_tot ss s hs; omega)
        have HLE := Lib.hid (show ∀ j, (textsL (ss.take j)).length ≤ 200000 from fun j => by
          have h1 := textsL_len (ss.take j) (fun s hs => by have := HSZ.out s (List.mem_of_mem_take hs); omega)
          have h2 := totL_mono ss j
          omega)
        have t1 : ¬ (100000 : Int) < (totL ss : Int) := by omega
        clear ht htk
        generalize totL ss = tt at *
        rename World => w0
        go_wp2_with fail
        refine (new_at (Below.refl w0.heap.size w0) (Nat.le_refl _)).mono ?_
        rintro e W1 ⟨p, rfl, o1, b1, z1⟩
        clear b1 z1 k1 t1
        go_wp2_with fail
        go_loopw [6, 7] (fun o i w9 => TextsRel w0 p ss o i w9) (fun _ i _ => k - (intOf i).toNat)
        case atStart => exact ⟨0, none, by omega, rfl, rfl, o1⟩
        case round =>
          obtain ⟨j, g, hj, rfl, rfl, hW⟩ := hrel
          rw [HN.out] at hj
          by_cases hlt2 : j < k
          · obtain ⟨b, off, rfl, hbB, hc⟩ := HS.out (by rw [HN.out]; omega)
            have hcl0 := (hW.out.below.cell (p := ⟨b, off + j, none⟩) hbB).trans (hc j (by rw [HN.out]; exact hlt2))
            have HT2 := Lib.hid (textsL_take ss j (by rw [HN.out]; exact hlt2))
            have hsz := HSZ.out _ (getD_in ss j (by rw [HN.out]; exact hlt2))
            have hle := HLE.out j
            clear hc
            generalize ss.getD j ByteArray.empty = s at *
            generalize textsL (ss.take j) = acc at *
            obtain ⟨tx, htx0⟩ : ∃ tx, shortL s.size ++ strL s = tx := ⟨_, rfl⟩
            obtain ⟨acc2, hac0⟩ : ∃ acc2, (acc ++ tx) ++ strL s = acc2 := ⟨_, rfl⟩
            have htx := Lib.hid htx0
            have hac := Lib.hid hac0
            have hadd : Hid ((⟨(acc ++ tx).toArray⟩ : ByteArray) ++ s = ⟨acc2.toArray⟩) := Lib.hid (by rw [← hac0]; exact str_append (acc ++ tx) (strL s))
            have htl : tx.length ≤ 100010 := by rw [← htx0, List.length_append, show (strL s).length = s.size from rfl]; have := shortL_ten (x := s.size) (by omega); omega
            clear htx0 hac0
            have hal : (acc ++ tx).length ≤ 300010 := by rw [List.length_append]; omega
            have j0 : (0 : Int) ≤ (j : Int) := by omega
            have j1 : (j : Int) < (k : Int) := by omega
            go_wp2_with fail
            refine (text_at hW.out s (by omega) (by omega)).mono ?_
            rintro e V1 ⟨rfl, g1, o2, e2, f2⟩
            rw [htx.out] at o2
            have hcl1 := (o2.out.below.cell (p := ⟨b, off + j, none⟩) hbB).trans ((hW.out.below.cell (p := ⟨b, off + j, none⟩) hbB).symm.trans hcl0)
            have hbV := Lib.hid (show b < V1.heap.size from Nat.lt_of_lt_of_le hbB o2.out.size)
            obtain ⟨W2, cap, C, hb2, ho2, hfr⟩ := conv_bytes2 s V1
            have hW2 : Hid (WS w0.heap.size w0 W2 p g1 (acc ++ tx)) := Lib.hid (o2.out.otherW ho2.out (fun _ h => h.elim) (fun h => h) (fun _ _ h => h))
            have hpl := Lib.hid (show p < V1.heap.size from o2.out.wr.lt)
            have hgl := Lib.hid (show ∀ x, g1 = some x → x < V1.heap.size from o2.out.wr.glt)
            have hV1 := Lib.hid o2.out.size
            clear hcl0 e2 f2 o2 hW
            go_wp2_with fail
            refine (raw_at hW2.out (some ⟨V1.heap.size, 0, none⟩) (strL s) s.size cap W2.heap.size rfl (fun h => by cases h) hb2.out (by omega) (by omega)).mono ?_
            rintro e V3 ⟨rfl, g3, o3, e3, f3⟩
            rw [hac.out] at o3
            have hblk : V3.heap[V1.heap.size]? = W2.heap[V1.heap.size]? := f3.out.block V1.heap.size hfr.out.1 (by
              rintro (e | e)
              · have := hpl.out; omega
              · have := hgl.out _ e; omega)
            obtain ⟨V4, hcl4, hod⟩ := clear_all V1.heap.size s.size cap V3 (fun j hj => by rw [cell_same hblk, frozen_same hblk]; exact hfr.out.2 j hj)
            have hW9 : Hid (WS w0.heap.size w0 V4 p g3 acc2) := Lib.hid (o3.out.otherW hod.out (fun x e => by rw [e]; exact hV1.out) (fun e => by have := hpl.out; omega) (fun x e e' => by
              subst e'
              have := hgl.out _ (e3.out.same hfr.out.1 e)
              omega))
            have hbW := Lib.hid (show b < V4.heap.size from Nat.lt_of_lt_of_le hbB hW9.out.size)
            have hcell := ((hW9.out.below.cell (p := ⟨b, off + j, none⟩) hbB).trans ((hW2.out.below.cell (p := ⟨b, off + j, none⟩) hbB).symm.trans ((ho2.out.block b hbV.out (fun h => h) |> cell_same).trans hcl1)))
            have hrel2 : Hid (textsL (ss.take (j + 1)) = acc2) := Lib.hid (by rw [HT2.out, ← hac.out, ← htx.out]; unfold textL; simp only [List.append_assoc])
            have HRT := Lib.hid (fun W => show Calls Try.prog 26 #[.string s] W (BytesE W tx) by rw [← htx.out]; exact refText_any s W (by omega))
            clear hcl1 hblk hfr e3 f3 o3 hb2 ho2 hod hpl hgl hV1 C hW2 HT2 hac
            go_wp2_with fail
            clear hcl4
            go_region_held (fun w' => w'.cell? ⟨b, off + j, none⟩ = some (.string s)) (first | go_keep | exact q2.out) (first | (go_at_call 26; refine (HRT.out _).mono ?_; rintro e V5 ⟨A5, c5, rfl, ho5, hb5⟩; have hZ := Lib.hid (hW9.out.later (below_drew_left hb5.out)); have q2 := Lib.hid ((hb5.out.cell (p := ⟨b, off + j, none⟩) hbW.out).trans hcell); have C5 := conv_str c5 ho5.out.bytes rfl))
            go_wp2
            go_roundw
            case rel => exact ⟨j + 1, g3, by rw [HN.out]; omega, by go_num, by rw [hrel2.out, ← hadd.out, ← str_append], by rw [hrel2.out]; exact hZ⟩
            case measure => simp [intOf]; omega
          · obtain rfl : j = k := by omega
            have j1 : ¬ (j : Int) < (j : Int) := by omega
            have hle := HLE.out j
            generalize textsL (ss.take j) = acc at *
            go_wp2_with fail
            refine (bytes_at hW.out (by omega)).mono ?_
            rintro e V1 ⟨A, c, rfl, ho, hb⟩
            have C := conv_str c ho.out.bytes rfl
            have hW1 := Lib.hid (hW.out.later hb.out)
            clear ho hb hW
            go_wp2_with fail
            refine (len_at hW1.out _ rfl).mono ?_
            rintro e V2 ⟨rfl, rfl⟩
            go_wp2_with fail
            refine (awake_any V1).mono ?_
            rintro e V2 ⟨rfl, hb⟩
            go_wp2
            go_ret
            exact ⟨rfl, Lib.hid (hW1.out.below.trans (hb.out.mono hW1.out.size))⟩
      · generalize totL ss = t at *
        have t2 : (100000 : Int) < (t : Int) := by omega
        go_wp2_with fail
        refine (awake_any wr).mono ?_
        rintro e W1 ⟨rfl, hb⟩
        go_wp2
        go_ret
        exact ⟨rfl, hb⟩
end Go.Proofs.Ytadpbcbgmopfaaa
