/-
  The statement SumOf: the sum of any parts is the document's, and they stay as they were. No condition but the row's own: the package's table lies as the program's text lays it.
-/
import Derived.Test.YthobaicphdhflaaDoorRowsIn
import Derived.Test.YthobaicphdhflaaDoorRefOpen
namespace Go.Proofs.YthobaicphdhflaaDoor
open Go.RowKit

theorem flat_succ (ls : List (List UInt8)) (k : Nat) (hk : k < ls.length) : (ls.take (k + 1)).flatten = (ls.take k).flatten ++ ls.getD k [] := by
  rw [List.take_add_one, List.getElem?_eq_getElem hk, List.flatten_append]
  simp [List.getD, hk]
theorem flat_part (ls : List (List UInt8)) (k : Nat) (hk : k < ls.length) : (ls.flatten.drop (total (ls.take k))).take (ls.getD k []).length = ls.getD k [] := by
  have h1 : ls.flatten = (ls.take k).flatten ++ (ls.getD k [] ++ (ls.drop (k + 1)).flatten) := by
    rw [← List.append_assoc, ← flat_succ ls k hk, ← List.flatten_append, List.take_append_drop]
  rw [h1]
  unfold total
  simp
theorem total_last (ls : List (List UInt8)) : total ls = ls.flatten.length := rfl
theorem Bytes.part {w : World} {B b off : Nat} {l : List UInt8} (h : Bytes w B (some ⟨b, off, none⟩) l) (i n : Nat) : Bytes w B (some ⟨b, off + i, none⟩) ((l.drop i).take n) := (h.back i).front n

def GatherRel (w W1 : World) (ls : List (List UInt8)) (v i : Value) (wr : World) : Prop :=
  ∃ (k t : Nat) (A : Option Addr) (cap : Nat), k ≤ ls.length ∧ i = .int .i64 (k : Nat) ∧ v = .slice A t cap ∧ Hid (t = total (ls.take k)) ∧ Hid (Own8 wr w.heap.size A t cap (ls.take k).flatten) ∧ Hid (Below W1.heap.size W1 wr)
def LookRel (W : World) (ls : List (List UInt8)) (v i : Value) (wr : World) : Prop :=
  ∃ (k t : Nat), k ≤ ls.length ∧ i = .int .i64 (k : Nat) ∧ v = .int .i64 (t : Nat) ∧ Hid (t = total (ls.take k)) ∧ Hid (Below W.heap.size W wr)

set_option maxHeartbeats 3200000 in
theorem sumOf_walk (A : Option Addr) (ls : List (List UInt8)) (m cap : Nat) (w : World) (ht : Tab w) (hb : RowsN w w.heap.size A ls) (hm : ls.length = m) (hmm : m ≤ maxLen) :
    Calls Tryd.prog 3 #[.slice A m cap] w fun e w' => e = .returned (.bool true) ∧ Hid (Below w.heap.size w w') := by
  have HT := Lib.hid ht
  have HB := Lib.hid hb
  have HM := Lib.hid hm
  have HMM := Lib.hid hmm
  have HL := Lib.hid (long_any A ls cap w.heap.size w hb.rows (by rw [hm]; exact hmm))
  rw [hm] at HL
  obtain ⟨i0, hi0, hz0, hz1, hz2⟩ := info_parts Tryd.infoU8
  clear ht hb hm hmm
  go_enter Tryd.func3, Tryd.ntmps3
  go_wp2_with fail
  refine HL.out.mono ?_
  rintro e W1 ⟨rfl, rfl⟩
  by_cases hlong : longB ls = true
  · go_wp2_with fail
    refine (awake_any w HT.out).mono ?_
    rintro e W2 ⟨rfl, hb2⟩
    go_wp2
    go_ret
    exact ⟨rfl, hb2⟩
  · have hlb : longB ls = false := by simpa using hlong
    have HLB := Lib.hid (show total ls ≤ 65536 ∧ m ≤ 4097 by
      have h := hlb
      unfold longB at h
      rw [Bool.or_eq_false_iff, decide_eq_false_iff_not, decide_eq_false_iff_not, HM.out] at h
      omega)
    clear hlong HL
    have m1 : m ≤ 4097 := HLB.out.2
    go_wp2_with fail
    go_loopw [3, 4] (fun v i wr => GatherRel w w ls v i wr) (fun _ i _ => m - (intOf i).toNat)
    case atStart => exact ⟨0, 0, none, 0, by omega, rfl, rfl, Lib.hid (by simp [total]), Lib.hid (World.ownsRow_nil _ _ _ _), Lib.hid (Below.refl _ _)⟩
    case round =>
      obtain ⟨k, t, A2, cap2, hk, rfl, rfl, htot, ho, hbw⟩ := hrel
      rw [HM.out] at hk
      by_cases hlt : k < m
      · obtain ⟨b, off, rfl, hbb, hc⟩ := HB.out (by rw [HM.out]; omega)
        obtain ⟨A3, cap3, hcell0, hby, hml, hnone⟩ := hc k (by rw [HM.out]; exact hlt)
        have hcell := (hbw.out.cell (p := ⟨b, off + k, none⟩) hbb).trans hcell0
        have HY := Lib.hid (hby.below hbw.out)
        have HNN := Lib.hid hnone
        have HF := Lib.hid (flat_succ ls k (by rw [HM.out]; exact hlt))
        have HT2 := Lib.hid (total_succ ls k (by rw [HM.out]; exact hlt))
        have HT3 := Lib.hid (Nat.le_trans (total_take_le ls (k + 1)) HLB.out.1)
        have w0 := Lib.hid hbw.out.size
        clear hc hcell0 hby hml hnone hbb
        generalize ls.getD k [] = p at hcell HY HF HT2
        generalize hn : p.length = n at hcell HT2
        have HN := Lib.hid hn
        clear hn
        have htn := Lib.hid (show t + n ≤ 65536 by have := HT2.out; have := HT3.out; rw [← htot.out] at *; omega)
        have C4 := Lib.hid (show t + n ≤ maxLen by have := htn.out; unfold maxLen; omega)
        have C6 := Lib.hid (World.ownsRow.lt ho.out)
        rcases A3 with _ | ad
        · have hc0 := HNN.out rfl
          subst hc0
          have hn0 : n = 0 := by
            rcases Nat.eq_zero_or_pos p.length with h0 | h0
            · rw [← HN.out]; exact h0
            · obtain ⟨_, _, e, _⟩ := HY.out h0; cases e
          subst hn0
          have hp0 : p = [] := List.eq_nil_of_length_eq_zero HN.out
          subst hp0
          go_wp2_with (at_builtin; refine wpList_append_own_none rfl (.tmp 17) (.tmp 21) 25 rfl w.heap.size 5 i0 1 Tryd.underlying25 hi0 (.slice A2 t cap2) t (bv (ls.take k).flatten) rfl ho.out rfl ?_)
          go_roundw
          case rel => exact ⟨k + 1, t, A2, cap2, by rw [HM.out]; omega, by go_num, rfl, Lib.hid (by rw [HT2.out, ← htot.out]; rfl), Lib.hid (by rw [HF.out, List.append_nil]; exact ho.out), hbw⟩
          case measure => simp [intOf]; omega
        · have C5 := Lib.hid (show ∀ j u, (bv p)[j]? = some u → wr.cell? (ad.add j) = some u from fun j u hu => by
            obtain ⟨ad', e, h⟩ := HY.out.src (by have := (List.getElem?_eq_some_iff.1 hu).1; omega)
            cases e
            exact h j u hu)
          have C7 := Lib.hid (show (bv p).length = n * 1 by rw [bv_length, HN.out]; omega)
          have C8 := Lib.hid (show (t + n) * 1 ≤ 140737488355328 by have := htn.out; omega)
          go_wp2_with (at_builtin; refine wpList_append_own_at _ rfl (.tmp 17) (.tmp 21) 25 rfl w.heap.size 5 i0 _ 1 1 Tryd.underlying25 hi0 hz0 hz1 hz2 rfl (by omega) (.slice A2 t cap2) t (bv (ls.take k).flatten) rfl ho.out ad n cap3 (bv p) rfl C7.out C5.out (bv_one p) C4.out C8.out w0.out ?_)
          intro v' w1 hown hg _ _
          have hb4 : Hid (Below w.heap.size w w1) := Lib.hid (hbw.out.grown hg w0.out (fun j hj => (C6.out j hj).1))
          obtain ⟨A4, cap4, rfl⟩ := own_value hown
          have ho4 : Hid (Own8 w1 w.heap.size A4 (t + n) cap4 (ls.take (k + 1)).flatten) := Lib.hid (by rw [HF.out]; unfold Own8; rw [bv_append]; exact hown)
          have ht4 := Lib.hid (show t + n = total (ls.take (k + 1)) by rw [HT2.out, ← htot.out])
          clear hown hg C4 C5 C6 C7 C8 ho hbw HY htot
          go_wp2
          go_roundw
          case rel => exact ⟨k + 1, t + n, A4, cap4, by rw [HM.out]; omega, by go_num, rfl, ht4, ho4, hb4⟩
          case measure => simp [intOf]; omega
      · have hkm : k = m := by omega
        have HTK := Lib.hid (show ls.take k = ls by rw [List.take_of_length_le (by rw [HM.out]; omega)])
        have ho1 : Hid (Own8 wr w.heap.size A2 t cap2 ls.flatten) := Lib.hid (by have := ho.out; rwa [HTK.out] at this)
        have ht1 := Lib.hid (show t = total ls by rw [htot.out, HTK.out])
        have ht2 : t ≤ 65536 := by rw [ht1.out]; exact HLB.out.1
        have LF := Lib.hid (show ls.flatten.length = t by rw [ht1.out]; rfl)
        have hT1 : Hid (Tab wr) := Lib.hid (HT.out.below HT.out.pos hbw.out)
        have hR1 : Hid (RowsN wr wr.heap.size A ls) := Lib.hid ((HB.out.below hbw.out).more hbw.out.size)
        clear ho htot
        go_wp2_with fail
        refine (copy_any A2 ls.flatten t cap2 wr.heap.size wr LF.out ho1.out.none_cap ho1.out.bytes (Nat.le_refl _) (by omega)).mono ?_
        rintro e W2 ⟨Aw, capw, rfl, how, hb2⟩
        have hT2 : Hid (Tab W2) := Lib.hid (hT1.out.below hT1.out.pos hb2.out)
        have hR2 : Hid (RowsN W2 W2.heap.size A ls) := Lib.hid ((hR1.out.below hb2.out).more hb2.out.size)
        have ha2 : Hid (Bytes W2 W2.heap.size A2 ls.flatten) := Lib.hid ((ho1.out.bytes.below hb2.out).more hb2.out.size)
        have hw2 : Hid (Bytes W2 W2.heap.size Aw ls.flatten) := Lib.hid how.out.bytes
        have hwn : Hid (Aw = none → capw = 0) := Lib.hid how.out.none_cap
        have hwl : t ≤ capw := how.out.cap_le
        have hwf := Lib.hid how.out.form8
        have hb3 : Hid (Below w.heap.size w W2) := Lib.hid (hbw.out.trans (hb2.out.mono hbw.out.size))
        have HO := Lib.hid (of_any A ls cap W2.heap.size W2 hT2.out hR2.out.rows (by rw [HM.out]; exact HMM.out))
        rw [HM.out] at HO
        have HR := Lib.hid (refOf_any A2 ls.flatten t cap2 W2.heap.size W2 LF.out ha2.out (by unfold maxLen; omega))
        have hcl := Crc.crc_lt ls.flatten
        generalize Crc.crc ls.flatten = c at HO HR hcl
        clear hT1 hR1 hbw ho1 how hb2 ha2
        subst hkm
        go_wp2_with fail
        refine HO.out.mono ?_
        rintro e W3 ⟨rfl, rfl⟩
        go_wp2_with fail
        refine HR.out.mono ?_
        rintro e W3 ⟨rfl, rfl⟩
        clear HO HR
        go_wp2_with fail
        go_loopw [6, 7] (fun v i wr => LookRel W2 ls v i wr) (fun _ i _ => k - (intOf i).toNat)
        case atStart => exact ⟨0, 0, by omega, rfl, rfl, Lib.hid (by simp [total]), Lib.hid (Below.refl _ _)⟩
        case round =>
          obtain ⟨j, tj, hj, rfl, rfl, htj, hbj⟩ := hrel
          rw [HM.out] at hj
          by_cases hjk : j < k
          · obtain ⟨b, off, rfl, hbb, hc⟩ := hR2.out (by rw [HM.out]; omega)
            obtain ⟨A3, cap3, hcell0, hby, hml, hnone⟩ := hc j (by rw [HM.out]; exact hjk)
            have hcell := (hbj.out.cell (p := ⟨b, off + j, none⟩) hbb).trans hcell0
            have HY := Lib.hid ((hby.below hbj.out).more hbj.out.size)
            have HF := Lib.hid (flat_part ls j (by rw [HM.out]; exact hjk))
            have HT2 := Lib.hid (total_succ ls j (by rw [HM.out]; exact hjk))
            have HT3 := Lib.hid (total_take_le ls (j + 1))
            clear hc hcell0 hby hml hnone hbb
            rw [← htj.out] at HF
            generalize ls.getD j [] = p at hcell HY HF HT2
            generalize hn : p.length = n at hcell HT2 HF
            have HN := Lib.hid hn
            clear hn
            have hsum : tj + n ≤ t := by have h1 := HT2.out; have h2 := HT3.out; rw [← htj.out] at h1; rw [← ht1.out] at h2; omega
            have j0 : (0 : Int) ≤ (j : Int) := by omega
            have jk : (j : Int) < (k : Int) := by omega
            have s0 : (0 : Int) ≤ (tj : Int) := by omega
            have s1 : (tj : Int) ≤ (tj : Int) + (n : Int) := by omega
            have s2 : (tj : Int) + (n : Int) ≤ (capw : Int) := by omega
            have s3 : IntKind.i64.wrap ((tj : Int) + (n : Int)) = (tj : Int) + (n : Int) := by rw [IntWalk.i64_in _ (by omega)]
            have s4 : ((tj : Int) + (n : Int)).toNat = tj + n := by omega
            by_cases hcc : capw = tj
            · have hn0 : n = 0 := by omega
              subst hn0
              have hp0 : p = [] := List.eq_nil_of_length_eq_zero HN.out
              subst hp0
              subst hcc
              have HQ := Lib.hid (fun (V : World) (X : Nat) => same_true A3 Aw [] [] 0 0 cap3 X V.heap.size V rfl rfl Bytes.nil_ Bytes.nil_ rfl)
              have ht6 := Lib.hid (show capw = total (ls.take (j + 1)) by rw [HT2.out, ← htj.out]; rfl)
              clear HF HT2 HT3 HY
              go_wp2_with fail
              go_quiet ((go_at_call 16; exact Calls.quiet_of_same ((HQ.out _ _).mono fun _ _ ⟨h1, h2⟩ => ⟨h1, h2.symm⟩)))
              go_wp2
              go_roundw
              case rel => exact ⟨j + 1, capw, by rw [HM.out]; omega, by go_num, rfl, ht6, Lib.hid (below_drewN hbj.out _)⟩
              case measure => simp [intOf]; omega
            · obtain ⟨g, rfl⟩ : ∃ g, Aw = some ⟨g, 0, none⟩ := by
                rcases hwf.out with h | h
                · have := hwn.out h; omega
                · exact h
              have hP := Lib.hid (show Bytes wr wr.heap.size (some ⟨g, tj, none⟩) p by
                have h1 := ((hw2.out.below hbj.out).more hbj.out.size).part tj n
                rw [HF.out, Nat.zero_add] at h1
                exact h1)
              have HQ := Lib.hid (fun (N X : Nat) => same_true A3 (some ⟨g, tj, none⟩) p p n n cap3 X wr.heap.size (wr.drewN N) HN.out HN.out (HY.out.drewN N) (hP.out.drewN N) rfl)
              have ht6 := Lib.hid (show tj + n = total (ls.take (j + 1)) by rw [HT2.out, ← htj.out])
              clear HF HT2 HT3 HY hP
              go_wp2_with fail
              go_quiet ((go_at_call 16; exact Calls.quiet_of_same ((HQ.out _ _).mono fun _ _ ⟨h1, h2⟩ => ⟨h1, h2.symm⟩)))
              clear HQ
              go_wp2
              go_roundw
              case rel => exact ⟨j + 1, tj + n, by rw [HM.out]; omega, by go_num, rfl, ht6, Lib.hid (below_drewN hbj.out _)⟩
              case measure => simp [intOf]; omega
          · have hT4 : Hid (Tab wr) := Lib.hid (hT2.out.below hT2.out.pos hbj.out)
            have hb7 : Hid (Below w.heap.size w wr) := Lib.hid (hb3.out.trans (hbj.out.mono hb3.out.size))
            go_wp2_with fail
            refine (awake_any wr hT4.out).mono ?_
            rintro e W8 ⟨rfl, hb8⟩
            have hb9 : Hid (Below w.heap.size w W8) := Lib.hid (hb7.out.trans (hb8.out.mono hb7.out.size))
            clear hb7 hb8
            go_wp2
            go_ret
            exact ⟨rfl, hb9⟩
end Go.Proofs.YthobaicphdhflaaDoor
