/-
  The statement FrameSpoilt's walk: whatever frame and places, it answers true, and leaves all that was there as it was. Condition: the sum's table stands as it was laid.
-/
import Derived.Test.YtelbhlkojpnmgaaDoorFlaws
import Derived.Test.YtelbhlkojpnmgaaDoorSturn
namespace Go.Proofs.YtelbhlkojpnmgaaDoor
set_option maxRecDepth 20000
open Go.RowKit

theorem nodup5_toNat : ∀ {js : List Int}, (∀ j ∈ js, 0 ≤ j) → js.Nodup → (js.map Int.toNat).Nodup
  | [], _, _ => by simp
  | j :: r, h, hn => by
    rw [List.nodup_cons] at hn
    rw [List.map_cons, List.nodup_cons]
    refine ⟨fun hm => ?_, nodup5_toNat (fun k hk => h k (by simp [hk])) hn.2⟩
    obtain ⟨k, hk, he⟩ := List.mem_map.1 hm
    have h1 := h j (by simp)
    have h2 := h k (by simp [hk])
    exact hn.1 (by rwa [show j = k by omega])
theorem frame_spoilt {f : Fr} {js : List Int} {m : Nat} (hm : mayF f) (hl : (frameL f).length = m) (h1 : 1 ≤ js.length) (h3 : js.length ≤ 3) (h : Good m js) : Crc.sealed (Crc.flips (frameL f) (js.map Int.toNat)) = false := by
  refine frameL_spoilt hm (by simpa using h1) (by simpa using h3) (fun j hj => ?_) (nodup5_toNat (fun j hj => (h.1 j hj).1) h.2)
  obtain ⟨k, hk, rfl⟩ := List.mem_map.1 hj
  have := h.1 k hk
  rw [hl]
  omega
theorem ints_off {w w' : World} {A : Option Addr} {js : List Int} {g : Nat} (h : IntsIn w A js) (hb : Below w.heap.size w w') (hg : w.heap.size ≤ g) : Ints w' g A js := fun hn => by
  obtain ⟨b, off, e, hlt, hc⟩ := h hn
  exact ⟨b, off, e, by omega, fun k hk => (hb.cell (p := ⟨b, off + k, none⟩) hlt).trans (hc k hk)⟩
theorem same_no (A : Option Addr) (cap : Nat) (W : World) :
    Calls Tryd.prog 16 #[.agg #[.int .i64 0, .int .i64 0, .int .i64 0, .int .u64 0, .int .u64 0, .int .u64 0, .int .u64 0, .int .u64 0, .int .u64 0, .slice A 0 cap], .agg #[.int .i64 0, .int .i64 0, .int .i64 0, .int .u64 0, .int .u64 0, .int .u64 0, .int .u64 0, .int .u64 0, .int .u64 0, .slice none 0 0]] W fun en w' => en = .returned (.bool true) ∧ Hid (Below W.heap.size W w') := by
  have h := fsame_any noF noF A none 0 cap 0 0 0 rfl rfl W (fun h => by cases h) (fun h => by cases h) (Nat.zero_le _)
  rw [decide_eq_true rfl] at h
  exact h
set_option maxHeartbeats 8000000 in
theorem fspoilt_int (k s t : Int) (x c p q a e : Nat) (A : Option Addr) (n cap : Nat) (l : List UInt8) (D : Option Addr) (js : List Int) (r cap1 : Nat) (w : World) (ht : Tab w) (hn : l.length = n) (hb : Bytes w w.heap.size A l) (hr : js.length = r) (hrm : r ≤ maxLen) (hj : IntsIn w D js) :
    Calls Tryd.prog 8 #[.agg #[.int .i64 k, .int .i64 s, .int .i64 t, .int .u64 (x : Int), .int .u64 (c : Int), .int .u64 (p : Int), .int .u64 (q : Int), .int .u64 (a : Int), .int .u64 (e : Int), .slice A n cap], .slice D r cap1] w fun e w' => e = .returned (.bool true) ∧ Hid (Below w.heap.size w w') := by
  have F1 := Lib.hid (frow_new (k := k) (s := s) (t := t) (i := (x : Int)) (c := (c : Int)) (p := (p : Int)) (q := (q : Int)) (a := (a : Int)) (e := (e : Int)) (A := A) (n := n) (cap := cap) (ty := 25) w)
  have B1 := Lib.hid (fbelow_box w (.cells #[.int .i64 k, .int .i64 s, .int .i64 t, .int .u64 (x : Int), .int .u64 (c : Int), .int .u64 (p : Int), .int .u64 (q : Int), .int .u64 (a : Int), .int .u64 (e : Int), .slice A n cap] 25))
  have HT0 := Lib.hid ht
  have HTP := ht.pos
  have HN := Lib.hid hn
  have HB0 := Lib.hid hb
  have HR := Lib.hid hr
  have HJ0 := Lib.hid hj
  unfold maxLen at hrm
  clear ht hn hb hr hj
  go_enter Tryd.func8, Tryd.ntmps8
  go_wp2_with fail
  generalize w.alloc (.cells #[.int .i64 k, .int .i64 s, .int .i64 t, .int .u64 (x : Int), .int .u64 (c : Int), .int .u64 (p : Int), .int .u64 (q : Int), .int .u64 (a : Int), .int .u64 (e : Int), .slice A n cap] 25) = W1 at *
  refine (enc_at k s t x c p q a e A n cap w.heap.size l W1 (HT0.out.below HTP B1.out) HN.out (HB0.out.below B1.out) B1.out.size).mono ?_
  rintro en W2 ⟨hb2, h⟩
  have B2 := Lib.hid (fbtr B1.out hb2.out)
  have hz1 : w.heap.size ≤ W1.heap.size := B1.out.size
  clear F1 B1 hb2
  rcases h with ⟨hm, rfl⟩ | ⟨hm, g, rfl, hg, hbk⟩
  · clear hm
    go_wp2_with fail
    refine (awake5_any _ (HT0.out.below HTP B2.out)).mono ?_
    rintro en WZ ⟨rfl, hbz⟩
    go_wp2
    go_ret
    exact ⟨rfl, Lib.hid (fbtr B2.out hbz.out)⟩
  · have HM := Lib.hid hm
    have hm487 := frameL_le hm
    have hm0 : 4 ≤ (frameL ⟨k, s, t, x, c, p, q, a, e, l⟩).length := by unfold frameL; rw [Crc.seal_length]; omega
    have hgw : w.heap.size ≤ g := Nat.le_trans hz1 hg.out
    clear hm hg
    by_cases r1 : r < 1
    · go_wp2_with fail
      refine (awake5_any _ (HT0.out.below HTP B2.out)).mono ?_
      rintro en WZ ⟨rfl, hbz⟩
      go_wp2
      go_ret
      exact ⟨rfl, Lib.hid (fbtr B2.out hbz.out)⟩
    by_cases r3 : 3 < r
    · go_wp2_with fail
      refine (awake5_any _ (HT0.out.below HTP B2.out)).mono ?_
      rintro en WZ ⟨rfl, hbz⟩
      go_wp2
      go_ret
      exact ⟨rfl, Lib.hid (fbtr B2.out hbz.out)⟩
    have HS := Lib.hid (fun h : Good (frameL ⟨k, s, t, x, c, p, q, a, e, l⟩).length js => frame_spoilt HM.out rfl (by rw [HR.out]; omega) (by rw [HR.out]; omega) h)
    generalize hL : frameL ⟨k, s, t, x, c, p, q, a, e, l⟩ = L at *
    have hL1 : Hid (L.length = L.length) := Lib.hid rfl
    generalize hml : L.length = m at *
    have HML := Lib.hid hml
    clear hml hL hL1
    have HJ := Lib.hid (ints_off HJ0.out B2.out hgw)
    have HK := Lib.hid hbk.out
    clear hbk HJ0 HB0 HN HM
    have m8 : (0 : Int) ≤ (m : Int) := by omega
    have q4 : ((m : Int) == 0) = false := by rw [beq_eq_false_iff_ne]; omega
    have q2 : decide ((r : Int) < 1) = false := decide_eq_false (by omega)
    have q3 : decide ((3 : Int) < (r : Int)) = false := decide_eq_false (by omega)
    go_wp2_with fail
    go_loopw [7] (fun i wr => ∃ k : Nat, k ≤ r ∧ i = .int .i64 k ∧ Hid (Good m (js.take k)) ∧ Hid (Only (fun j => j = g) W2 wr) ∧ Hid (Blk8 wr g (Crc.flips L ((js.take k).map Int.toNat)))) (fun i _ => r - (intOf i).toNat)
    case atStart => exact ⟨0, by omega, rfl, Lib.hid (by simpa using good_none m), Lib.hid (Only.refl _ _), HK⟩
    case round =>
      obtain ⟨k, hk, rfl, hgood, hon, hkb⟩ := hrel
      have BW := Lib.hid (hon.out.below B2.out (fun j hj => by omega) B2.out.size)
      by_cases hlt : k < r
      · obtain ⟨b, off, rfl, hbg, hc0⟩ := HJ.out (by rw [HR.out]; omega)
        have hc : ∀ k, k < js.length → wr.cell? ⟨b, off + k, none⟩ = some (.int .i64 (js.getD k 0)) := fun k hk => by
          have h := hc0 k hk
          have hl2 := World.block_lt_of_cell? _ _ h
          have hh := hon.out.block b hl2 hbg
          unfold World.cell? at h ⊢
          simp only at h ⊢
          rw [hh]
          exact h
        have hcell := hc k (by rw [HR.out]; exact hlt)
        have HC := Lib.hid hc
        have HBG := Lib.hid hbg
        clear hc hbg hc0
        have HG := Lib.hid (fun h1 h2 h3 => good_snoc (m := m) (js := js) (k := k) (by rw [HR.out]; exact hlt) hgood.out h1 h2 h3)
        have HFS := Lib.hid (flips_succ L js k (by rw [HR.out]; exact hlt))
        have HLn := Lib.hid (show (Crc.flips L ((js.take k).map Int.toNat)).length = m by rw [Crc.flips_length]; exact HML.out)
        generalize hj : js.getD k 0 = j at hcell HG HFS
        by_cases h1 : j < 0
        · clear hj HG
          go_wp2_with fail
          refine (awake5_any _ (HT0.out.below HTP BW.out)).mono ?_
          rintro en WZ ⟨rfl, hbz⟩
          go_wp2
          go_ret
          exact ⟨rfl, Lib.hid (fbtr BW.out hbz.out)⟩
        by_cases h2 : 8 * (m : Int) ≤ j
        · clear hj HG
          go_wp2_with fail
          refine (awake5_any _ (HT0.out.below HTP BW.out)).mono ?_
          rintro en WZ ⟨rfl, hbz⟩
          go_wp2
          go_ret
          exact ⟨rfl, Lib.hid (fbtr BW.out hbz.out)⟩
        have HJK := Lib.hid hj
        clear hj
        have HG2 := Lib.hid (HG.out (by omega) (by omega))
        clear HG
        have k0 : (0 : Int) ≤ (k : Int) := by omega
        have kn : (k : Int) < (r : Int) := by omega
        go_wp2_with fail
        go_loopw [8] (fun c wr' => ∃ t q' : Nat, t ≤ k ∧ c = .int .i64 t ∧ wr' = wr.drewN q' ∧ Hid (∀ s, s < t → js.getD s 0 ≠ j)) (fun c _ => k - (intOf c).toNat)
        case atStart => exact ⟨0, 0, by omega, rfl, rfl, Lib.hid (fun s hs => absurd hs (by omega))⟩
        case round =>
          obtain ⟨t, q', ht, rfl, rfl, hne⟩ := hrel
          by_cases htk : t < k
          · have hct := HC.out t (by rw [HR.out]; omega)
            have t0 : (0 : Int) ≤ (t : Int) := by omega
            have tn : (t : Int) < (r : Int) := by omega
            have HNE := Lib.hid (fun (h : js.getD t 0 ≠ j) => show ∀ s, s < t + 1 → js.getD s 0 ≠ j from fun s hs => by
              rcases Nat.lt_or_ge s t with h1 | h1
              · exact hne.out s h1
              · obtain rfl : s = t := by omega
                exact h)
            generalize js.getD t 0 = jt at hct HNE
            by_cases hq : jt = j
            · subst hq
              go_wp2_with fail
              go_quiet (fail)
              have BQ : Hid (∀ N, Below w.heap.size w (wr.drewN N)) := Lib.hid fun N => ⟨BW.out.os, BW.out.tape, BW.out.output, BW.out.size, BW.out.block⟩
              go_wp2_with fail
              refine (awake5_any _ (HT0.out.below HTP (BQ.out _))).mono ?_
              rintro en WZ ⟨rfl, hbz⟩
              go_wp2
              go_ret
              exact ⟨rfl, Lib.hid (fbtr (BQ.out _) hbz.out)⟩
            · have hqb : (jt == j) = false := by simpa using hq
              have HNE2 := Lib.hid (HNE.out hq)
              clear HNE hq
              go_wp2_with fail
              go_quiet (fail)
              go_wp2
              go_roundw
              case rel => exact ⟨t + 1, _, by omega, by go_num, rfl, HNE2⟩
              case measure => simp [intOf]; omega
          · obtain rfl : t = k := by omega
            have HG3 := Lib.hid (HG2.out (fun s hs => hne.out s hs))
            have hkb' : Hid (Blk8 (wr.drewN q') g (Crc.flips L ((js.take t).map Int.toNat))) := Lib.hid (hkb.out.drewN q')
            have hon' : Hid (Only (fun j => j = g) W2 (wr.drewN q')) := Lib.hid ⟨hon.out.os, hon.out.tape, hon.out.output, hon.out.size, hon.out.block⟩
            have hcell' : (wr.drewN q').cell? ⟨b, off + t, none⟩ = some (.int .i64 j) := hcell
            clear hkb hon hcell HC BW hgood htk ht hne hk HG2
            generalize wr.drewN q' = w4 at *
            generalize Crc.flips L ((js.take t).map Int.toNat) = M at hkb' HFS HLn
            obtain ⟨jn, rfl⟩ := Int.eq_ofNat_of_zero_le (show 0 ≤ j by omega)
            rw [Int.toNat_natCast] at HFS
            have E1 := Lib.hid (flip_byte M jn)
            have E2 := Lib.hid (show Crc.flip M jn = M.set (jn / 8) (M.getD (jn / 8) 0 ^^^ UInt8.ofNat (2 ^ (jn % 8))) from rfl)
            have e1 : IntKind.i64.wrap ((jn : Int) / 8) = ((jn / 8 : Nat) : Int) := by rw [IntWalk.i64_in _ (by omega)]; omega
            have e2 : (jn : Int).tmod 8 = ((jn % 8 : Nat) : Int) := by rw [Int.tmod_eq_emod_of_nonneg (by omega)]; omega
            have hq8 : jn / 8 < m := by omega
            have hr8 : jn % 8 < 8 := by omega
            generalize jn / 8 = d at E1 E2 e1 hq8
            generalize jn % 8 = rr at E1 E2 e2 hr8
            have hcx := hkb'.out.cell (k := d) (by rw [HLn.out]; exact hq8)
            have hfz := hkb'.out.frozen d
            have hx := at8_lt M d
            have C1 := Lib.hid (hkb'.out.set_ d (M.getD d 0 ^^^ UInt8.ofNat (2 ^ rr)))
            generalize at8 M d = xx at hcx hx E1
            have E3 := Lib.hid (pow_wrap rr hr8)
            have e4 := E3.out
            have e5 := u8_xor_nat xx (2 ^ rr) hx (pow_lt rr hr8)
            generalize M.getD d 0 ^^^ UInt8.ofNat (2 ^ rr) = y at E1 E2 C1
            rw [← E1.out] at e5
            generalize 2 ^ rr = pw at e4 e5
            have j0 : (0 : Int) ≤ (jn : Int) := by omega
            have j1 : (d : Int) < (m : Int) := by omega
            have j2 : (0 : Int) ≤ (d : Int) := by omega
            have j3 : (0 : Int) ≤ (rr : Int) := by omega
            clear h1 h2
            go_wp2_with fail
            go_region
            have C2 : Hid (Only (fun j => j = g) W2 (w4.setCell ⟨g, d, none⟩ (.int .u8 ((y.toNat : Nat) : Int)))) := Lib.hid (hon'.out.setCell (p := ⟨g, d, none⟩) (.inl rfl) _)
            have HS2 := Lib.hid (show Crc.flips L ((js.take (t + 1)).map Int.toNat) = M.set d y by rw [HFS.out, E2.out])
            clear hcell' hcx hfz e1 e2 e4 e5 HFS E1 E2 E3
            go_wp2
            go_roundw
            case rel => exact ⟨t + 1, by omega, by go_num, HG3, Lib.hid ⟨C2.out.os, C2.out.tape, C2.out.output, C2.out.size, C2.out.block⟩, Lib.hid (by rw [HS2.out]; exact C1.out)⟩
            case measure => simp [intOf]; omega
      · obtain rfl : k = r := by omega
        have HGD := Lib.hid (show Good m js by have := hgood.out; rwa [List.take_of_length_le (by rw [HR.out]; omega)] at this)
        have HU := Lib.hid (readF_unsealed (HS.out HGD.out))
        have HK2 : Hid (Blk8 wr g (Crc.flips L (js.map Int.toNat))) := Lib.hid (by have := hkb.out; rwa [List.take_of_length_le (by rw [HR.out]; omega)] at this)
        have HLn := Lib.hid (show (Crc.flips L (js.map Int.toNat)).length = m by rw [Crc.flips_length]; exact HML.out)
        generalize Crc.flips L (js.map Int.toNat) = M at HU HK2 HLn
        clear hgood hkb HS HJ HGD HK
        go_wp2_with fail
        refine (dec_any (some ⟨g, 0, none⟩) M m m _ (HT0.out.below HTP BW.out) HLn.out (HK2.out.all.more HK2.out.lt) (Nat.le_refl _) (by omega)).mono ?_
        rintro en W5 h
        obtain ⟨A5, c5, rfl, hb5⟩ := dec_none HU.out h
        clear h
        have G6 := frow_new (k := 0) (s := 0) (t := 0) (i := 0) (c := 0) (p := 0) (q := 0) (a := 0) (e := 0) (A := A5) (n := 0) (cap := c5) (ty := 25) W5
        have B6 := Lib.hid (fbtr BW.out (fbtr hb5.out (fbelow_box W5 (.cells #[.int .i64 0, .int .i64 0, .int .i64 0, .int .u64 0, .int .u64 0, .int .u64 0, .int .u64 0, .int .u64 0, .int .u64 0, .slice A5 0 c5] 25))))
        obtain ⟨z0, z1, z2, z3, z4, z5, z6, z7, z8, z9⟩ := G6.box
        go_wp2_with fail
        generalize W5.alloc (.cells #[.int .i64 0, .int .i64 0, .int .i64 0, .int .u64 0, .int .u64 0, .int .u64 0, .int .u64 0, .int .u64 0, .int .u64 0, .slice A5 0 c5] 25) = W6 at *
        refine (same_no A5 c5 W6).mono ?_
        rintro en W7 ⟨rfl, hb7⟩
        have B7 := Lib.hid (fbtr B6.out hb7.out)
        go_wp2_with fail
        refine (awake5_any _ (HT0.out.below HTP B7.out)).mono ?_
        rintro en WZ ⟨rfl, hbz⟩
        go_wp2
        go_ret
        exact ⟨rfl, Lib.hid (fbtr B7.out hbz.out)⟩
theorem fspoilt_walk (f : Fr) (A : Option Addr) (cap : Nat) (D : Option Addr) (js : List Int) (cap1 : Nat) (w : World) (ht : Tab w) (hb : Bytes w w.heap.size A f.body) (hrm : js.length ≤ maxLen) (hj : IntsIn w D js) :
    Calls Tryd.prog 8 #[frV f A f.body.length cap, .slice D js.length cap1] w fun e w' => e = .returned (.bool true) ∧ Hid (Below w.heap.size w w') := fspoilt_int _ _ _ _ _ _ _ _ _ A _ cap f.body D js _ cap1 w ht rfl hb rfl hrm hj
end Go.Proofs.YtelbhlkojpnmgaaDoor
