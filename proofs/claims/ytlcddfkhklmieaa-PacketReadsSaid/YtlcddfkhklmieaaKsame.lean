/-
  Whether two packets are the same, by the document's answer. For at most 100,000 heads and 2^40 peers.
-/
import Derived.Test.YtlcddfkhklmieaaKheads
import Derived.Test.YtlcddfkhklmieaaKsadv
import Derived.Test.YtlcddfkhklmieaaGa
namespace Go.Proofs.Ytlcddfkhklmieaa
set_option maxRecDepth 20000
open Go.RowKit

theorem same_strK (l l' : List UInt8) : ((⟨l.toArray⟩ : ByteArray).toList == (⟨l'.toArray⟩ : ByteArray).toList) = decide (l = l') := by
  rw [ByteArray.toList_eq, ByteArray.toList_eq, Bool.eq_iff_iff]
  simp
theorem heads_all {l l' : List Hd} (hn : l.length = l'.length) (h : ∀ j, j < l.length → atH l j = atH l' j) : l = l' := by
  apply List.ext_getElem hn
  intro i h1 h2
  have := h i h1
  simpa [atH, List.getD, h1, h2] using this
set_option maxHeartbeats 16000000 in
theorem rksame_any (k s t h x y : Int) (z : Nat) (H A P : Option Addr) (nh ch n cap np cp : Nat) (k' s' t' h' x' y' : Int) (z' : Nat) (H' A' P' : Option Addr) (nh' ch' n' cap' np' cp' : Nat) (l l' : List Hd) (bd bd' : List UInt8) (ps ps' : List Life) (B : Nat) (w : World)
    (hl : Hds w B H l) (hl' : Hds w B H' l') (hb : Bytes w B A bd) (hb' : Bytes w B A' bd') (hp : Lives w B P ps) (hp' : Lives w B P' ps') (hB : B ≤ w.heap.size) (hn : l.length = nh) (hn' : l'.length = nh') (hbn : bd.length = n) (hbn' : bd'.length = n') (hpn : ps.length = np) (hpn' : ps'.length = np') (hx1 : nh ≤ 100000) (hx3 : np ≤ 100000) (hx4 : np' ≤ 100000) :
    Calls Try.prog 17 #[.agg #[.int .i64 k, .int .i64 s, .int .u64 t, .int .i64 h, .slice H nh ch, .slice A n cap, .int .i64 x, .int .u64 y, .int .u64 (z : Int), .slice P np cp], .agg #[.int .i64 k', .int .i64 s', .int .u64 t', .int .i64 h', .slice H' nh' ch', .slice A' n' cap', .int .i64 x', .int .u64 y', .int .u64 (z' : Int), .slice P' np' cp']] w fun e w' => e = .returned (.bool (decide ((⟨k, (s, t), h, l, bd, (x, y), z, ps⟩ : Pk) = ⟨k', (s', t'), h', l', bd', (x', y'), z', ps'⟩))) ∧ Hid (Below w.heap.size w w') := by
  have X0 := kbox_new (k := k) (s := s) (t := t) (h := h) (x := x) (y := y) (z := (z:Int)) (H := H) (A := A) (P := P) (nh := nh) (ch := ch) (n := n) (cap := cap) (np := np) (cp := cp) (w := w) 31
  have hz : (w.alloc (.cells #[.int .i64 k, .int .i64 s, .int .u64 t, .int .i64 h, .slice H nh ch, .slice A n cap, .int .i64 x, .int .u64 y, .int .u64 (z : Int), .slice P np cp] 31)).heap.size = w.heap.size + 1 := by simp
  have Y0 := kbox_new (k := k') (s := s') (t := t') (h := h') (x := x') (y := y') (z := (z':Int)) (H := H') (A := A') (P := P') (nh := nh') (ch := ch') (n := n') (cap := cap') (np := np') (cp := cp') (w := (w.alloc (.cells #[.int .i64 k, .int .i64 s, .int .u64 t, .int .i64 h, .slice H nh ch, .slice A n cap, .int .i64 x, .int .u64 y, .int .u64 (z : Int), .slice P np cp] 31))) 31
  rw [hz] at Y0
  have X := Lib.hid (X0.below (mbelow_box _ (.cells #[.int .i64 k', .int .i64 s', .int .u64 t', .int .i64 h', .slice H' nh' ch', .slice A' n' cap', .int .i64 x', .int .u64 y', .int .u64 (z' : Int), .slice P' np' cp'] 31)))
  have Y := Lib.hid Y0
  have B2 := Lib.hid (mtr (mbelow_box w (.cells #[.int .i64 k, .int .i64 s, .int .u64 t, .int .i64 h, .slice H nh ch, .slice A n cap, .int .i64 x, .int .u64 y, .int .u64 (z : Int), .slice P np cp] 31)) (mbelow_box _ (.cells #[.int .i64 k', .int .i64 s', .int .u64 t', .int .i64 h', .slice H' nh' ch', .slice A' n' cap', .int .i64 x', .int .u64 y', .int .u64 (z' : Int), .slice P' np' cp'] 31)))
  have HP := Lib.hid hp
  have HP' := Lib.hid hp'
  have HN := Lib.hid hn
  have HN' := Lib.hid hn'
  have HNP := Lib.hid hpn
  have HNP' := Lib.hid hpn'
  have HL := Lib.hid (hl.below (B2.out.mono hB))
  have HL' := Lib.hid (hl'.below (B2.out.mono hB))
  have C1 := Lib.hid (conv_str cap (hb.below (B2.out.mono hB)) hbn)
  have C2 := Lib.hid (conv_str cap' (hb'.below (B2.out.mono hB)) hbn')
  have HE := Lib.hid (same_strK bd bd')
  generalize (⟨bd.toArray⟩ : ByteArray) = sa at C1 HE
  generalize (⟨bd'.toArray⟩ : ByteArray) = sb at C2 HE
  generalize hd : decide ((⟨k, (s, t), h, l, bd, (x, y), z, ps⟩ : Pk) = ⟨k', (s', t'), h', l', bd', (x', y'), z', ps'⟩) = r
  have HD := Lib.hid hd
  clear hd X0 Y0 hz hp hp' hn hn' hpn hpn' hl hl' hb hb' hbn hbn'
  go_enter Try.func17, Try.ntmps17
  obtain ⟨k0, k1, k2, k3, k4, k5, k6, k7, k8, k9⟩ := X.out
  obtain ⟨j0, j1, j2, j3, j4, j5, j6, j7, j8, j9⟩ := Y.out
  have c1 := C1.out
  have c2 := C2.out
  clear X Y C1 C2
  have BW0 := B2
  by_cases hk : k = k'
  · have hkb : (k == k') = true := by simp [hk]
    have hkc : (k != k') = false := by simp [hk]
    have H_hk := Lib.hid hk
    clear hk
    by_cases hs : s = s'
    · have hsb : (s == s') = true := by simp [hs]
      have hsc : (s != s') = false := by simp [hs]
      have H_hs := Lib.hid hs
      clear hs
      by_cases ht : t = t'
      · have htb : (t == t') = true := by simp [ht]
        have htc : (t != t') = false := by simp [ht]
        have H_ht := Lib.hid ht
        clear ht
        by_cases hh : h = h'
        · have hhb : (h == h') = true := by simp [hh]
          have hhc : (h != h') = false := by simp [hh]
          have H_hh := Lib.hid hh
          clear hh
          by_cases hnh' : (nh : Int) = (nh' : Int)
          · have hnh'b : ((nh : Int) == (nh' : Int)) = true := by simp [hnh']
            have hnh'c : ((nh : Int) != (nh' : Int)) = false := by simp [hnh']
            have H_hnh' := Lib.hid hnh'
            clear hnh'
            by_cases hbd : bd = bd'
            · have hq : (sa.toList == sb.toList) = true := by rw [HE.out]; exact decide_eq_true hbd
              have H_hbd := Lib.hid hbd
              clear hbd
              go_wp2_with fail
              clear c1 c2 hq
              generalize ((w.alloc (.cells #[.int .i64 k, .int .i64 s, .int .u64 t, .int .i64 h, .slice H nh ch, .slice A n cap, .int .i64 x, .int .u64 y, .int .u64 (z : Int), .slice P np cp] 31)).alloc (.cells #[.int .i64 k', .int .i64 s', .int .u64 t', .int .i64 h', .slice H' nh' ch', .slice A' n' cap', .int .i64 x', .int .u64 y', .int .u64 (z' : Int), .slice P' np' cp'] 31)) = W2 at *
              have BW : Hid (∀ q, Hid (Below w.heap.size w (W2.drewN q))) := Lib.hid (fun q => Lib.hid ⟨B2.out.os, B2.out.tape, B2.out.output, B2.out.size, B2.out.block⟩)
              go_loopw [5] (fun iv wr => ∃ i q : Nat, i ≤ nh ∧ iv = .int .i64 (i : Nat) ∧ wr = W2.drewN q ∧ Hid (∀ j, j < i → atH l j = atH l' j)) (fun iv _ => nh - (intOf iv).toNat)
              case atStart => exact ⟨0, 0, by omega, rfl, rfl, Lib.hid fun j hj => by omega⟩
              case round =>
                obtain ⟨i, q, hi, rfl, rfl, hall⟩ := hrel
                by_cases hlt : i < nh
                · have hil : i < l.length := by rw [HN.out]; exact hlt
                  have hil' : i < l'.length := by rw [HN'.out]; have := H_hnh'.out; omega
                  have g0 : (0 : Int) ≤ (i : Int) := by omega
                  have g1 : (i : Int) < (nh : Int) := by omega
                  have g2 : (i : Int) < (nh' : Int) := by have := H_hnh'.out; omega
                  obtain ⟨b, off, rfl, hbb, hcs⟩ := HL.out (by omega)
                  obtain ⟨b', off', rfl, hbb', hcs'⟩ := HL'.out (by omega)
                  obtain ⟨c0, c1, c2, c3⟩ := hcs i hil
                  obtain ⟨e0, e1, e2, e3⟩ := hcs' i hil'
                  have HA := Lib.hid (fun e : atH l i = atH l' i => show ∀ j, j < i + 1 → atH l j = atH l' j from fun j hj => by
                    by_cases hji : j = i
                    · subst hji; exact e
                    · exact hall.out j (by omega))
                  have HNO := Lib.hid (fun (e : atH l i ≠ atH l' i) (hh : l = l') => e (by rw [hh]))
                  clear hcs hcs'
                  generalize atH l i = hd at *
                  generalize atH l' i = hd' at *
                  obtain ⟨d, cn, sq, ic⟩ := hd
                  obtain ⟨d', cn', sq', ic'⟩ := hd'
                  simp only at c0 c1 c2 c3 e0 e1 e2 e3
                  by_cases fd : d = d'
                  · have fdb : (d == d') = true := by simp [fd]
                    have fdc : (d != d') = false := by simp [fd]
                    have H_fd := Lib.hid fd
                    clear fd
                    by_cases fc : (cn : Int) = (cn' : Int)
                    · have fcb : ((cn : Int) == (cn' : Int)) = true := by simp [fc]
                      have fcc : ((cn : Int) != (cn' : Int)) = false := by simp [fc]
                      have H_fc := Lib.hid fc
                      clear fc
                      by_cases fs : (sq : Int) = (sq' : Int)
                      · have fsb : ((sq : Int) == (sq' : Int)) = true := by simp [fs]
                        have fsc : ((sq : Int) != (sq' : Int)) = false := by simp [fs]
                        have H_fs := Lib.hid fs
                        clear fs
                        by_cases fi : (ic : Int) = (ic' : Int)
                        · have fib : ((ic : Int) == (ic' : Int)) = true := by simp [fi]
                          have fic : ((ic : Int) != (ic' : Int)) = false := by simp [fi]
                          have H_fi := Lib.hid fi
                          clear fi
                          have HA2 := Lib.hid (HA.out (by have a1 := H_fd.out; have a2 := H_fc.out; have a3 := H_fs.out; have a4 := H_fi.out; rw [a1, show cn = cn' by omega, show sq = sq' by omega, show ic = ic' by omega]))
                          clear HA HNO hall
                          go_wp2_with fail
                          go_quiet (fail)
                          go_wp2
                          go_roundw
                          case rel => exact ⟨i + 1, q + nq, by omega, by go_num, rfl, HA2⟩
                          case measure => simp [intOf]; omega
                        · have fib : ((ic : Int) == (ic' : Int)) = false := by rw [beq_eq_false_iff_ne]; exact fi
                          have fic : ((ic : Int) != (ic' : Int)) = true := by rw [bne_iff_ne]; exact fi
                          have : r = false := by rw [← HD.out]; exact decide_eq_false (fun hh => HNO.out (fun e => fi (by have := congrArg Hd.inc e; simp only at this; omega)) (by injection hh))
                          subst this
                          clear HD HA HNO hall fi
                          go_wp2_with fail
                          go_quiet (fail)
                          go_wp2
                          go_ret
                          exact ⟨rfl, Lib.hid ⟨B2.out.os, B2.out.tape, B2.out.output, B2.out.size, B2.out.block⟩⟩
                      · have fsb : ((sq : Int) == (sq' : Int)) = false := by rw [beq_eq_false_iff_ne]; exact fs
                        have fsc : ((sq : Int) != (sq' : Int)) = true := by rw [bne_iff_ne]; exact fs
                        have : r = false := by rw [← HD.out]; exact decide_eq_false (fun hh => HNO.out (fun e => fs (by have := congrArg Hd.seq e; simp only at this; omega)) (by injection hh))
                        subst this
                        clear HD HA HNO hall fs
                        go_wp2_with fail
                        go_quiet (fail)
                        go_wp2
                        go_ret
                        exact ⟨rfl, Lib.hid ⟨B2.out.os, B2.out.tape, B2.out.output, B2.out.size, B2.out.block⟩⟩
                    · have fcb : ((cn : Int) == (cn' : Int)) = false := by rw [beq_eq_false_iff_ne]; exact fc
                      have fcc : ((cn : Int) != (cn' : Int)) = true := by rw [bne_iff_ne]; exact fc
                      have : r = false := by rw [← HD.out]; exact decide_eq_false (fun hh => HNO.out (fun e => fc (by have := congrArg Hd.conn e; simp only at this; omega)) (by injection hh))
                      subst this
                      clear HD HA HNO hall fc
                      go_wp2_with fail
                      go_quiet (fail)
                      go_wp2
                      go_ret
                      exact ⟨rfl, Lib.hid ⟨B2.out.os, B2.out.tape, B2.out.output, B2.out.size, B2.out.block⟩⟩
                  · have fdb : (d == d') = false := by rw [beq_eq_false_iff_ne]; exact fd
                    have fdc : (d != d') = true := by rw [bne_iff_ne]; exact fd
                    have : r = false := by rw [← HD.out]; exact decide_eq_false (fun hh => HNO.out (fun e => fd (congrArg Hd.dst e)) (by injection hh))
                    subst this
                    clear HD HA HNO hall fd
                    go_wp2_with fail
                    go_quiet (fail)
                    go_wp2
                    go_ret
                    exact ⟨rfl, Lib.hid ⟨B2.out.os, B2.out.tape, B2.out.output, B2.out.size, B2.out.block⟩⟩
                · obtain rfl : i = nh := by omega
                  have g1 : ¬ (i : Int) < (i : Int) := by omega
                  have HHD := Lib.hid (heads_all (l := l) (l' := l') (by rw [HN.out, HN'.out]; have := H_hnh'.out; omega) (by rw [HN.out]; exact hall.out))
                  have HS := Lib.hid (rsadv_any x y (z : Int) P np cp x' y' (z' : Int) P' np' cp' B ps ps' (W2.drewN q) (HP.out.below ((BW.out q).out.mono hB)) (HP'.out.below ((BW.out q).out.mono hB)) (Nat.le_trans hB (BW.out q).out.size) HNP.out HNP'.out (by omega) (by omega))
                  go_wp2_with fail
                  refine HS.out.mono ?_
                  rintro en W5 ⟨rfl, hb5⟩
                  generalize hdd : decide ((x, y) = (x', y') ∧ (z : Int) = z' ∧ ps = ps') = rr
                  have : r = rr := by
                    rw [← hdd, ← HD.out, Bool.eq_iff_iff, decide_eq_true_iff, decide_eq_true_iff, Pk.mk.injEq]
                    exact ⟨fun hh => ⟨hh.2.2.2.2.2.1, by have := hh.2.2.2.2.2.2.1; omega, hh.2.2.2.2.2.2.2⟩, fun hh => ⟨H_hk.out, by rw [H_hs.out, H_ht.out], H_hh.out, HHD.out, H_hbd.out, hh.1, by have := hh.2.1; omega, hh.2.2⟩⟩
                  subst this
                  clear HD hdd
                  go_wp2
                  go_ret
                  exact ⟨rfl, Lib.hid (mtr (BW.out q).out hb5.out)⟩
            · have hq : (sa.toList == sb.toList) = false := by rw [HE.out]; exact decide_eq_false hbd
              have N_hbd := Lib.hid hbd
              clear hbd
              have : r = false := by rw [← HD.out]; exact decide_eq_false (fun hh => N_hbd.out (by injection hh))
              subst this
              clear HD
              go_wp2
              go_ret
              exact ⟨rfl, BW0⟩
          · have hnh'b : ((nh : Int) == (nh' : Int)) = false := by rw [beq_eq_false_iff_ne]; exact hnh'
            have hnh'c : ((nh : Int) != (nh' : Int)) = true := by rw [bne_iff_ne]; exact hnh'
            have N_hnh' := Lib.hid hnh'
            clear hnh'
            have : r = false := by rw [← HD.out]; exact decide_eq_false (fun hh => N_hnh'.out (by rw [← HN.out, ← HN'.out, show l = l' from by injection hh]))
            subst this
            clear HD
            go_wp2
            go_ret
            exact ⟨rfl, BW0⟩
        · have hhb : (h == h') = false := by rw [beq_eq_false_iff_ne]; exact hh
          have hhc : (h != h') = true := by rw [bne_iff_ne]; exact hh
          have N_hh := Lib.hid hh
          clear hh
          have : r = false := by rw [← HD.out]; exact decide_eq_false (fun hh => N_hh.out (by injection hh))
          subst this
          clear HD
          go_wp2
          go_ret
          exact ⟨rfl, BW0⟩
      · have htb : (t == t') = false := by rw [beq_eq_false_iff_ne]; exact ht
        have htc : (t != t') = true := by rw [bne_iff_ne]; exact ht
        have N_ht := Lib.hid ht
        clear ht
        have : r = false := by rw [← HD.out]; exact decide_eq_false (fun hh => N_ht.out (by injection hh with _ h2; exact congrArg Prod.snd h2))
        subst this
        clear HD
        go_wp2
        go_ret
        exact ⟨rfl, BW0⟩
    · have hsb : (s == s') = false := by rw [beq_eq_false_iff_ne]; exact hs
      have hsc : (s != s') = true := by rw [bne_iff_ne]; exact hs
      have N_hs := Lib.hid hs
      clear hs
      have : r = false := by rw [← HD.out]; exact decide_eq_false (fun hh => N_hs.out (by injection hh with _ h2; exact congrArg Prod.fst h2))
      subst this
      clear HD
      go_wp2
      go_ret
      exact ⟨rfl, BW0⟩
  · have hkb : (k == k') = false := by rw [beq_eq_false_iff_ne]; exact hk
    have hkc : (k != k') = true := by rw [bne_iff_ne]; exact hk
    have N_hk := Lib.hid hk
    clear hk
    have : r = false := by rw [← HD.out]; exact decide_eq_false (fun hh => N_hk.out (by injection hh))
    subst this
    clear HD
    go_wp2
    go_ret
    exact ⟨rfl, BW0⟩
end Go.Proofs.Ytlcddfkhklmieaa
