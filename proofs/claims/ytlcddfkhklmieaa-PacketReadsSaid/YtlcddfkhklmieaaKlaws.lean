/-
  What the statements' helpers come to: long; a packet's lists in memory; what Decode answers, by cases. No condition.
-/
import Derived.Test.YtlcddfkhklmieaaKenc
import Derived.Test.YtlcddfkhklmieaaKdec
import Derived.Test.YtlcddfkhklmieaaKsame
import Derived.Test.YtlcddfkhklmieaaKmay
import Derived.Test.YtlcddfkhklmieaaInbytes
namespace Go.Proofs.Ytlcddfkhklmieaa
set_option maxRecDepth 20000
open Go.RowKit

set_option maxHeartbeats 2000000 in
theorem long_any (k s t h x y : Int) (z : Nat) (H A P : Option Addr) (nh ch n cap np cp : Nat) (w : World) :
    Calls Try.prog 10 #[.agg #[.int .i64 k, .int .i64 s, .int .u64 t, .int .i64 h, .slice H nh ch, .slice A n cap, .int .i64 x, .int .u64 y, .int .u64 (z : Int), .slice P np cp]] w fun e w' => e = .returned (.bool (decide (1000 < nh ∨ 300 < np ∨ 65536 < n))) ∧ Hid (Below w.heap.size w w') := by
  have K1 := Lib.hid (kbox_new (k := k) (s := s) (t := t) (h := h) (x := x) (y := y) (z := (z : Int)) (H := H) (A := A) (P := P) (nh := nh) (ch := ch) (n := n) (cap := cap) (np := np) (cp := cp) (w := w) 31)
  have B1 := Lib.hid (kbelow_box w (.cells #[.int .i64 k, .int .i64 s, .int .u64 t, .int .i64 h, .slice H nh ch, .slice A n cap, .int .i64 x, .int .u64 y, .int .u64 (z : Int), .slice P np cp] 31))
  generalize hd : decide (1000 < nh ∨ 300 < np ∨ 65536 < n) = r
  have HD := Lib.hid hd
  clear hd
  go_enter Try.func10, Try.ntmps10
  obtain ⟨k0, k1, k2, k3, k4, k5, k6, k7, k8, k9⟩ := K1.out
  generalize hW : w.alloc (.cells #[.int .i64 k, .int .i64 s, .int .u64 t, .int .i64 h, .slice H nh ch, .slice A n cap, .int .i64 x, .int .u64 y, .int .u64 (z : Int), .slice P np cp] 31) = W1 at *
  by_cases ha : (1000 : Int) < (nh : Int)
  · have hab : decide ((1000 : Int) < (nh : Int)) = true := decide_eq_true ha
    have q_ha := Lib.hid ha
    clear ha
    have : r = true := by rw [← HD.out]; exact decide_eq_true (by have := q_ha.out; omega)
    subst this
    clear HD
    go_wp2
    go_ret
    exact ⟨by first | rfl | (simp; omega) | simp_all, B1⟩
  · have hab : decide ((1000 : Int) < (nh : Int)) = false := decide_eq_false ha
    have q_ha := Lib.hid ha
    clear ha
    by_cases hb : (300 : Int) < (np : Int)
    · have hbb : decide ((300 : Int) < (np : Int)) = true := decide_eq_true hb
      have q_hb := Lib.hid hb
      clear hb
      have : r = true := by rw [← HD.out]; exact decide_eq_true (by have := q_ha.out; have := q_hb.out; omega)
      subst this
      clear HD
      go_wp2
      go_ret
      exact ⟨by first | rfl | (simp; omega) | simp_all, B1⟩
    · have hbb : decide ((300 : Int) < (np : Int)) = false := decide_eq_false hb
      have q_hb := Lib.hid hb
      clear hb
      by_cases hc : (65536 : Int) < (n : Int)
      · have hcb : decide ((65536 : Int) < (n : Int)) = true := decide_eq_true hc
        have q_hc := Lib.hid hc
        clear hc
        have : r = true := by rw [← HD.out]; exact decide_eq_true (by have := q_ha.out; have := q_hb.out; have := q_hc.out; omega)
        subst this
        clear HD
        go_wp2
        go_ret
        exact ⟨by first | rfl | (simp; omega) | simp_all, B1⟩
      · have hcb : decide ((65536 : Int) < (n : Int)) = false := decide_eq_false hc
        have q_hc := Lib.hid hc
        clear hc
        have : r = false := by rw [← HD.out]; exact decide_eq_false (by have := q_ha.out; have := q_hb.out; have := q_hc.out; omega)
        subst this
        clear HD
        go_wp2
        go_ret
        exact ⟨by first | rfl | (simp; omega) | simp_all, B1⟩
/-- A packet's lists, below B. -/
structure PIn (W : World) (B : Nat) (hs : List Hd) (bd : List UInt8) (ps : List Life) (H : Option Addr) (nh : Nat) (A : Option Addr) (n cap : Nat) (P : Option Addr) (np cp : Nat) : Prop where
  heads : Hds W B H hs
  body : Bytes W B A bd
  peers : Lives W B P ps
  hlen : hs.length = nh
  blen : bd.length = n
  plen : ps.length = np
  bcap : A = none → cap = 0
  pcap : P = none → cp = 0
  pos : ∀ p ∈ ps, 0 ≤ p.2
theorem PIn.below {W W' : World} {B : Nat} {hs : List Hd} {bd : List UInt8} {ps : List Life} {H A P : Option Addr} {nh n cap np cp : Nat} (h : PIn W B hs bd ps H nh A n cap P np cp) (hb : Below B W W') : PIn W' B hs bd ps H nh A n cap P np cp :=
  ⟨h.heads.below hb, h.body.below hb, h.peers.below hb, h.hlen, h.blen, h.plen, h.bcap, h.pcap, h.pos⟩
theorem PIn.more {W : World} {B B' : Nat} {hs : List Hd} {bd : List UInt8} {ps : List Life} {H A P : Option Addr} {nh n cap np cp : Nat} (h : PIn W B hs bd ps H nh A n cap P np cp) (hb : B ≤ B') : PIn W B' hs bd ps H nh A n cap P np cp :=
  ⟨h.heads.more hb, h.body.more hb, h.peers.more hb, h.hlen, h.blen, h.plen, h.bcap, h.pcap, h.pos⟩
theorem PkM.pin {W : World} {base : Nat} {p : Pk} {H A P : Option Addr} {ch cb cp : Nat} (h : PkM W base p H ch A cb P cp) (hpos : ∀ q ∈ p.peers, 0 ≤ q.2) : PIn W W.heap.size p.heads p.body p.peers H p.heads.length A p.body.length cb P p.peers.length cp :=
  ⟨h.1.heads, h.2.1.bytes, h.2.2.lives, rfl, rfl, rfl, h.2.1.none_cap, h.2.2.none_cap, hpos⟩
section
variable {k s t h x y : Int} {z : Nat} {hs : List Hd} {bd : List UInt8} {ps : List Life} {H A P : Option Addr} {nh ch n cap np cp B : Nat} {W : World}
theorem may_at (hi : PIn W B hs bd ps H nh A n cap P np cp) (hB : B ≤ W.heap.size) (ht : 0 ≤ t) (hy : 0 ≤ y) (hx1 : nh ≤ 1000000) (hx2 : np ≤ 1000000) :
    Calls Try.prog 11 #[.agg #[.int .i64 k, .int .i64 s, .int .u64 t, .int .i64 h, .slice H nh ch, .slice A n cap, .int .i64 x, .int .u64 y, .int .u64 (z : Int), .slice P np cp]] W fun e w' => e = .returned (.bool (decide (mayK ⟨k, (s, t), h, hs, bd, (x, y), z, ps⟩))) ∧ Hid (Below W.heap.size W w') :=
  kmay_any k s t h x y z hs bd ps H A P nh ch n cap np cp B W ht hy hi.heads hi.peers hB hi.hlen hi.blen hi.plen hx1 hx2 hi.pos
theorem rmay_at (hi : PIn W B hs bd ps H nh A n cap P np cp) (hB : B ≤ W.heap.size) (ht : 0 ≤ t) (hy : 0 ≤ y) (hx1 : nh ≤ 1000) (hx2 : np ≤ 300) :
    Calls Try.prog 12 #[.agg #[.int .i64 k, .int .i64 s, .int .u64 t, .int .i64 h, .slice H nh ch, .slice A n cap, .int .i64 x, .int .u64 y, .int .u64 (z : Int), .slice P np cp]] W fun e w' => e = .returned (.bool (decide (mayK ⟨k, (s, t), h, hs, bd, (x, y), z, ps⟩))) ∧ Hid (Below W.heap.size W w') :=
  rkmay_any k s t h x y z hs bd ps H A P nh ch n cap np cp B W ht hy hi.heads hi.peers hB hi.pcap hi.hlen hi.blen hi.plen (by omega) (by omega) hi.pos
theorem enc_at (hi : PIn W B hs bd ps H nh A n cap P np cp) (hB : B ≤ W.heap.size) (ht : 0 ≤ t) (hy : 0 ≤ y) (hx1 : nh ≤ 1000000) (hx2 : np ≤ 1000000) :
    Calls Try.prog 15 #[.agg #[.int .i64 k, .int .i64 s, .int .u64 t, .int .i64 h, .slice H nh ch, .slice A n cap, .int .i64 x, .int .u64 y, .int .u64 (z : Int), .slice P np cp]] W (EncK W ⟨k, (s, t), h, hs, bd, (x, y), z, ps⟩) :=
  kenc_any k s t h x y z hs bd ps H A P nh ch n cap np cp B W ht hy hi.heads hi.peers hi.body hB hi.hlen hi.blen hi.plen hx1 hx2 hi.pos
theorem same_at {k' s' t' h' x' y' : Int} {z' : Nat} {hs' : List Hd} {bd' : List UInt8} {ps' : List Life} {H' A' P' : Option Addr} {nh' ch' n' cap' np' cp' : Nat} (hi : PIn W B hs bd ps H nh A n cap P np cp) (hi' : PIn W B hs' bd' ps' H' nh' A' n' cap' P' np' cp') (hB : B ≤ W.heap.size) (hx1 : nh ≤ 1000) (hx2 : np ≤ 1000) (hx3 : np' ≤ 1000) :
    Calls Try.prog 17 #[.agg #[.int .i64 k, .int .i64 s, .int .u64 t, .int .i64 h, .slice H nh ch, .slice A n cap, .int .i64 x, .int .u64 y, .int .u64 (z : Int), .slice P np cp], .agg #[.int .i64 k', .int .i64 s', .int .u64 t', .int .i64 h', .slice H' nh' ch', .slice A' n' cap', .int .i64 x', .int .u64 y', .int .u64 (z' : Int), .slice P' np' cp']] W fun e w' => e = .returned (.bool (decide ((⟨k, (s, t), h, hs, bd, (x, y), z, ps⟩ : Pk) = ⟨k', (s', t'), h', hs', bd', (x', y'), z', ps'⟩))) ∧ Hid (Below W.heap.size W w') :=
  rksame_any k s t h x y z H A P nh ch n cap np cp k' s' t' h' x' y' z' H' A' P' nh' ch' n' cap' np' cp' hs hs' bd bd' ps ps' B W hi.heads hi'.heads hi.body hi'.body hi.peers hi'.peers hB hi.hlen hi'.hlen hi.blen hi'.blen hi.plen hi'.plen (by omega) (by omega) (by omega)
end
theorem decK_some {w w' : World} {l : List UInt8} {p : Pk} {e : Ending} (hr : readK l = some p) (h : DecK w l e w') : ∃ H ch A cb P cp, e = .returned (.tuple #[.agg (pkA p H ch A cb P cp), .int .i64 0]) ∧ Hid (PkM w' w.heap.size p H ch A cb P cp) ∧ Hid (Below w.heap.size w w') := by
  unfold DecK at h
  rw [hr] at h
  exact h
theorem decK_no {w w' : World} {l : List UInt8} {e : Ending} (hr : readK l = none) (h : DecK w l e w') : ∃ H ch A cb P cp, e = .returned (.tuple #[.agg (pkA noK H ch A cb P cp), .int .i64 3]) ∧ Hid (PkM w' w.heap.size noK H ch A cb P cp) ∧ Hid (Below w.heap.size w w') := by
  unfold DecK at h
  rw [hr] at h
  exact h
theorem uns_may {p : Pk} (h : mayK p) : 0 ≤ p.src.2 ∧ 0 ≤ p.srv.2 ∧ (∀ q ∈ p.peers, 0 ≤ q.2) ∧ p.heads.length ≤ 10 ∧ p.peers.length ≤ 4 ∧ p.body.length ≤ 320 := by
  rcases h with ⟨_, ⟨h1, _, h2, h3⟩, h4⟩ | ⟨_, ⟨h1, _, h2⟩, h3, _, _, h4, h5⟩
  · have := h4.1.1.1.2.2
    refine ⟨by rw [h1]; decide, by omega, fun q hq => (uns_of_adv h4 q hq).1, by rw [h2]; decide, peers_four h4, by rw [h3]; decide⟩
  · have := h3.1.2.2
    refine ⟨by omega, by rw [h1]; decide, (fun q hq => by rw [h2] at hq; cases hq), heads_ten h4.1, by rw [h2]; decide, ?_⟩
    rcases h5 with h | h
    · exact h.2.2
    · rw [h.2.1]; decide
end Go.Proofs.Ytlcddfkhklmieaa
