/-
  The document's Bytes, of whatever packet may be; bytes of one's own that are counted up. No condition.
-/
import Derived.Test.YtlcddfkhklmieaaKrbytes
import Derived.Test.YtlcddfkhklmieaaKlaws
namespace Go.Proofs.Ytlcddfkhklmieaa
set_option maxRecDepth 20000
open Go.RowKit

theorem rkbytes_at {k s t h x y : Int} {z : Nat} {hs : List Hd} {bd : List UInt8} {ps : List Life} {H A P : Option Addr} {nh ch n cap np cp : Nat} {W : World} (hm : mayK ⟨k, (s, t), h, hs, bd, (x, y), z, ps⟩) (hi : PIn W W.heap.size hs bd ps H nh A n cap P np cp) :
    Calls Try.prog 16 #[.agg #[.int .i64 k, .int .i64 s, .int .u64 t, .int .i64 h, .slice H nh ch, .slice A n cap, .int .i64 x, .int .u64 y, .int .u64 (z : Int), .slice P np cp]] W (BytesE W (packetL ⟨k, (s, t), h, hs, bd, (x, y), z, ps⟩)) := by
  have ht := packetL_tail ⟨k, (s, t), h, hs, bd, (x, y), z, ps⟩
  rcases id hm with ⟨rfl, ha, hv⟩ | ⟨hk1, hb, hlf, hh0, hh8, hhs, he⟩
  · have h4 := peers_four hv
    simp only at h4
    have hup := uns_of_adv hv
    obtain ⟨hsv, _, hq, hst, hps, _⟩ := id hv
    simp only at hsv hq hst hps hup
    have hm1 := hsv.1.1
    have hm2 := hsv.1.2
    unfold mayL at hm1
    simp only at hm1 hm2
    refine rkb_adv s t h x y z H A P nh ch n cap np cp ps _ W ?_ ?_ (by unfold cnt at hq; omega) hi.peers hi.plen (by have := hi.plen; omega) hup ?_ ?_
    · intro q hq2
      rw [List.mem_singleton.1 hq2]
      exact ⟨by simp only; omega, by simp only; omega⟩
    · intro q hq2
      rw [List.mem_singleton.1 hq2]
      exact ⟨by simp only; omega, by simp only; omega⟩
    · intro q hq2
      have := set_may hst q hq2
      unfold mayL at this
      omega
    · rw [ht]
      unfold tailK
      simp only [if_true]
      rw [hi.plen, putsL_one]
      simp only [List.append_assoc, List.cons_append, List.nil_append]
      rfl
  · unfold bareK at hb
    simp only at hb hlf hh0 hh8 hhs he hk1
    have h10 := heads_ten hhs.1
    have hm1 := hlf.1
    have hm2 := hlf.2
    unfold mayL at hm1
    simp only at hm1 hm2
    have hu1 : Unsigned [((s, t) : Life)] := by
      intro q hq2
      rw [List.mem_singleton.1 hq2]
      exact ⟨by simp only; omega, by simp only; omega⟩
    have hs1 : ∀ q ∈ [((s, t) : Life)], 0 ≤ q.1 ∧ q.1 < 256 := by
      intro q hq2
      rw [List.mem_singleton.1 hq2]
      exact ⟨by simp only; omega, by simp only; omega⟩
    rcases he with ⟨e2, hb1, hb2⟩ | ⟨e3, e0, hn1⟩
    · simp only at e2 hb1 hb2
      subst e2
      refine rkb_2 s t h x y z H A P nh ch n cap np cp hs bd _ W hu1 hs1 hh0 (by omega) hi.heads hi.hlen (by have := hi.hlen; omega) (ok_of_heads hhs.1) hi.body hi.blen (by have := hi.blen; omega) ?_
      rw [ht]
      unfold tailK
      simp only
      rw [if_neg (show ¬ ((2 : Int) = 1) by decide), if_pos trivial, hi.hlen, hi.blen, putsL_one]
      simp only [List.append_assoc, List.cons_append, List.nil_append]
      rfl
    · simp only at e3 e0 hn1
      subst e3
      refine rkb_3 s t h x y z H A P nh ch n cap np cp hs _ W hu1 hs1 hh0 (by omega) hi.heads hi.hlen (by have := hi.hlen; omega) (ok_of_heads hhs.1) ?_
      rw [ht]
      unfold tailK
      simp only
      rw [if_neg (show ¬ ((3 : Int) = 1) by decide), if_neg (show ¬ ((3 : Int) = 2) by decide), List.append_nil, hi.hlen, putsL_one]
      simp only [List.append_assoc, List.cons_append, List.nil_append]
      rfl
/-- Bytes that can be counted up. -/
def SomK (w : World) (g m : Nat) : Prop := ∀ k, k < m → ∃ x : Int, w.cell? ⟨g, k, none⟩ = some (.int .u8 x) ∧ w.frozen? ⟨g, k, none⟩ = false
theorem own8_some {w : World} {base m cap : Nat} {A : Option Addr} {l : List UInt8} (h : Own8 w base A m cap l) (hm : 0 < m) : ∃ g, A = some ⟨g, 0, none⟩ ∧ base ≤ g ∧ g < w.heap.size ∧ SomK w g m := by
  rcases h.form8 with rfl | ⟨g, rfl⟩
  · have h1 := h.none_cap rfl
    have h2 := h.cap_le
    omega
  · have hlt := h.lt (g := g) rfl
    obtain ⟨_, cur, hh, _, _, htk⟩ := h.block (g := g) rfl
    refine ⟨g, rfl, hlt.1, hlt.2, fun k hk => ⟨((at8 l k : Nat) : Int), ?_, by simp [World.frozen?, hh]⟩⟩
    rw [cell_of_row _ _ _ _ _ (0, 0) hh]
    have hl := h.len
    have hg := bv_get (l := l) (k := k) (by omega)
    rw [← htk, List.getElem?_take, if_pos hk] at hg
    simpa using hg
theorem SomK.set_ {w : World} {g m j : Nat} (h : SomK w g m) (y : Int) : SomK (w.setCell ⟨g, j, none⟩ (.int .u8 y)) g m := by
  intro k hk
  obtain ⟨x, h1, h2⟩ := h k hk
  by_cases hjk : j = k
  · subst hjk
    refine ⟨y, ?_, ?_⟩
    · exact World.cell?_setCell_same _ _ _ h1
    · rw [World.frozen?_setCell]; exact h2
  · refine ⟨x, ?_, ?_⟩
    · exact (World.cell?_setCell_other _ _ _ _ (by intro e; simp only [Addr.mk.injEq] at e; omega)).trans h1
    · rw [World.frozen?_setCell]; exact h2
theorem SomK.on {w w' : World} {g m : Nat} (h : SomK w g m) (hg : g < w.heap.size) (hb : Below w.heap.size w w') : SomK w' g m := by
  intro k hk
  obtain ⟨x, h1, h2⟩ := h k hk
  have hh := hb.block g hg
  refine ⟨x, (hb.cell (p := ⟨g, k, none⟩) hg).trans h1, ?_⟩
  unfold World.frozen? at *
  simp only at *
  rw [hh]
  exact h2
end Go.Proofs.Ytlcddfkhklmieaa
