/-
  The document's own Reader: Text. For at most 2^46 bytes.
-/
import Derived.Test.YtelbhlkojpnmgaaDoorRfun
namespace Go.Proofs.YtelbhlkojpnmgaaDoor
set_option maxRecDepth 20000
open Go.RowKit

def TextF (w : World) (q : Nat) (d : Option Nat) (s : RS) (m : Int) (e : Ending) (w' : World) : Prop :=
  e = .returned (.string ⟨(rText s m).1.toArray⟩) ∧ Hid (Rd RfT w' q d (rText s m).2.l (rText s m).2.bad) ∧ Hid (Only (fun k => k = q) w w')
theorem Rd.bad1 {w : World} {q : Nat} {d : Option Nat} {l : List UInt8} {bad : Bool} (h : Rd RfT w q d l bad) : Rd RfT (w.setCell ⟨q, 1, none⟩ (.bool true)) q d l true ∧ Only (fun k => k = q) w (w.setCell ⟨q, 1, none⟩ (.bool true)) := by
  obtain ⟨A, cap, h1, h2, h3⟩ := h
  obtain ⟨_, r1, r2⟩ := fault_of (by decide) h1 h2 h3 (.bool true)
  exact ⟨r1.out, r2.out⟩
theorem Rd.flat {w : World} {q : Nat} {d : Option Nat} {l : List UInt8} {bad : Bool} (h : Rd RfT w q d l bad) : ∃ A cap, w.cell? ⟨q, 0, none⟩ = some (.slice A l.length cap) ∧ w.cell? ⟨q, 1, none⟩ = some (.bool bad) ∧ w.frozen? ⟨q, 1, none⟩ = false ∧ Bytes w w.heap.size A l ∧ l.length ≤ cap ∧ cap ≤ 9223372036854775807 ∧ (A = none → cap = 0) := by
  obtain ⟨A, cap, h1, h2, h3⟩ := h
  exact ⟨A, cap, by simpa using cell_plain h1 0, by simpa using cell_plain h1 1, frozen_plain h1 1, h2.bytes, h2.1, h2.2.1, fun e => h2.none_cap e⟩
theorem TextF.fault {w W1 W2 : World} {q : Nat} {d : Option Nat} {s : RS} {m : Int} (hR : rText s m = ([], ⟨s.l, true⟩)) (h : Rd RfT W1 q d s.l s.bad) (hb : Below w.heap.size w W1) (h2 : W2 = W1.setCell ⟨q, 1, none⟩ (.bool true) ∨ W2 = (W1.setCell ⟨q, 1, none⟩ (.bool true)).setCell ⟨q, 1, none⟩ (.bool true)) : TextF w q d s m (.returned (.string ⟨#[]⟩)) W2 := by
  obtain ⟨r1, o1⟩ := h.bad1
  obtain ⟨r2, o2⟩ := r1.bad1
  have o0 : Only (fun k => k = q) w W1 := Only.ofBelow hb
  rcases h2 with rfl | rfl
  · exact ⟨by rw [hR], Lib.hid (by rw [hR]; exact r1), Lib.hid (o0.trans o1 fun _ _ h => h)⟩
  · exact ⟨by rw [hR], Lib.hid (by rw [hR]; exact r2), Lib.hid ((o0.trans o1 fun _ _ h => h).trans o2 fun _ _ h => h)⟩
theorem cell_on {w w' : World} {p : Addr} {v : Value} (hc : w.cell? p = some v) (hb : Below w.heap.size w w') : w'.cell? p = some v := (hb.cell (p := p) (World.block_lt_of_cell? w p hc)).trans hc
theorem frozen_below {w w' : World} {p : Addr} {v : Value} (hc : w.cell? p = some v) (hb : Below w.heap.size w w') : w'.frozen? p = w.frozen? p := by
  have hlt := World.block_lt_of_cell? w p hc
  unfold World.frozen?
  rw [hb.block p.block hlt]
set_option maxHeartbeats 2000000 in
theorem ftext_any (q : Nat) (d : Option Nat) (s : RS) (m : Int) (w : World) (hm1 : -9223372036854775808 ≤ m) (hm2 : m ≤ 9223372036854775807) (h : Rd RfT w q d s.l s.bad) (hr : s.l.length ≤ 70368744177664) :
    Calls Tryd.prog 40 #[.pointer (some ⟨q, 0, none⟩), .int .i64 m] w (TextF w q d s m) := by
  have HG := Lib.hid (groups_any q d s.l s.bad w h)
  have hpl := parse_le s.l
  have hp64 := parse_lt s.l
  have HPW := Lib.hid (parse_worth s.l)
  have HFa := Lib.hid (show (parse s.l).2 = 0 ∨ m < 0 ∨ m < ((parse s.l).1 : Int) ∨ s.l.length < (parse s.l).2 + (parse s.l).1 ∨ s.bad = true → rText s m = ([], ⟨s.l, true⟩) from fun hh => if_pos (by
    rcases hh with e | e | e | e | e
    · exact .inr (.inl e)
    · exact .inr (.inr (.inl e))
    · exact .inr (.inr (.inr (.inl e)))
    · exact .inr (.inr (.inr (.inr e)))
    · exact .inl e))
  have HOk := Lib.hid (show ¬ (parse s.l).2 = 0 → ¬ m < 0 → ¬ m < ((parse s.l).1 : Int) → ¬ s.l.length < (parse s.l).2 + (parse s.l).1 → ¬ s.bad = true → rText s m = ((s.l.drop (parse s.l).2).take (parse s.l).1, ⟨s.l.drop ((parse s.l).2 + (parse s.l).1), false⟩) from fun a b c d e => if_neg (by
    rintro (h | h | h | h | h)
    · exact e h
    · exact a h
    · exact b h
    · exact c h
    · exact d h))
  have HP0 := Lib.hid (show (parse s.l).2 = 0 → (parse s.l).1 = 0 from fun e => by rw [parse_worth, e]; simp [numB])
  have HRA := Lib.hid (fun n => fraw_any q d s n)
  generalize (parse s.l).2 = p at *
  generalize (parse s.l).1 = x at *
  obtain ⟨A, cap, C0, C1, F1, hB, hc1, hc2, hA⟩ := h.flat
  have HH := Lib.hid h
  have HBt := Lib.hid (hB.front p)
  have HTL := Lib.hid (show (s.l.take p).length = p by rw [List.length_take]; omega)
  have HV : numB 7 (s.l.take p) < 18446744073709551616 := by rw [← HPW.out]; exact hp64
  have HWo := Lib.hid (worth7_any A (s.l.take p) p cap w HBt.out HTL.out (by omega) HV)
  rw [← HPW.out] at HWo
  clear h hB HV HBt
  have e1 : IntKind.i64.wrap (x : Int) = (x : Int) ∨ 70368744177664 < x := by
    by_cases hx : 70368744177664 < x
    · exact .inr hx
    · exact .inl (by rw [IntKind.wrap_i64]; omega)
  generalize hl : s.l.length = len at *
  have HLen := Lib.hid hl
  clear hl
  go_enter Tryd.func40, Tryd.ntmps40
  go_wp2_with fail
  refine HG.out.mono ?_
  rintro e W0 ⟨rfl, rfl⟩
  clear HG
  go_wp2_with fail
  refine HWo.out.mono ?_
  rintro e W1 ⟨rfl, hb1⟩
  have D0 := cell_on C0 hb1.out
  have D1 := cell_on C1 hb1.out
  have G1 := (frozen_below C1 hb1.out).trans F1
  have HR1 := Lib.hid (HH.out.keep (S := fun _ => False) (Only.ofBelow hb1.out) (fun h => h) (fun _ _ h => h))
  have HFin := Lib.hid (fun hh W2 h2 => TextF.fault (m := m) (W2 := W2) (HFa.out hh) HR1.out hb1.out h2)
  have el : IntKind.u64.wrap (len : Int) = (len : Int) := IntWalk.u64_in _ (by omega)
  clear C0 C1 F1 HWo HH HFa
  by_cases c1 : p = 0
  · have hx0 := HP0.out c1
    subst c1 hx0
    have HD := Lib.hid (HFin.out (.inl rfl) _ (.inr rfl))
    clear HRA HOk e1
    go_wp2
    go_ret
    exact HD.out
  · have g1 : ¬ (p : Int) = 0 := by omega
    by_cases c2 : m < 0
    · have HD := Lib.hid (HFin.out (.inr (.inl c2)) _ (.inr rfl))
      clear HRA HOk e1
      go_wp2
      go_ret
      exact HD.out
    · have em : IntKind.u64.wrap m = m := by rw [IntKind.wrap_u64]; omega
      by_cases c3 : m < (x : Int)
      · have HD := Lib.hid (HFin.out (.inr (.inr (.inl c3))) _ (.inr rfl))
        clear HRA HOk e1
        go_wp2
        go_ret
        exact HD.out
      · by_cases c4 : len < x
        · have g4 : (len : Int) < (x : Int) := by omega
          have HD := Lib.hid (HFin.out (.inr (.inr (.inr (.inl (by omega))))) _ (.inr rfl))
          clear HRA HOk e1
          go_wp2
          go_ret
          exact HD.out
        · have g4 : ¬ (len : Int) < (x : Int) := by omega
          have e2 : IntKind.i64.wrap (x : Int) = (x : Int) := by rw [IntKind.wrap_i64]; omega
          have w1 : wrap64 ((p : Int) + (x : Int)) = (p : Int) + (x : Int) := by unfold wrap64; omega
          have q1 : ((p : Int) == 0) = false := by simp; omega
          have q2 : decide (m < 0) = false := decide_eq_false c2
          have q3 : decide (m < (x : Int)) = false := decide_eq_false c3
          clear e1
          cases hbad : s.bad with
          | true =>
            rw [hbad] at D1
            have HD := Lib.hid (HFin.out (.inr (.inr (.inr (.inr hbad)))) _ (.inl rfl))
            clear HRA HOk hbad
            go_wp2
            go_ret
            exact HD.out
          | false =>
            rw [hbad] at D1
            by_cases c6 : len < p + x
            · have g6 : (len : Int) < (p : Int) + (x : Int) := by omega
              have HD := Lib.hid (HFin.out (.inr (.inr (.inr (.inl c6)))) _ (.inl rfl))
              clear HRA HOk hbad
              go_wp2
              go_ret
              exact HD.out
            · have g6 : ¬ (len : Int) < (p : Int) + (x : Int) := by omega
              have HT := Lib.hid (HOk.out c1 (by omega) (by omega) c6 (by rw [hbad]; simp))
              have HRR := Lib.hid (show rRaw s ((p : Int) + (x : Int)) = (s.l.take (p + x), ⟨s.l.drop (p + x), false⟩) by
                have h1 : ¬ (s.bad = true ∨ ((p : Int) + (x : Int)) < 0 ∨ (s.l.length : Int) < (p : Int) + (x : Int)) := by
                  rw [hbad, HLen.out]
                  rintro (e | e | e)
                  · cases e
                  · omega
                  · omega
                unfold rRaw
                rw [if_neg h1, show ((p : Int) + (x : Int)).toNat = p + x by omega])
              have HRaw := Lib.hid (HRA.out ((p : Int) + (x : Int)) W1 HR1.out hr)
              have HTk := Lib.hid (show (s.l.take (p + x)).length = p + x by rw [List.length_take, HLen.out]; omega)
              clear HRA HOk HFin hbad
              go_wp2_with fail
              refine HRaw.out.mono ?_
              unfold RawF
              rw [HRR.out]
              simp only [HTk.out]
              rintro e W2 ⟨A2, cap2, rfl, h1, h2, h3, h4⟩
              obtain ⟨b, off, rfl, hb, hcc⟩ := h2.out (by rw [HTk.out]; omega)
              have hc3 := h3.out.2.1
              have hc4 : cap2 ≤ 9223372036854775807 := h3.out.2.2
              have HBd := Lib.hid (show Bytes W2 W2.heap.size (some ⟨b, off + p, none⟩) ((s.l.drop p).take x) from fun _ => ⟨b, off + p, rfl, hb, fun k hk => by
                rw [List.length_take, List.length_drop, HLen.out] at hk
                rw [Nat.add_assoc, hcc (p + k) (by rw [HTk.out]; omega)]
                congr 3
                unfold at8
                simp only [List.getD]
                rw [List.getElem?_take, if_pos (by omega), List.getElem?_take, if_pos (by omega), List.getElem?_drop]⟩)
              have HXl := Lib.hid (show ((s.l.drop p).take x).length = x by rw [List.length_take, List.length_drop, HLen.out]; omega)
              have HFn := Lib.hid (show TextF w q d s m (.returned (.string ⟨((s.l.drop p).take x).toArray⟩)) W2 from ⟨by rw [HT.out], Lib.hid (by rw [HT.out]; exact h1.out), Lib.hid ((Only.ofBelow (S := fun k => k = q) hb1.out).trans h4.out fun _ _ h => h)⟩)
              clear h1 h2 h4 hcc HT HRR HRaw D0 D1 G1 HR1
              have k1 : (p : Int) ≤ (p : Int) + (x : Int) := by omega
              by_cases hcp : cap2 = p
              · have hx0 : x = 0 := by omega
                subst hx0
                subst hcp
                have C := conv_str (w := W2) (A := some ⟨b, off, none⟩) (l := []) (n := 0) (B := W2.heap.size) 0 Bytes.nil_ rfl
                rw [List.take_zero] at HFn
                clear HBd HXl
                go_wp2
                go_ret
                exact HFn.out
              · have C := conv_str (cap2 - p) HBd.out HXl.out
                generalize (⟨((s.l.drop p).take x).toArray⟩ : ByteArray) = str at *
                clear HBd HXl
                go_wp2
                go_ret
                exact HFn.out
end Go.Proofs.YtelbhlkojpnmgaaDoor
