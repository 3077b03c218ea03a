/-
  A nil Reader's and a nil Writer's calls. For texts of at most 2^20 bytes.
-/
import Derived.Test.YtadpbcbgmopfaaaRmeant
import Derived.Test.YtadpbcbgmopfaaaReft
namespace Go.Proofs.Ytadpbcbgmopfaaa
set_option maxRecDepth 20000
open Go.RowKit

theorem btr2 {w V V' : World} (h : Below w.heap.size w V) (h2 : Below V.heap.size V V') : Below w.heap.size w V' := h.trans (h2.mono h.size)
set_option maxHeartbeats 400000 in
theorem nerr (w : World) : Calls Try.prog 62 #[.pointer none] w fun e w' => e = .returned (.int .i64 3) ∧ w = w' := by
  go_enter Try.func62, Try.ntmps62
  go_wp2
  go_ret
  exact ⟨rfl, rfl⟩
set_option maxHeartbeats 400000 in
theorem nleft (w : World) : Calls Try.prog 36 #[.pointer none] w fun e w' => e = .returned (.int .i64 0) ∧ w = w' := by
  go_enter Try.func36, Try.ntmps36
  go_wp2
  go_ret
  exact ⟨rfl, rfl⟩
set_option maxHeartbeats 400000 in
theorem nfail (w : World) : Calls Try.prog 72 #[.pointer none] w fun e w' => e = .returned (.tuple #[]) ∧ w = w' := by
  go_enter Try.func72, Try.ntmps72
  go_wp2
  go_end0
  exact ⟨rfl, rfl⟩
set_option maxHeartbeats 400000 in
theorem nwide (w : World) (n : Int) : Calls Try.prog 94 #[.pointer none, .int .i64 n] w fun e w' => e = .returned (.int .u64 0) ∧ w = w' := by
  go_enter Try.func94, Try.ntmps94
  go_wp2_with fail
  refine (nerr _).mono ?_
  rintro e w1 ⟨rfl, rfl⟩
  go_wp2
  go_ret
  exact ⟨rfl, rfl⟩
set_option maxHeartbeats 400000 in
theorem nu8 (w : World) : Calls Try.prog 64 #[.pointer none] w fun e w' => e = .returned (.int .u8 0) ∧ w = w' := by
  go_enter Try.func64, Try.ntmps64
  go_wp2_with fail
  refine (nwide _ _).mono ?_
  rintro e w1 ⟨rfl, rfl⟩
  go_wp2
  go_ret
  exact ⟨rfl, rfl⟩
set_option maxHeartbeats 400000 in
theorem nu16 (w : World) : Calls Try.prog 69 #[.pointer none] w fun e w' => e = .returned (.int .u16 0) ∧ w = w' := by
  go_enter Try.func69, Try.ntmps69
  go_wp2_with fail
  refine (nwide _ _).mono ?_
  rintro e w1 ⟨rfl, rfl⟩
  go_wp2
  go_ret
  exact ⟨rfl, rfl⟩
set_option maxHeartbeats 400000 in
theorem nu32 (w : World) : Calls Try.prog 70 #[.pointer none] w fun e w' => e = .returned (.int .u32 0) ∧ w = w' := by
  go_enter Try.func70, Try.ntmps70
  go_wp2_with fail
  refine (nwide _ _).mono ?_
  rintro e w1 ⟨rfl, rfl⟩
  go_wp2
  go_ret
  exact ⟨rfl, rfl⟩
set_option maxHeartbeats 400000 in
theorem nu64 (w : World) : Calls Try.prog 71 #[.pointer none] w fun e w' => e = .returned (.int .u64 0) ∧ w = w' := by
  go_enter Try.func71, Try.ntmps71
  go_wp2_with fail
  refine (nwide _ _).mono ?_
  rintro e w1 ⟨rfl, rfl⟩
  go_wp2
  go_ret
  exact ⟨rfl, rfl⟩
set_option maxHeartbeats 400000 in
theorem nuint (w : World) : Calls Try.prog 34 #[.pointer none] w fun e w' => e = .returned (.int .u64 0) ∧ w = w' := by
  go_enter Try.func34, Try.ntmps34
  go_wp2_with fail
  refine (nerr _).mono ?_
  rintro e w1 ⟨rfl, rfl⟩
  go_wp2
  go_ret
  exact ⟨rfl, rfl⟩
set_option maxHeartbeats 400000 in
theorem ntext (w : World) (m : Int) : Calls Try.prog 35 #[.pointer none, .int .i64 m] w fun e w' => e = .returned (.string ⟨#[]⟩) ∧ w = w' := by
  go_enter Try.func35, Try.ntmps35
  go_wp2_with fail
  refine (nerr _).mono ?_
  rintro e w1 ⟨rfl, rfl⟩
  go_wp2
  go_ret
  exact ⟨rfl, rfl⟩
set_option maxHeartbeats 400000 in
theorem nraw (w : World) (m : Int) : Calls Try.prog 31 #[.pointer none, .int .i64 m] w fun e w' => e = .returned (.slice none 0 0) ∧ w = w' := by
  go_enter Try.func31, Try.ntmps31
  go_wp2_with fail
  refine (nerr _).mono ?_
  rintro e w1 ⟨rfl, rfl⟩
  go_wp2
  go_ret
  exact ⟨rfl, rfl⟩
set_option maxHeartbeats 400000 in
theorem nend (w : World) : Calls Try.prog 32 #[.pointer none] w fun e w' => e = .returned (.int .i64 3) ∧ w = w' := by
  go_enter Try.func32, Try.ntmps32
  go_wp2_with fail
  refine (nleft _).mono ?_
  rintro e w1 ⟨rfl, rfl⟩
  go_wp2_with fail
  refine (nerr _).mono ?_
  rintro e w1 ⟨rfl, rfl⟩
  go_wp2
  go_ret
  exact ⟨rfl, rfl⟩
set_option maxHeartbeats 1600000 in
theorem asked_nil (x n : Int) (w : World) :
    Calls Try.prog 28 #[.pointer none, .agg #[.int .i64 x, .int .i64 n]] w fun e w' => e = .returned (.tuple #[.int .u64 (((if kind x = 8 then 3 else 0 : Nat)) : Int), .string ⟨#[]⟩]) ∧ Hid (Below w.heap.size w w') := by
  have HK := Lib.hid (kind_int x)
  have hk9 := kind_lt x
  have HO := Lib.hid ((Below.refl w.heap.size w).alloc (Nat.le_refl _) (.cells #[.int .i64 x, .int .i64 n] 54))
  have hcs : kind x = 0 ∨ kind x = 1 ∨ kind x = 2 ∨ kind x = 3 ∨ kind x = 4 ∨ kind x = 5 ∨ kind x = 6 ∨ kind x = 7 ∨ kind x = 8 := by omega
  obtain ⟨ek1, ek2, b9⟩ := kind_emod x
  clear hk9
  rcases hcs with hk | hk | hk | hk | hk | hk | hk | hk | hk <;> (rw [hk] at ek1 ek2)
  · have HE := Lib.hid (show (((if kind x = 8 then 3 else 0 : Nat)) : Int) = 0 by rw [hk]; rfl)
    rw [HE.out]
    clear hk
    go_enter Try.func28, Try.ntmps28
    go_wp2_with fail
    refine (nu8 _).mono ?_
    rintro e w1 ⟨rfl, rfl⟩
    go_wp2
    go_ret2
    exact ⟨rfl, HO⟩
  · have HE := Lib.hid (show (((if kind x = 8 then 3 else 0 : Nat)) : Int) = 0 by rw [hk]; rfl)
    rw [HE.out]
    clear hk
    go_enter Try.func28, Try.ntmps28
    go_wp2_with fail
    refine (nu16 _).mono ?_
    rintro e w1 ⟨rfl, rfl⟩
    go_wp2
    go_ret2
    exact ⟨rfl, HO⟩
  · have HE := Lib.hid (show (((if kind x = 8 then 3 else 0 : Nat)) : Int) = 0 by rw [hk]; rfl)
    rw [HE.out]
    clear hk
    go_enter Try.func28, Try.ntmps28
    go_wp2_with fail
    refine (nu32 _).mono ?_
    rintro e w1 ⟨rfl, rfl⟩
    go_wp2
    go_ret2
    exact ⟨rfl, HO⟩
  · have HE := Lib.hid (show (((if kind x = 8 then 3 else 0 : Nat)) : Int) = 0 by rw [hk]; rfl)
    rw [HE.out]
    clear hk
    go_enter Try.func28, Try.ntmps28
    go_wp2_with fail
    refine (nu64 _).mono ?_
    rintro e w1 ⟨rfl, rfl⟩
    go_wp2
    go_ret2
    exact ⟨rfl, HO⟩
  · have HE := Lib.hid (show (((if kind x = 8 then 3 else 0 : Nat)) : Int) = 0 by rw [hk]; rfl)
    rw [HE.out]
    clear hk
    go_enter Try.func28, Try.ntmps28
    go_wp2_with fail
    refine (nuint _).mono ?_
    rintro e w1 ⟨rfl, rfl⟩
    go_wp2
    go_ret2
    exact ⟨rfl, HO⟩
  · have HE := Lib.hid (show (((if kind x = 8 then 3 else 0 : Nat)) : Int) = 0 by rw [hk]; rfl)
    rw [HE.out]
    clear hk
    go_enter Try.func28, Try.ntmps28
    go_wp2_with fail
    refine (ntext _ _).mono ?_
    rintro e w1 ⟨rfl, rfl⟩
    go_wp2
    go_ret2
    exact ⟨rfl, HO⟩
  · have HE := Lib.hid (show (((if kind x = 8 then 3 else 0 : Nat)) : Int) = 0 by rw [hk]; rfl)
    rw [HE.out]
    clear hk
    have C := fun W => conv_str (w := W) (A := none) (l := []) (n := 0) (B := 0) 0 Bytes.nil_ rfl
    have Cl := fun W => clear_none none 0 W
    go_enter Try.func28, Try.ntmps28
    go_wp2_with fail
    refine (nraw _ _).mono ?_
    rintro e w1 ⟨rfl, rfl⟩
    go_wp2
    go_ret2
    exact ⟨rfl, HO⟩
  · have HE := Lib.hid (show (((if kind x = 8 then 3 else 0 : Nat)) : Int) = 0 by rw [hk]; rfl)
    rw [HE.out]
    clear hk
    go_enter Try.func28, Try.ntmps28
    go_wp2_with fail
    refine (nfail _).mono ?_
    rintro e w1 ⟨rfl, rfl⟩
    go_wp2
    go_ret2
    exact ⟨rfl, HO⟩
  · have HE := Lib.hid (show (((if kind x = 8 then 3 else 0 : Nat)) : Int) = 3 by rw [hk]; rfl)
    rw [HE.out]
    clear hk
    go_enter Try.func28, Try.ntmps28
    go_wp2_with fail
    refine (nend _).mono ?_
    rintro e w1 ⟨rfl, rfl⟩
    go_wp2
    go_ret2
    exact ⟨rfl, HO⟩
def T4n (q2 cap : Nat) (A : Option Addr) (i : Nat) (_ : World) (v : Value) : Prop :=
  match i with
  | 0 => v = .pointer none
  | 1 => v = .int .i64 0
  | 2 => v = .pointer (some ⟨q2, 0, none⟩)
  | 3 => v = .pointer (some ⟨q2, 0, none⟩)
  | 4 => v = .pointer (some ⟨q2, 0, none⟩)
  | 5 => v = .slice A 0 cap
  | 6 => v = .int .i64 0
  | 7 => v = .bool true
  | 8 => v = .bool true
  | 9 => v = .pointer none
  | 10 => v = .int .i64 3
  | 11 => v = .int .i64 3
  | 12 => v = .bool true
  | 13 => v = .bool true
  | _ => v = .bool true
set_option maxHeartbeats 800000 in
theorem stands_nil (q2 : Nat) (d2 : Option Nat) (w : World) (h2 : Rd RfT w q2 d2 [] true) :
    Calls Try.prog 30 #[.pointer none, .pointer (some ⟨q2, 0, none⟩)] w fun e w' => e = .returned (.bool true) ∧ Hid (Below w.heap.size w w') := by
  obtain ⟨A, cap, C0, C1, _⟩ := h2.flat
  have HC0 := Lib.hid (show w.cell? ⟨q2, 0, none⟩ = some (.slice A 0 cap) from C0)
  clear h2 C0
  go_enter Try.func30, Try.ntmps30
  go_wp2_with fail
  refine region_steps2 (n := 24) (fun a b => a = b) (fun _ _ => True) (T4n q2 cap A) (by kernel_rfl) (by kernel_rfl) rfl (fun _ => rfl) (fun _ _ _ h1 h2 => h1.trans h2) trivial (fun _ _ _ _ hb h => hb ▸ h) ?_ ?_
  · refine And.intro ?_ (And.intro ?_ (And.intro ?_ (And.intro ?_ (And.intro ?_ (And.intro ?_ (And.intro ?_ (And.intro ?_ (And.intro ?_ (And.intro ?_ (And.intro ?_ (And.intro ?_ (And.intro ?_ (And.intro ?_ (And.intro ?_ (True.intro)))))))))))))))
    · intro listed a' w' hw hl hd K hK
      refine step_free rfl ?_
      apply wp_move
      exact hK _ _ (rfl) trivial (fun s hs => by cases hs; exact hw.kept 0 (by kernel_rfl))
    · intro listed a' w' hw hl hd K hK
      have hv10 : a'.tmps.getD 10 undef = .pointer none := (hw.at_ 0 10 rfl (hd ⟨0, .data⟩ (by simp) rfl))
      refine step_free rfl ?_
      have hwe : w' = w.drew := hw.held.symm
      subst hwe
      unfold Oper.wp
      simp only [execOp]
      go_simp
      refine (nleft w.drew).mono ?_
      rintro e w2 ⟨rfl, rfl⟩
      exact hK _ _ rfl trivial (fun s hs => by cases hs; rfl)
    · intro listed a' w' hw hl hd K hK
      refine step_free rfl ?_
      apply wp_move
      exact hK _ _ (rfl) trivial (fun s hs => by cases hs; exact hw.kept 1 (by kernel_rfl))
    · intro listed a' w' hw hl hd K hK
      have hv12 : a'.tmps.getD 12 undef = .pointer (some ⟨q2, 0, none⟩) := (hw.at_ 2 12 rfl (hd ⟨2, .data⟩ (by simp) rfl))
      refine step_free rfl ?_
      unfold Oper.wp
      simp only [execOp]
      go_simp
      exact hK _ _ (rfl) trivial (fun s hs => by cases hs; rfl)
    · intro listed a' w' hw hl hd K hK
      have hv13 : a'.tmps.getD 13 undef = .pointer (some ⟨q2, 0, none⟩) := (hw.at_ 3 13 rfl (hd ⟨3, .data⟩ (by simp) rfl))
      refine step_free rfl ?_
      unfold Oper.wp
      simp only [execOp]
      go_simp
      exact hK _ _ (rfl) trivial (fun s hs => by cases hs; rfl)
    · intro listed a' w' hw hl hd K hK
      have hv14 : a'.tmps.getD 14 undef = .pointer (some ⟨q2, 0, none⟩) := (hw.at_ 4 14 rfl (hd ⟨4, .data⟩ (by simp) rfl))
      have hwe : w' = w.drew := hw.held.symm
      subst hwe
      have hcl : w.drew.cell? ⟨q2, 0, none⟩ = some (.slice A 0 cap) := HC0.out
      refine step_free rfl ?_
      unfold Oper.wp
      simp only [execOp]
      go_simp
      exact hK _ _ (rfl) trivial (fun s hs => by cases hs; rfl)
    · intro listed a' w' hw hl hd K hK
      have hv15 : a'.tmps.getD 15 undef = .slice A 0 cap := (hw.at_ 5 15 rfl (hd ⟨5, .data⟩ (by simp) rfl))
      refine step_free rfl ?_
      unfold Oper.wp
      simp only [execOp]
      go_simp
      exact hK _ _ (rfl) trivial (fun s hs => by cases hs; rfl)
    · intro listed a' w' hw hl hd K hK
      have hv11 : a'.tmps.getD 11 undef = .int .i64 0 := (hw.at_ 1 11 rfl (hd ⟨1, .data⟩ (by simp) rfl))
      have hv16 : a'.tmps.getD 16 undef = .int .i64 0 := (hw.at_ 6 16 rfl (hd ⟨6, .data⟩ (by simp) rfl))
      refine step_free rfl ?_
      unfold Oper.wp
      simp only [execOp]
      go_simp
      exact hK _ _ (rfl) trivial (fun s hs => by cases hs; rfl)
    · intro listed a' w' hw hl hd K hK
      refine step_free rfl ?_
      apply wp_move
      exact hK _ _ (rfl) trivial (fun s hs => by cases hs; exact (hw.at_ 7 17 rfl (hd ⟨7, .data⟩ (by simp) rfl)))
    · intro listed a' w' hw hl hd K hK
      have hgd : a'.tmps.getD 18 undef = .bool true := (hw.at_ 8 18 rfl (hd ⟨8, .guard⟩ (by simp) rfl))
      refine step_guarded (j := 8) (b := true) (s := 18) rfl rfl (by rw [hw.size]; exact Nat.lt_of_lt_of_eq (show 18 < 24 by omega) rfl) hgd ?_
      apply wp_move
      exact hK _ _ (rfl) trivial (fun s hs => by cases hs; exact hw.kept 0 (by kernel_rfl))
    · intro listed a' w' hw hl hd K hK
      have hgd : a'.tmps.getD 18 undef = .bool true := (hw.at_ 8 18 rfl (hd ⟨8, .guard⟩ (by simp) rfl))
      have hv19 : a'.tmps.getD 19 undef = .pointer none := (hw.at_ 9 19 rfl (hd ⟨9, .data⟩ (by simp) rfl))
      refine step_guarded (j := 8) (b := true) (s := 18) rfl rfl (by rw [hw.size]; exact Nat.lt_of_lt_of_eq (show 18 < 24 by omega) rfl) hgd ?_
      have hwe : w' = w.drew := hw.held.symm
      subst hwe
      unfold Oper.wp
      simp only [execOp]
      go_simp
      refine (nerr w.drew).mono ?_
      rintro e w2 ⟨rfl, rfl⟩
      exact hK _ _ rfl trivial (fun s hs => by cases hs; rfl)
    · intro listed a' w' hw hl hd K hK
      have hgd : a'.tmps.getD 18 undef = .bool true := (hw.at_ 8 18 rfl (hd ⟨8, .guard⟩ (by simp) rfl))
      refine step_guarded (j := 8) (b := true) (s := 18) rfl rfl (by rw [hw.size]; exact Nat.lt_of_lt_of_eq (show 18 < 24 by omega) rfl) hgd ?_
      apply wp_move
      exact hK _ _ (rfl) trivial (fun s hs => by cases hs; exact hw.kept 5 (by kernel_rfl))
    · intro listed a' w' hw hl hd K hK
      have hgd : a'.tmps.getD 18 undef = .bool true := (hw.at_ 8 18 rfl (hd ⟨8, .guard⟩ (by simp) rfl))
      have hv20 : a'.tmps.getD 20 undef = .int .i64 3 := (hw.at_ 10 20 rfl (hd ⟨10, .data⟩ (by simp) rfl))
      have hv21 : a'.tmps.getD 21 undef = .int .i64 3 := (hw.at_ 11 21 rfl (hd ⟨11, .data⟩ (by simp) rfl))
      refine step_guarded (j := 8) (b := true) (s := 18) rfl rfl (by rw [hw.size]; exact Nat.lt_of_lt_of_eq (show 18 < 24 by omega) rfl) hgd ?_
      unfold Oper.wp
      simp only [execOp]
      go_simp
      exact hK _ _ (rfl) trivial (fun s hs => by cases hs; rfl)
    · intro listed a' w' hw hl hd K hK
      have hv18 : a'.tmps.getD 18 undef = .bool true := (hw.at_ 8 18 rfl (hd ⟨8, .data⟩ (by simp) rfl))
      have hv22 : a'.tmps.getD 22 undef = .bool true := (hw.at_ 12 22 rfl (hd ⟨12, .data⟩ (by simp) rfl))
      refine step_free rfl ?_
      unfold Oper.wp
      simp only [execOp]
      go_simp
      exact hK _ _ (rfl) trivial (fun s hs => by cases hs; rfl)
    · intro listed a' w' hw hl hd K hK
      refine step_free rfl ?_
      apply wp_assign
      exact hK _ _ (rfl) trivial (fun s hs => by cases hs; exact (hw.at_ 13 23 rfl (hd ⟨13, .data⟩ (by simp) rfl)))
  · intro listed a' w' hw hall
    have hk4 : a'.tmps.getD 4 undef = .bool true := hw.at_ 14 4 rfl (hall 14 (Nat.lt_of_lt_of_eq (show 14 < 15 by omega) rfl))
    have hbe : Hid (Below w.heap.size w w') := Lib.hid (by rw [← hw.held]; exact (Below.refl _ w).drew)
    have hp := hw.puts [10, 11, 12, 13, 14, 15, 16, 17, 18, 19, 20, 21, 22, 23, 4] (by kernel_rfl)
    clear hw hall
    rw [hp]
    simp only [List.foldl_cons, List.foldl_nil, hk4]
    generalize a'.tmps.getD 10 undef = u10
    generalize a'.tmps.getD 11 undef = u11
    generalize a'.tmps.getD 12 undef = u12
    generalize a'.tmps.getD 13 undef = u13
    generalize a'.tmps.getD 14 undef = u14
    generalize a'.tmps.getD 15 undef = u15
    generalize a'.tmps.getD 16 undef = u16
    generalize a'.tmps.getD 17 undef = u17
    generalize a'.tmps.getD 18 undef = u18
    generalize a'.tmps.getD 19 undef = u19
    generalize a'.tmps.getD 20 undef = u20
    generalize a'.tmps.getD 21 undef = u21
    generalize a'.tmps.getD 22 undef = u22
    generalize a'.tmps.getD 23 undef = u23
    clear hp hk4
    simp only [Act.put, List.setIfInBounds_toArray, List.set_cons_succ, List.set_cons_zero]
    go_wp2
    go_ret
    exact ⟨rfl, hbe⟩
/-! A nil Writer. -/
set_option maxHeartbeats 400000 in
theorem nadd (w : World) (A : Option Addr) (n c : Nat) : Calls Try.prog 68 #[.pointer none, .slice A n c] w fun e w' => e = .returned (.tuple #[]) ∧ w = w' := by
  go_enter Try.func68, Try.ntmps68
  go_wp2
  go_end0
  exact ⟨rfl, rfl⟩
set_option maxHeartbeats 400000 in
theorem nwlen (w : World) : Calls Try.prog 20 #[.pointer none] w fun e w' => e = .returned (.int .i64 0) ∧ w = w' := by
  go_enter Try.func20, Try.ntmps20
  go_wp2
  go_ret
  exact ⟨rfl, rfl⟩
set_option maxHeartbeats 400000 in
theorem nwbytes (w : World) : Calls Try.prog 19 #[.pointer none] w fun e w' => e = .returned (.slice none 0 0) ∧ w = w' := by
  go_enter Try.func19, Try.ntmps19
  go_wp2
  go_ret
  exact ⟨rfl, rfl⟩
set_option maxHeartbeats 800000 in
theorem nwwide (x : Nat) (n : Nat) (w : World) (hn : n ≤ 8) : Calls Try.prog 79 #[.pointer none, .int .u64 (x : Int), .int .i64 (n : Int)] w fun e w' => e = .returned (.tuple #[]) ∧ Hid (Below w.heap.size w w') := by
  go_enter Try.func79, Try.ntmps79
  go_wp2
  go_loopw [8] (fun i wr => ∃ k : Nat, k ≤ n ∧ i = .int .i64 (k : Int) ∧ Hid (Below w.heap.size w wr)) (fun i _ => n - (intOf i).toNat)
  case atStart => exact ⟨0, Nat.zero_le _, rfl, Lib.hid (Below.refl _ _)⟩
  case round =>
    obtain ⟨k, hk, rfl, hbw⟩ := hrel
    by_cases hlt : k < n
    · have e1 := byte_at x k
      generalize UInt8.ofNat (x / 256 ^ k % 256) = c at e1
      go_wp2_with fail
      refine (nadd _ _ _ _).mono ?_
      rintro e w2 ⟨rfl, rfl⟩
      go_wp2
      go_roundw
      case rel => exact ⟨k + 1, by omega, by go_num, Lib.hid (btr2 hbw.out ((Below.refl wr.heap.size wr).alloc (Nat.le_refl _) _))⟩
      case measure => simp [intOf]; omega
    · obtain rfl : k = n := by omega
      go_wp2
      go_end0
      exact ⟨rfl, hbw⟩
set_option maxHeartbeats 800000 in
theorem nwuint (x : Nat) (w : World) (hx : x < 18446744073709551616) : Calls Try.prog 22 #[.pointer none, .int .u64 (x : Int)] w fun e w' => e = .returned (.tuple #[]) ∧ Hid (Below w.heap.size w w') := by
  go_enter Try.func22, Try.ntmps22
  go_wp2
  go_loopw [1] (fun v wr => ∃ y : Nat, v = .int .u64 (y : Int) ∧ y ≤ x ∧ Hid (Below w.heap.size w wr)) (fun v _ => (intOf v).toNat)
  case atStart => exact ⟨x, rfl, Nat.le_refl _, Lib.hid (Below.refl _ _)⟩
  case round =>
    obtain ⟨y, rfl, hyx, hbw⟩ := hrel
    by_cases hlt : y < 128
    · have hlt' : ¬ (128 : Int) ≤ (y : Int) := by omega
      have e1 : (y : Int) % 256 = (y : Int) := by omega
      go_wp2_with fail
      refine (nadd _ _ _ _).mono ?_
      rintro e w2 ⟨rfl, rfl⟩
      go_wp2
      go_end0
      exact ⟨rfl, Lib.hid (btr2 hbw.out ((Below.refl wr.heap.size wr).alloc (Nat.le_refl _) _))⟩
    · have e1 := group_byte y
      have hlt' : (128 : Int) ≤ (y : Int) := by omega
      generalize UInt8.ofNat (y % 128 + 128) = c at e1
      go_wp2_with fail
      refine (nadd _ _ _ _).mono ?_
      rintro e w2 ⟨rfl, rfl⟩
      go_wp2
      go_roundw
      case rel => exact ⟨y / 128, by simp, by omega, Lib.hid (btr2 hbw.out ((Below.refl wr.heap.size wr).alloc (Nat.le_refl _) _))⟩
      case measure => simp [intOf]; omega
set_option maxHeartbeats 800000 in
theorem nwtext (s : ByteArray) (w : World) (hs : s.size ≤ 1048576) : Calls Try.prog 24 #[.pointer none, .string s] w fun e w' => e = .returned (.tuple #[]) ∧ Hid (Below w.heap.size w w') := by
  have e1 : IntKind.u64.wrap (s.size : Int) = (s.size : Int) := IntWalk.u64_in _ (by omega)
  go_enter Try.func24, Try.ntmps24
  go_wp2_with fail
  refine (nwuint s.size w (by omega)).mono ?_
  rintro e w1 ⟨rfl, hb1⟩
  obtain ⟨w2, cap, C, _, ho2, _⟩ := conv_bytes2 s w1
  have hb2 := Lib.hid (btr2 hb1.out (ho2.out.below (Below.refl w1.heap.size w1) (fun _ h => h.elim) (Nat.le_refl _)))
  go_wp2_with fail
  refine (nadd _ _ _ _).mono ?_
  rintro e w3 ⟨rfl, rfl⟩
  go_wp2
  go_end0
  exact ⟨rfl, hb2⟩
set_option maxHeartbeats 800000 in
theorem nwu64 (x : Nat) (w : World) : Calls Try.prog 33 #[.pointer none, .int .u64 (x : Int)] w fun e w' => e = .returned (.tuple #[]) ∧ Hid (Below w.heap.size w w') := by
  go_enter Try.func33, Try.ntmps33
  go_wp2_with fail
  refine (nwwide x 8 w (Nat.le_refl _)).mono ?_
  rintro e w1 ⟨rfl, hb1⟩
  go_wp2
  go_end0
  exact ⟨rfl, hb1⟩
set_option maxHeartbeats 800000 in
theorem nwput (b c : Nat) (w : World) (h0 : w.cell? ⟨b, 0, none⟩ = some (.int .u64 1)) (h1 : w.cell? ⟨b, 1, none⟩ = some (.int .u64 2)) : Calls Try.prog 21 #[.pointer none, .slice (some ⟨b, 0, none⟩) 2 c] w fun e w' => e = .returned (.tuple #[]) ∧ Hid (Below w.heap.size w w') := by
  have H0 := Lib.hid h0
  have H1 := Lib.hid h1
  clear h0 h1
  go_enter Try.func21, Try.ntmps21
  go_wp2
  go_loopw [8] (fun i wr => ∃ k : Nat, k ≤ 2 ∧ i = .int .i64 (k : Int) ∧ Hid (Below w.heap.size w wr)) (fun i _ => 2 - (intOf i).toNat)
  case atStart => exact ⟨0, Nat.zero_le _, rfl, Lib.hid (Below.refl _ _)⟩
  case round =>
    obtain ⟨k, hk, rfl, hbw⟩ := hrel
    by_cases hlt : k < 2
    · have hx : ∃ y : Nat, y < 18446744073709551616 ∧ wr.cell? ⟨b, 0 + k, none⟩ = some (.int .u64 (y : Int)) := by
        have : k = 0 ∨ k = 1 := by omega
        rcases this with rfl | rfl
        · exact ⟨1, by omega, cell_on H0.out hbw.out⟩
        · exact ⟨2, by omega, cell_on H1.out hbw.out⟩
      obtain ⟨y, hy, hcell⟩ := hx
      rw [Nat.zero_add] at hcell
      have g0 : (0 : Int) ≤ (k : Int) := by omega
      have g1 : (k : Int) < 2 := by omega
      go_wp2_with fail
      refine (nwuint y wr hy).mono ?_
      rintro e w2 ⟨rfl, hb2⟩
      go_wp2
      go_roundw
      case rel => exact ⟨k + 1, by omega, by go_num, Lib.hid (btr2 hbw.out hb2.out)⟩
      case measure => simp [intOf]; omega
    · obtain rfl : k = 2 := by omega
      go_wp2
      go_end0
      exact ⟨rfl, hbw⟩
end Go.Proofs.Ytadpbcbgmopfaaa
