/-
  What the law's act does, whatever happens. No condition.
-/
import Derived.Test.YtmkkhknbokfciaaQact0
import Derived.Test.YtmkkhknbokfciaaQact1
import Derived.Test.YtmkkhknbokfciaaQact2
import Derived.Test.YtmkkhknbokfciaaQact3
import Derived.Test.YtmkkhknbokfciaaQact4
import Derived.Test.YtmkkhknbokfciaaQact5
namespace Go.Proofs.Ytmkkhknbokfciaa
open Go.RowKit

theorem act7_any (G B : Nat) (bs : List (List UInt8)) (s : Sd) (dd nn : Int) (A0 : Option Addr) (n0 c0 : Nat) (w : World) (hs : Side G B s w) (hv : Inv7 bs s) (hB : B ≤ w.heap.size) (hbl : bs.length = n0) (hbs : Rws w B A0 bs) :
    Calls Try.prog 24 #[.pointer (some ⟨G, 0, none⟩), .agg #[.int .i64 dd, .int .i64 nn], .slice A0 n0 c0] w (ActE G B bs w) := by
  by_cases h0 : dd = 0
  · subst h0; exact act7_0_any G B bs s nn A0 n0 c0 w hs hv hB hbl hbs
  by_cases h1 : dd = 1
  · subst h1; exact act7_1_any G B bs s nn A0 n0 c0 w hs hv hB hbl hbs
  by_cases h2 : dd = 2
  · subst h2; exact act7_2_any G B bs s nn A0 n0 c0 w hs hv hB hbl hbs
  by_cases h3 : dd = 3
  · subst h3; exact act7_3_any G B bs s nn A0 n0 c0 w hs hv hB hbl hbs
  by_cases h4 : dd = 4
  · subst h4; exact act7_4_any G B bs s nn A0 n0 c0 w hs hv hB hbl hbs
  exact act7_5_any G B bs s dd nn A0 n0 c0 w hs hv hB hbl hbs ⟨h0, h1, h2, h3, h4⟩
end Go.Proofs.Ytmkkhknbokfciaa
