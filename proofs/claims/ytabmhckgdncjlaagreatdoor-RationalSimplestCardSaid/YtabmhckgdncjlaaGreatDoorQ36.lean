/- What groovelaw02.ratio returns. Condition: int64, the denominator is not 0. -/
import Derived.Test.YtabmhckgdncjlaaGreatDoorQ30

namespace Go.Proofs.YtabmhckgdncjlaaGreatDoor
open Go.RowKit
set_option linter.unusedSimpArgs false

set_option maxRecDepth 100000 in
theorem lratio_any (n d : Int) (r : Rat) (w : World) (hn : -9223372036854775808 ≤ n) (hn' : n ≤ 9223372036854775807) (hd : -9223372036854775808 ≤ d) (hd' : d ≤ 9223372036854775807) (h0 : d ≠ 0) (hr : Rat.divInt n d = r) :
    Calls Tryz.prog 14 #[.int .i64 n, .int .i64 d] w (RatOut w r) := by
  have P0 := ResRat.new w
  have B0 := below1 w (.cells #[.bool false, .string ⟨#[]⟩, .bool false, .string ⟨#[]⟩] 25)
  go_enter Tryz.func14, Tryz.ntmps14
  go_wp2_with fail
  refine (ratio_any n d r _ hn hn' hd hd' h0 hr).mono ?_
  rintro e W1 ⟨rfl, b1⟩
  have hbl := below1 W1 (.cells #[.bool (sg r.num), .string (mg r.num), .bool (sg (r.den : Int)), .string (mg (r.den : Int))] 25)
  have P1 := (P0.keep b1).keep hbl
  have S1 : RIn (W1.alloc (.cells #[.bool (sg r.num), .string (mg r.num), .bool (sg (r.den : Int)), .string (mg (r.den : Int))] 25)) W1.heap.size (sg r.num) (mg r.num) (sg (r.den : Int)) (mg (r.den : Int)) := RIn.new rfl
  have B1 := below_more (below_more B0 (Nat.le_refl _) b1) (Nat.le_refl _) hbl
  clear P0 B0 b1 hbl
  unfold ratV
  go_upto_region 2 with fail
  generalize W1.alloc (.cells #[.bool (sg r.num), .string (mg r.num), .bool (sg (r.den : Int)), .string (mg (r.den : Int))] 25) = W2 at *
  generalize W1.heap.size = p3 at *
  obtain ⟨t1, t2, t3, t4⟩ := id S1
  obtain ⟨⟨r1, r2, r3, r4⟩, r5, r6, r7, r8⟩ := P1
  go_wp2
  exact bodyPost_ret (v := ratV r) (by simp [results, Tryz.results14, go_sem, r1, r2, r3, r4, ratV]) rfl ⟨rfl, below4s B1 _ (by omega) _ _ _ _⟩
end Go.Proofs.YtabmhckgdncjlaaGreatDoor
