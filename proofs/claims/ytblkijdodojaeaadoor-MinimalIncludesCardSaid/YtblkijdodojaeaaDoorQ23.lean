/- What natural.plus returns where both numbers have at most one digit, and so has their sum. What slices.Repeat of one integer that is -1 returns. Condition: at most 64. What slices.Repeat of one number returns, and pathsFrom where each number has at most one digit. -/
import Derived.Test.YtblkijdodojaeaaDoorQ22
import Derived.Laws.Externs
import Derived.Test.YtblkijdodojaeaaDoorQ12

namespace Go.Proofs.YtblkijdodojaeaaDoor
open Go.RowKit
set_option linter.unusedSimpArgs false
set_option linter.unusedVariables false

theorem add64_eq (x y : Nat) (h : x + y < 18446744073709551616) (w : World) : (callFunc 114 #[.int .u64 (x : Int), .int .u64 (y : Int), .int .u64 0]).run Tryd.prog w = .ok (.value (.tuple #[.int .u64 ((x + y : Nat) : Int), .int .u64 0])) w := by
  rw [run_callFunc_extern Tryd.func114 (by kernel_rfl) (by kernel_rfl) (by kernel_rfl) (e := add64Entry) (by kernel_rfl)]
  rw [run_add64 (x : Int) (y : Int) 0 (by omega) (by omega) (by omega) (by omega)]
  simp only [Result.andThen]
  rw [show ((x : Int) + (y : Int) + 0) % 18446744073709551616 = ((x + y : Nat) : Int) by omega, show ((x : Int) + (y : Int) + 0) / 18446744073709551616 = 0 by omega]
theorem Tryd.infoU64 : (Tryd.prog.info? 74).map (fun i => (i.zero, i.size, i.bytes)) = some (some (.int .u64 0), 1, 8) := by kernel_rfl
/-- A digit's row. -/
def Dig (W : World) (A : Nat) (g : Nat) (c x : Nat) : Prop := W.ownsRow A 74 1 (.slice (some ⟨g, 0, none⟩) 1 c) 1 [u64v x]
theorem Dig.cell {W : World} {A g c x : Nat} (h : Dig W A g c x) : W.cell? ⟨g, 0, none⟩ = some (u64v x) := World.ownsRow.cellAt h 0 (by decide)
theorem Dig.frozen {W : World} {A g c x : Nat} (h : Dig W A g c x) : W.frozen? ⟨g, 0, none⟩ = false := by
  rcases h.2 with ⟨_, h⟩ | ⟨g2, cap, cur, h1, _, h3, _⟩
  · cases h
  · injection h1 with h1
    injection h1 with h1
    injection h1 with h1
    subst h1
    simp [World.frozen?, h3]
theorem Dig.set {W : World} {A g c x : Nat} (h : Dig W A g c x) (y : Nat) : Dig (W.setCell ⟨g, 0, none⟩ (u64v y)) A g c y := by
  refine ⟨rfl, ?_⟩
  rcases h.2 with ⟨_, h⟩ | ⟨g2, cap, cur, h1, h2, h3, h4, h5, h6, h7⟩
  · cases h
  · injection h1 with h1 _ h1c
    injection h1 with h1
    injection h1 with h1
    subst h1
    subst h1c
    refine .inr ⟨g, c, cur.setIfInBounds 0 (u64v y), rfl, h2, ?_, h4, h5, by simpa using h6, ?_⟩
    · obtain ⟨hlt, hk⟩ := Array.getElem?_eq_some_iff.1 h3
      unfold World.setCell
      simp [Array.getElem?_modify, Array.getElem?_eq_getElem hlt, hk]
    · have hs : 0 < cur.size := by rw [h6]; omega
      obtain ⟨l, hl⟩ : ∃ l, cur.toList = l := ⟨_, rfl⟩
      rw [Array.toList_setIfInBounds, hl]
      cases l with
      | nil => have : cur.toList.length = 0 := by rw [hl]; rfl
               simp at this; simp [this] at hs
      | cons a r => rfl
set_option maxRecDepth 100000 in
set_option maxHeartbeats 1600000 in
theorem plus_two (A g c q o c2 x y : Nat) (w : World) (hd : Dig w A g c x) (hc : w.cell? ⟨q, o, none⟩ = some (u64v y)) (hxy : x + y < 18446744073709551616) :
    Calls Tryd.prog 91 #[.slice (some ⟨g, 0, none⟩) 1 c, .slice (some ⟨q, o, none⟩) 1 c2] w fun e w' => e = .returned (.slice (some ⟨g, 0, none⟩) 1 c) ∧ w' = w.setCell ⟨g, 0, none⟩ (u64v (x + y)) := by
  have hA := add64_eq x y hxy
  have x1 := hd.cell
  have x2 := hd.frozen
  clear hd
  go_enter Tryd.func91, Tryd.ntmps91
  go_wp2
  refine wp_loop_rounds 1 ?_
  rw [rounds_succ]
  go_wp2
  refine wp_loop_rounds 2 ?_
  rw [rounds_succ]
  go_wp2
  rw [rounds_succ]
  go_wp2
  refine wp_loop_rounds 1 ?_
  rw [rounds_succ]
  go_wp2
  go_ret
  exact ⟨rfl, rfl⟩
set_option maxRecDepth 100000 in
set_option maxHeartbeats 1600000 in
theorem plus_new (q o c2 y : Nat) (w : World) (hc : w.cell? ⟨q, o, none⟩ = some (u64v y)) (hy : y < 18446744073709551616) :
    Calls Tryd.prog 91 #[.slice none 0 0, .slice (some ⟨q, o, none⟩) 1 c2] w fun e w' => ∃ g c, e = .returned (.slice (some ⟨g, 0, none⟩) 1 c) ∧ Dig w' w.heap.size g c y ∧ Below w.heap.size w w' := by
  obtain ⟨i0, hi, hz0, hz1, hz2⟩ := info_parts Tryd.infoU64
  have hA := add64_eq 0 y (by omega)
  rw [Nat.zero_add] at hA
  have hA0 : ∀ W, (callFunc 114 #[.int .u64 0, .int .u64 (y : Int), .int .u64 0]).run Tryd.prog W = .ok (.value (.tuple #[.int .u64 (y : Int), .int .u64 0])) W := hA
  clear hA
  have hnil : w.ownsRow w.heap.size 74 1 (.slice none 0 0) 0 [] := World.ownsRow_nil _ _ _ _
  have HCC := Lib.hid hc
  clear hc
  go_enter Tryd.func91, Tryd.ntmps91
  go_wp2
  refine wp_loop_rounds 2 ?_
  rw [rounds_succ]
  go_wp2_with (at_builtin; refine wpList_append_own_at _ rfl _ _ 87 rfl w.heap.size 74 i0 (.int .u64 0) 1 8 Tryd.underlying87 hi hz0 hz1 hz2 rfl (by decide) _ _ _ rfl (hnil.alloc _) ⟨w.heap.size, 0, none⟩ 1 1 [.int .u64 0] rfl rfl (cell_one_new _ _ _) (by intro u hu; simp at hu; subst hu; rfl) (by unfold maxLen; omega) (by omega) (by rw [World.size_alloc]; omega) ?_; intro v' w4 hown4 hgrow4 hnil4 hloc4; (obtain ⟨g4, cap4, rfl, -, -⟩ := hown4.form (Nat.succ_pos _)); (have HD := Lib.hid (show Dig w4 w.heap.size g4 cap4 0 from hown4)); (have B4 := Lib.hid (((Below.refl w.heap.size w).alloc (Nat.le_refl _) _).grown hgrow4 (by rw [World.size_alloc]; omega) (fun k e => by cases e))); (have x1 : w4.cell? ⟨g4, 0, none⟩ = some (.int .u64 0) := HD.out.cell); (have x2 := HD.out.frozen); (have hc := cell_keep HCC.out B4.out))
  rw [rounds_succ]
  go_wp2
  refine wp_loop_rounds 2 ?_
  rw [rounds_succ]
  go_wp2
  rw [rounds_succ]
  go_wp2
  refine wp_loop_rounds 1 ?_
  rw [rounds_succ]
  go_wp2
  go_ret
  exact ⟨g4, cap4, rfl, HD.out.set y, B4.out.setCell (by show w.heap.size ≤ g4; exact (World.ownsRow.lt HD.out g4 rfl).1) _⟩
set_option maxRecDepth 100000 in
theorem plus_none (a : Option Addr) (n c : Nat) (w : World) : Calls Tryd.prog 91 #[.slice a n c, .slice none 0 0] w fun e w' => e = .returned (.slice a n c) ∧ w' = w := by
  have d1 : ¬ ((n : Int) < 0) := by omega
  go_enter Tryd.func91, Tryd.ntmps91
  go_wp2
  refine wp_loop_rounds 1 ?_
  rw [rounds_succ]
  go_wp2
  refine wp_loop_rounds 1 ?_
  rw [rounds_succ]
  go_wp2
  refine wp_loop_rounds 1 ?_
  rw [rounds_succ]
  go_wp2
  go_ret
  exact ⟨rfl, rfl⟩
end Go.Proofs.YtblkijdodojaeaaDoor

namespace Go.Proofs.YtblkijdodojaeaaDoor
open Go.RowKit
set_option linter.unusedSimpArgs false
set_option linter.unusedVariables false

theorem rowIs_rep {t : TypeId} {g n : Nat} (v : Value) : ∀ (m o : Nat) (W : World) (F : Nat → Value), W.rowIs g t n F → (W.setCells g o (List.replicate m v)).rowIs g t n (fun i => if o ≤ i ∧ i < o + m then v else F i)
  | 0, o, W, F, h => World.rowIs.congr h (fun i _ => by rw [if_neg (by omega)])
  | m + 1, o, W, F, h => by
    rw [List.replicate_succ]
    refine World.rowIs.congr (rowIs_rep v m (o + 1) _ _ (World.rowIs.set h o v)) (fun i _ => ?_)
    by_cases h1 : i = o
    · subst h1
      rw [if_neg (by omega), if_pos rfl, if_pos (by omega)]
    · by_cases h2 : o + 1 ≤ i ∧ i < o + 1 + m
      · rw [if_pos h2, if_pos (by omega)]
      · rw [if_neg h2, if_neg h1, if_neg (by omega)]
structure CI (w : World) (R n k : Nat) (W : World) : Prop where
  b : Below w.heap.size w W
  r : IRow W R n (fun j => if j < k then -1 else 0)
theorem infoInts : (Tryd.prog.info? 3).map (·.size) = some 1 := by kernel_rfl
theorem sizeInt : ∀ w, (Go.sizeOf 3).run Tryd.prog w = .ok 1 w := fun w => by kernel_rfl
set_option maxRecDepth 100000 in
theorem copy_ints {w W : World} {R n k : Nat} (h : CI w R n k W) (hR : w.heap.size ≤ R) (hk : k ≤ n) (a : Addr) (sLen cap : Nat) (ty : TypeId) (m : Nat) (hm : m = Nat.min sLen (n - k)) (hc : ∀ j, j < m → W.cell? (a.add j) = some (.int .i64 (-1))) :
    ∃ W', (Builtin.copy_ #[28, 28] ty #[.slice (some ⟨R, k, none⟩) (n - k) (n - k), .slice (some a) sLen cap]).run Tryd.prog W = .ok (.int .i64 (m : Int)) W' ∧ CI w R n (k + m) W' := by
  have hm2 : m ≤ n - k := by rw [hm]; exact Nat.min_le_right _ _
  have hr := run_copy_cells (P := Tryd.prog) W 28 28 ty 3 R k (n - k) (n - k) a sLen cap (List.replicate m (.int .i64 (-1))) Tryd.underlying28 infoInts (by rw [List.length_replicate]; exact hm)
    (fun j u hj => by
      have hj2 : j < m := by have := (List.getElem?_eq_some_iff.1 hj).1; rwa [List.length_replicate] at this
      rw [List.getElem?_replicate, if_pos hj2] at hj
      injection hj with hj
      subst hj
      exact hc j hj2)
    (fun j hj => by rw [List.length_replicate] at hj; rw [h.r.cell (by omega)]; rfl) (fun j hj => by rw [List.length_replicate] at hj; exact h.r.frozen _)
    (fun u hu => by rw [List.eq_of_mem_replicate hu]; rfl)
  rw [List.length_replicate] at hr
  refine ⟨_, hr, ?_⟩
  refine ⟨Lib.below_setCells R hR _ _ h.b, World.rowIs.congr (rowIs_rep _ m k W _ h.r) (fun i _ => ?_)⟩
  by_cases h1 : k ≤ i ∧ i < k + m
  · rw [if_pos h1]
    dsimp only
    rw [if_pos (by omega)]
  · rw [if_neg h1]
    dsimp only
    by_cases h2 : i < k
    · rw [if_pos h2, if_pos (by omega)]
    · rw [if_neg h2, if_neg (by omega)]
theorem CI.drew {w W : World} {R n k : Nat} (h : CI w R n k W) : CI w R n k W.drew := ⟨h.b.drew, h.r⟩
set_option maxRecDepth 100000 in
set_option maxHeartbeats 6400000 in
theorem repeatI_any (n b cap : Nat) (w : World) (hn : n ≤ 64) (hcell : w.cell? ⟨b, 0, none⟩ = some (.int .i64 (-1))) :
    Calls Tryd.prog 61 #[.slice (some ⟨b, 0, none⟩) 1 cap, .int .i64 (n : Int)] w fun e w' => e = .returned (.slice (some ⟨w.heap.size, 0, none⟩) n n) ∧ IRow w' w.heap.size n (fun _ => -1) ∧ Below w.heap.size w w' := by
  have hM : ∀ W, Calls Tryd.prog 99 #[.int .u64 1, .int .u64 (n : Int)] W fun e w' => e = .returned (.tuple #[.int .u64 0, .int .u64 (n : Int)]) ∧ w' = W := fun W => by
    have k := Tryd.bits_Mul 1 n (by omega) (by omega) W
    rw [show 1 * n / 18446744073709551616 = 0 by omega, show 1 * n % 18446744073709551616 = n by omega] at k
    exact k
  have HM := Lib.hid hM
  clear hM
  have hmx : Tryd.prog.follows .mixedOrders = true := by kernel_rfl
  have hmk := make_ints n (by omega)
  have C0 : CI w w.heap.size n 0 (w.alloc (.cells (madeCells #[.int .i64 0] n) 3)) :=
    ⟨below1 w _, (IRow.made w n).congr (fun j _ => by rw [if_neg (by omega)])⟩
  obtain ⟨m, hm⟩ : ∃ m, m = Nat.min 1 (n - 0) := ⟨_, rfl⟩
  obtain ⟨w1, hr1, C1⟩ := copy_ints C0 (Nat.le_refl _) (Nat.zero_le _) ⟨b, 0, none⟩ 1 cap 3 m hm (fun j hj => by
    have h1 : m ≤ 1 := by rw [hm]; exact Nat.min_le_left _ _
    obtain rfl : j = 0 := by omega
    exact cell_keep hcell (below1 w _))
  have hm2 : m ≤ n ∧ (n = m ∨ (1 ≤ m ∧ m ≤ n)) := by
    rcases Nat.eq_zero_or_pos n with h | h
    · subst h; have : m = 0 := hm; omega
    · have : m = 1 := by rw [hm, Nat.sub_zero]; exact Nat.min_eq_left h
      omega
  rw [Nat.sub_zero] at hr1
  rw [Nat.zero_add] at C1
  have HC1 := Lib.hid C1
  have d0 : decide ((9223372036854775807 : Int) < (n : Int)) = false := decide_eq_false (by omega)
  clear C0 C1 hcell hm
  go_enter Tryd.func61, Tryd.ntmps61
  go_wp2_with (first
    | (go_at_call 99; (with_reducible refine (HM.out _).mono ?_); rintro e W0 ⟨rfl, hW⟩; (rw [hW]); (clear hW))
    | (at_builtin; refine Lib.wpList_copy_run _ rfl _ _ 28 28 rfl _ _ rfl rfl hr1 ?_))
  clear hr1 HM hmk
  go_loopg [8] n (fun q s8 wx => ∃ k : Nat, k ≤ n ∧ n - k ≤ q ∧ (n = k ∨ 1 ≤ k) ∧ s8 = .int .i64 (k : Int) ∧ Hid (CI w w.heap.size n k wx))
  case atStart => exact ⟨m, hm2.1, by omega, by omega, rfl, HC1⟩
  case round =>
    clear HC1
    obtain ⟨k, hkn, hgk, hk1, rfl, HB⟩ := hrel
    by_cases hlt : k < n
    · have hmin : min (k : Int) (n : Int) = (k : Int) := by omega
      obtain ⟨m', hm'⟩ : ∃ m', m' = Nat.min k (n - k) := ⟨_, rfl⟩
      have hmk : m' ≤ k := by rw [hm']; exact Nat.min_le_left _ _
      have hmn : m' ≤ n - k := by rw [hm']; exact Nat.min_le_right _ _
      have hm1 : 1 ≤ m' := by
        rw [hm']
        exact Nat.le_min.2 ⟨by omega, by omega⟩
      obtain ⟨w2, hr2, C2⟩ := copy_ints HB.out.drew (Nat.le_refl _) hkn ⟨w.heap.size, 0, none⟩ k n 3 m' hm' (fun j hj => by
        rw [show (⟨w.heap.size, 0, none⟩ : Addr).add j = ⟨w.heap.size, j, none⟩ by unfold Addr.add; split <;> simp_all]
        rw [HB.out.drew.r.cell (by omega), if_pos (by omega)])
      have hsl1 : ∀ W, (Instr.slice 28 (.slice (some ⟨w.heap.size, 0, none⟩) n n) (some (.int .i64 (k : Int))) none none).run Tryd.prog W = .ok (.slice (some ⟨w.heap.size, k, none⟩) (n - k) (n - k)) W := fun W => by
        have h := Lib.run_slice_tailV W 28 3 Tryd.underlying28 sizeInt w.heap.size n k (by omega)
        unfold Lib.tailV at h
        rw [if_neg (by omega)] at h
        exact h
      have hB2 := Lib.hid C2
      have dk : (0 : Int) ≤ (k : Int) := by omega
      have hw : IntKind.i64.wrap ((k : Int) + (m' : Int)) = (k : Int) + (m' : Int) := by clear hmin; rw [IntKind.wrap_i64]; omega
      have dkn : (k : Int) ≤ (n : Int) := by omega
      clear C2 HB hm'
      go_wp2_with fail
      go_region_law (refine step_copy _ rfl (.tmp 41) (.tmp 44) 28 28 rfl (.slice (some ⟨w.heap.size, k, none⟩) (n - k) (n - k)) (.slice (some ⟨w.heap.size, 0, none⟩) k n) (by simp [Act.eval, Act.put]) (by simp [Act.eval, Act.put]) hr2 ?_)
      clear hr2 hsl1 hmin
      go_wp2
      go_roundg (n - (k + m'))
      case measure => omega
      case rel => exact ⟨k + m', by omega, by omega, by omega, by go_num, hB2⟩
    · obtain rfl : k = n := by omega
      have HB2 := Lib.hid (show IRow wr w.heap.size k (fun _ => -1) from HB.out.r.congr (fun i hi => by rw [if_pos hi]))
      have hb := HB.out.b
      clear HB
      go_wp2
      go_ret
      exact ⟨rfl, HB2.out, hb⟩
end Go.Proofs.YtblkijdodojaeaaDoor

namespace Go.Proofs.YtblkijdodojaeaaDoor
open Go.RowKit
set_option linter.unusedSimpArgs false
set_option linter.unusedVariables false

abbrev oneV (p : Nat) : Value := .slice (some ⟨p, 0, none⟩) 1 1
theorem Tryd.infoNat : (Tryd.prog.info? 87).map (fun i => (i.zero, i.size, i.bytes)) = some (some (.slice none 0 0), 1, 24) := by kernel_rfl
theorem make_nats (n : Nat) (hn : n ≤ 100000) (W : World) : (Instr.makeSlice 88 (.int .i64 (n : Int)) (.int .i64 (n : Int))).run Tryd.prog W = .ok (.slice (some ⟨W.heap.size, 0, none⟩) n n) (W.alloc (.cells (madeCells #[.slice none 0 0] n) 87)) :=
  run_make_row' _ _ _ 24 Tryd.underlying88 Tryd.infoNat rfl _ _ n (by omega) (by omega) W
structure CN (w : World) (p R n k : Nat) (W : World) : Prop where
  b : Below w.heap.size w W
  r : W.rowIs R 87 n (fun j => if j < k then oneV p else .slice none 0 0)
theorem infoNats : (Tryd.prog.info? 87).map (·.size) = some 1 := by kernel_rfl
theorem sizeNat : ∀ w, (Go.sizeOf 87).run Tryd.prog w = .ok 1 w := fun w => by kernel_rfl
set_option maxRecDepth 100000 in
theorem copy_nats {w W : World} {p R n k : Nat} (h : CN w p R n k W) (hR : w.heap.size ≤ R) (hk : k ≤ n) (a : Addr) (sLen cap : Nat) (ty : TypeId) (m : Nat) (hm : m = Nat.min sLen (n - k)) (hc : ∀ j, j < m → W.cell? (a.add j) = some (oneV p)) :
    ∃ W', (Builtin.copy_ #[88, 88] ty #[.slice (some ⟨R, k, none⟩) (n - k) (n - k), .slice (some a) sLen cap]).run Tryd.prog W = .ok (.int .i64 (m : Int)) W' ∧ CN w p R n (k + m) W' := by
  have hm2 : m ≤ n - k := by rw [hm]; exact Nat.min_le_right _ _
  have hr := run_copy_cells (P := Tryd.prog) W 88 88 ty 87 R k (n - k) (n - k) a sLen cap (List.replicate m (oneV p)) Tryd.underlying88 infoNats (by rw [List.length_replicate]; exact hm)
    (fun j u hj => by
      have hj2 : j < m := by have := (List.getElem?_eq_some_iff.1 hj).1; rwa [List.length_replicate] at this
      rw [List.getElem?_replicate, if_pos hj2] at hj
      injection hj with hj
      subst hj
      exact hc j hj2)
    (fun j hj => by rw [List.length_replicate] at hj; rw [World.rowIs.cell h.r (show k + j < n by omega)]; rfl) (fun j hj => by rw [List.length_replicate] at hj; exact World.rowIs.frozen h.r _)
    (fun u hu => by rw [List.eq_of_mem_replicate hu]; rfl)
  rw [List.length_replicate] at hr
  refine ⟨_, hr, ?_⟩
  refine ⟨Lib.below_setCells R hR _ _ h.b, World.rowIs.congr (rowIs_rep _ m k W _ h.r) (fun i _ => ?_)⟩
  by_cases h1 : k ≤ i ∧ i < k + m
  · rw [if_pos h1]
    rw [if_pos (by omega)]
  · rw [if_neg h1]
    by_cases h2 : i < k
    · rw [if_pos h2, if_pos (by omega)]
    · rw [if_neg h2, if_neg (by omega)]
theorem CN.drew {w W : World} {p R n k : Nat} (h : CN w p R n k W) : CN w p R n k W.drew := ⟨h.b.drew, h.r⟩
set_option maxRecDepth 100000 in
set_option maxHeartbeats 6400000 in
theorem repeatN_any (n b cap p : Nat) (w : World) (hn : n ≤ 64) (hcell : w.cell? ⟨b, 0, none⟩ = some (oneV p)) :
    Calls Tryd.prog 90 #[.slice (some ⟨b, 0, none⟩) 1 cap, .int .i64 (n : Int)] w fun e w' => e = .returned (.slice (some ⟨w.heap.size, 0, none⟩) n n) ∧ w'.rowIs w.heap.size 87 n (fun _ => oneV p) ∧ Below w.heap.size w w' := by
  have hM : ∀ W, Calls Tryd.prog 99 #[.int .u64 1, .int .u64 (n : Int)] W fun e w' => e = .returned (.tuple #[.int .u64 0, .int .u64 (n : Int)]) ∧ w' = W := fun W => by
    have k := Tryd.bits_Mul 1 n (by omega) (by omega) W
    rw [show 1 * n / 18446744073709551616 = 0 by omega, show 1 * n % 18446744073709551616 = n by omega] at k
    exact k
  have HM := Lib.hid hM
  clear hM
  have hmx : Tryd.prog.follows .mixedOrders = true := by kernel_rfl
  have hmk := make_nats n (by omega)
  have C0 : CN w p w.heap.size n 0 (w.alloc (.cells (madeCells #[.slice none 0 0] n) 87)) :=
    ⟨below1 w _, World.rowIs.congr (World.rowIs_made w _ n _) (fun j _ => by rw [if_neg (by omega)])⟩
  obtain ⟨m, hm⟩ : ∃ m, m = Nat.min 1 (n - 0) := ⟨_, rfl⟩
  obtain ⟨w1, hr1, C1⟩ := copy_nats C0 (Nat.le_refl _) (Nat.zero_le _) ⟨b, 0, none⟩ 1 cap 3 m hm (fun j hj => by
    have h1 : m ≤ 1 := by rw [hm]; exact Nat.min_le_left _ _
    obtain rfl : j = 0 := by omega
    exact cell_keep hcell (below1 w _))
  have hm2 : m ≤ n ∧ (n = m ∨ (1 ≤ m ∧ m ≤ n)) := by
    rcases Nat.eq_zero_or_pos n with h | h
    · subst h; have : m = 0 := hm; omega
    · have : m = 1 := by rw [hm, Nat.sub_zero]; exact Nat.min_eq_left h
      omega
  rw [Nat.sub_zero] at hr1
  rw [Nat.zero_add] at C1
  have HC1 := Lib.hid C1
  have d0 : decide ((9223372036854775807 : Int) < (n : Int)) = false := decide_eq_false (by omega)
  clear C0 C1 hcell hm
  go_enter Tryd.func90, Tryd.ntmps90
  go_wp2_with (first
    | (go_at_call 99; (with_reducible refine (HM.out _).mono ?_); rintro e W0 ⟨rfl, hW⟩; (rw [hW]); (clear hW))
    | (at_builtin; refine Lib.wpList_copy_run _ rfl _ _ 88 88 rfl _ _ rfl rfl hr1 ?_))
  clear hr1 HM hmk
  go_loopg [8] n (fun q s8 wx => ∃ k : Nat, k ≤ n ∧ n - k ≤ q ∧ (n = k ∨ 1 ≤ k) ∧ s8 = .int .i64 (k : Int) ∧ Hid (CN w p w.heap.size n k wx))
  case atStart => exact ⟨m, hm2.1, by omega, by omega, rfl, HC1⟩
  case round =>
    clear HC1
    obtain ⟨k, hkn, hgk, hk1, rfl, HB⟩ := hrel
    by_cases hlt : k < n
    · have hmin : min (k : Int) (n : Int) = (k : Int) := by omega
      obtain ⟨m', hm'⟩ : ∃ m', m' = Nat.min k (n - k) := ⟨_, rfl⟩
      have hmk : m' ≤ k := by rw [hm']; exact Nat.min_le_left _ _
      have hmn : m' ≤ n - k := by rw [hm']; exact Nat.min_le_right _ _
      have hm1 : 1 ≤ m' := by
        rw [hm']
        exact Nat.le_min.2 ⟨by omega, by omega⟩
      obtain ⟨w2, hr2, C2⟩ := copy_nats HB.out.drew (Nat.le_refl _) hkn ⟨w.heap.size, 0, none⟩ k n 3 m' hm' (fun j hj => by
        rw [show (⟨w.heap.size, 0, none⟩ : Addr).add j = ⟨w.heap.size, j, none⟩ by unfold Addr.add; split <;> simp_all]
        rw [World.rowIs.cell HB.out.drew.r (show j < n by omega), if_pos (by omega)])
      have hsl1 : ∀ W, (Instr.slice 88 (.slice (some ⟨w.heap.size, 0, none⟩) n n) (some (.int .i64 (k : Int))) none none).run Tryd.prog W = .ok (.slice (some ⟨w.heap.size, k, none⟩) (n - k) (n - k)) W := fun W => by
        have h := Lib.run_slice_tailV W 88 87 Tryd.underlying88 sizeNat w.heap.size n k (by omega)
        unfold Lib.tailV at h
        rw [if_neg (by omega)] at h
        exact h
      have hB2 := Lib.hid C2
      have dk : (0 : Int) ≤ (k : Int) := by omega
      have hw : IntKind.i64.wrap ((k : Int) + (m' : Int)) = (k : Int) + (m' : Int) := by clear hmin; rw [IntKind.wrap_i64]; omega
      have dkn : (k : Int) ≤ (n : Int) := by omega
      clear C2 HB hm'
      go_wp2_with fail
      go_region_law (refine step_copy _ rfl (.tmp 41) (.tmp 44) 88 88 rfl (.slice (some ⟨w.heap.size, k, none⟩) (n - k) (n - k)) (.slice (some ⟨w.heap.size, 0, none⟩) k n) (by simp [Act.eval, Act.put]) (by simp [Act.eval, Act.put]) hr2 ?_)
      clear hr2 hsl1 hmin
      go_wp2
      go_roundg (n - (k + m'))
      case measure => omega
      case rel => exact ⟨k + m', by omega, by omega, by omega, by go_num, hB2⟩
    · obtain rfl : k = n := by omega
      have HB2 := Lib.hid (show wr.rowIs w.heap.size 87 k (fun _ => oneV p) from World.rowIs.congr HB.out.r (fun i hi => by rw [if_pos hi]))
      have hb := HB.out.b
      clear HB
      go_wp2
      go_ret
      exact ⟨rfl, HB2.out, hb⟩
end Go.Proofs.YtblkijdodojaeaaDoor
