/- What slices.Repeat of one integer that is -1 returns. Condition: at most 64. What slices.Repeat of one number returns, and pathsFrom where each number has at most one digit. What subset.pathsFrom returns: the numbers of paths. Conditions: at most 64 states and 1024 edges; every number that is met is below 2^64. -/
import Derived.Test.YtbcbeffoacfpdaaDoorQ12
import Derived.Test.YtbcbeffoacfpdaaDoorQ20

namespace Go.Proofs.YtbcbeffoacfpdaaDoor
open Go.RowKit
set_option linter.unusedSimpArgs false
set_option linter.unusedVariables false

theorem rowIs_rep {t : TypeId} {g n : Nat} (v : Value) : ∀ (m o : Nat) (W : World) (F : Nat → Value), W.rowIs g t n F → (W.setCells g o (List.replicate m v)).rowIs g t n (fun i => if o ≤ i ∧ i < o + m then v else F i)
  | 0, o, W, F, h => World.rowIs.congr h (fun i _ => by rw [if_neg (by omega)])
  | m + 1, o, W, F, h => by
    rw [List.replicate_succ]
    refine World.rowIs.congr (rowIs_rep v m (o + 1) _ _ (World.rowIs.set h o v)) (fun i _ => ?_)
    by_cases h1 : i = o
    · subst h1
      rw [if_neg (by omega), if_pos rfl, if_pos (by omega)]
    · by_cases h2 : o + 1 ≤ i ∧ i < o + 1 + m
      · rw [if_pos h2, if_pos (by omega)]
      · rw [if_neg h2, if_neg h1, if_neg (by omega)]
structure CI (w : World) (R n k : Nat) (W : World) : Prop where
  b : Below w.heap.size w W
  r : IRow W R n (fun j => if j < k then -1 else 0)
theorem infoInts : (Tryd.prog.info? 3).map (·.size) = some 1 := by kernel_rfl
theorem sizeInt : ∀ w, (Go.sizeOf 3).run Tryd.prog w = .ok 1 w := fun w => by kernel_rfl
set_option maxRecDepth 100000 in
theorem copy_ints {w W : World} {R n k : Nat} (h : CI w R n k W) (hR : w.heap.size ≤ R) (hk : k ≤ n) (a : Addr) (sLen cap : Nat) (ty : TypeId) (m : Nat) (hm : m = Nat.min sLen (n - k)) (hc : ∀ j, j < m → W.cell? (a.add j) = some (.int .i64 (-1))) :
    ∃ W', (Builtin.copy_ #[25, 25] ty #[.slice (some ⟨R, k, none⟩) (n - k) (n - k), .slice (some a) sLen cap]).run Tryd.prog W = .ok (.int .i64 (m : Int)) W' ∧ CI w R n (k + m) W' := by
  have hm2 : m ≤ n - k := by rw [hm]; exact Nat.min_le_right _ _
  have hr := run_copy_cells (P := Tryd.prog) W 25 25 ty 3 R k (n - k) (n - k) a sLen cap (List.replicate m (.int .i64 (-1))) Tryd.underlying25 infoInts (by rw [List.length_replicate]; exact hm)
    (fun j u hj => by
      have hj2 : j < m := by have := (List.getElem?_eq_some_iff.1 hj).1; rwa [List.length_replicate] at this
      rw [List.getElem?_replicate, if_pos hj2] at hj
      injection hj with hj
      subst hj
      exact hc j hj2)
    (fun j hj => by rw [List.length_replicate] at hj; rw [h.r.cell (by omega)]; rfl) (fun j hj => by rw [List.length_replicate] at hj; exact h.r.frozen _)
    (fun u hu => by rw [List.eq_of_mem_replicate hu]; rfl)
  rw [List.length_replicate] at hr
  refine ⟨_, hr, ?_⟩
  refine ⟨Lib.below_setCells R hR _ _ h.b, World.rowIs.congr (rowIs_rep _ m k W _ h.r) (fun i _ => ?_)⟩
  by_cases h1 : k ≤ i ∧ i < k + m
  · rw [if_pos h1]
    dsimp only
    rw [if_pos (by omega)]
  · rw [if_neg h1]
    dsimp only
    by_cases h2 : i < k
    · rw [if_pos h2, if_pos (by omega)]
    · rw [if_neg h2, if_neg (by omega)]
theorem CI.drew {w W : World} {R n k : Nat} (h : CI w R n k W) : CI w R n k W.drew := ⟨h.b.drew, h.r⟩
set_option maxRecDepth 100000 in
set_option maxHeartbeats 6400000 in
theorem repeatI_any (n b cap : Nat) (w : World) (hn : n ≤ 64) (hcell : w.cell? ⟨b, 0, none⟩ = some (.int .i64 (-1))) :
    Calls Tryd.prog 50 #[.slice (some ⟨b, 0, none⟩) 1 cap, .int .i64 (n : Int)] w fun e w' => e = .returned (.slice (some ⟨w.heap.size, 0, none⟩) n n) ∧ IRow w' w.heap.size n (fun _ => -1) ∧ Below w.heap.size w w' := by
  have hM : ∀ W, Calls Tryd.prog 83 #[.int .u64 1, .int .u64 (n : Int)] W fun e w' => e = .returned (.tuple #[.int .u64 0, .int .u64 (n : Int)]) ∧ w' = W := fun W => by
    have k := Tryd.bits_Mul 1 n (by omega) (by omega) W
    rw [show 1 * n / 18446744073709551616 = 0 by omega, show 1 * n % 18446744073709551616 = n by omega] at k
    exact k
  have HM := Lib.hid hM
  clear hM
  have hmx : Tryd.prog.follows .mixedOrders = true := by kernel_rfl
  have hmk := make_ints n (by omega)
  have C0 : CI w w.heap.size n 0 (w.alloc (.cells (madeCells #[.int .i64 0] n) 3)) :=
    ⟨below1 w _, (IRow.made w n).congr (fun j _ => by rw [if_neg (by omega)])⟩
  obtain ⟨m, hm⟩ : ∃ m, m = Nat.min 1 (n - 0) := ⟨_, rfl⟩
  obtain ⟨w1, hr1, C1⟩ := copy_ints C0 (Nat.le_refl _) (Nat.zero_le _) ⟨b, 0, none⟩ 1 cap 3 m hm (fun j hj => by
    have h1 : m ≤ 1 := by rw [hm]; exact Nat.min_le_left _ _
    obtain rfl : j = 0 := by omega
    exact cell_keep hcell (below1 w _))
  have hm2 : m ≤ n ∧ (n = m ∨ (1 ≤ m ∧ m ≤ n)) := by
    rcases Nat.eq_zero_or_pos n with h | h
    · subst h; have : m = 0 := hm; omega
    · have : m = 1 := by rw [hm, Nat.sub_zero]; exact Nat.min_eq_left h
      omega
  rw [Nat.sub_zero] at hr1
  rw [Nat.zero_add] at C1
  have HC1 := Lib.hid C1
  have d0 : decide ((9223372036854775807 : Int) < (n : Int)) = false := decide_eq_false (by omega)
  clear C0 C1 hcell hm
  go_enter Tryd.func50, Tryd.ntmps50
  go_wp2_with (first
    | (go_at_call 83; (with_reducible refine (HM.out _).mono ?_); rintro e W0 ⟨rfl, hW⟩; (rw [hW]); (clear hW))
    | (at_builtin; refine Lib.wpList_copy_run _ rfl _ _ 25 25 rfl _ _ rfl rfl hr1 ?_))
  clear hr1 HM hmk
  go_loopg [8] n (fun q s8 wx => ∃ k : Nat, k ≤ n ∧ n - k ≤ q ∧ (n = k ∨ 1 ≤ k) ∧ s8 = .int .i64 (k : Int) ∧ Hid (CI w w.heap.size n k wx))
  case atStart => exact ⟨m, hm2.1, by omega, by omega, rfl, HC1⟩
  case round =>
    clear HC1
    obtain ⟨k, hkn, hgk, hk1, rfl, HB⟩ := hrel
    by_cases hlt : k < n
    · have hmin : min (k : Int) (n : Int) = (k : Int) := by omega
      obtain ⟨m', hm'⟩ : ∃ m', m' = Nat.min k (n - k) := ⟨_, rfl⟩
      have hmk : m' ≤ k := by rw [hm']; exact Nat.min_le_left _ _
      have hmn : m' ≤ n - k := by rw [hm']; exact Nat.min_le_right _ _
      have hm1 : 1 ≤ m' := by
        rw [hm']
        exact Nat.le_min.2 ⟨by omega, by omega⟩
      obtain ⟨w2, hr2, C2⟩ := copy_ints HB.out.drew (Nat.le_refl _) hkn ⟨w.heap.size, 0, none⟩ k n 3 m' hm' (fun j hj => by
        rw [show (⟨w.heap.size, 0, none⟩ : Addr).add j = ⟨w.heap.size, j, none⟩ by unfold Addr.add; split <;> simp_all]
        rw [HB.out.drew.r.cell (by omega), if_pos (by omega)])
      have hsl1 : ∀ W, (Instr.slice 25 (.slice (some ⟨w.heap.size, 0, none⟩) n n) (some (.int .i64 (k : Int))) none none).run Tryd.prog W = .ok (.slice (some ⟨w.heap.size, k, none⟩) (n - k) (n - k)) W := fun W => by
        have h := Lib.run_slice_tailV W 25 3 Tryd.underlying25 sizeInt w.heap.size n k (by omega)
        unfold Lib.tailV at h
        rw [if_neg (by omega)] at h
        exact h
      have hB2 := Lib.hid C2
      have dk : (0 : Int) ≤ (k : Int) := by omega
      have hw : IntKind.i64.wrap ((k : Int) + (m' : Int)) = (k : Int) + (m' : Int) := by clear hmin; rw [IntKind.wrap_i64]; omega
      have dkn : (k : Int) ≤ (n : Int) := by omega
      clear C2 HB hm'
      go_wp2_with fail
      go_region_law (refine step_copy _ rfl (.tmp 41) (.tmp 44) 25 25 rfl (.slice (some ⟨w.heap.size, k, none⟩) (n - k) (n - k)) (.slice (some ⟨w.heap.size, 0, none⟩) k n) (by simp [Act.eval, Act.put]) (by simp [Act.eval, Act.put]) hr2 ?_)
      clear hr2 hsl1 hmin
      go_wp2
      go_roundg (n - (k + m'))
      case measure => omega
      case rel => exact ⟨k + m', by omega, by omega, by omega, by go_num, hB2⟩
    · obtain rfl : k = n := by omega
      have HB2 := Lib.hid (show IRow wr w.heap.size k (fun _ => -1) from HB.out.r.congr (fun i hi => by rw [if_pos hi]))
      have hb := HB.out.b
      clear HB
      go_wp2
      go_ret
      exact ⟨rfl, HB2.out, hb⟩
end Go.Proofs.YtbcbeffoacfpdaaDoor

namespace Go.Proofs.YtbcbeffoacfpdaaDoor
open Go.RowKit
set_option linter.unusedSimpArgs false
set_option linter.unusedVariables false

abbrev oneV (p : Nat) : Value := .slice (some ⟨p, 0, none⟩) 1 1
theorem Tryd.infoNat : (Tryd.prog.info? 80).map (fun i => (i.zero, i.size, i.bytes)) = some (some (.slice none 0 0), 1, 24) := by kernel_rfl
theorem make_nats (n : Nat) (hn : n ≤ 100000) (W : World) : (Instr.makeSlice 81 (.int .i64 (n : Int)) (.int .i64 (n : Int))).run Tryd.prog W = .ok (.slice (some ⟨W.heap.size, 0, none⟩) n n) (W.alloc (.cells (madeCells #[.slice none 0 0] n) 80)) :=
  run_make_row' _ _ _ 24 Tryd.underlying81 Tryd.infoNat rfl _ _ n (by omega) (by omega) W
structure CN (w : World) (p R n k : Nat) (W : World) : Prop where
  b : Below w.heap.size w W
  r : W.rowIs R 80 n (fun j => if j < k then oneV p else .slice none 0 0)
theorem infoNats : (Tryd.prog.info? 80).map (·.size) = some 1 := by kernel_rfl
theorem sizeNat : ∀ w, (Go.sizeOf 80).run Tryd.prog w = .ok 1 w := fun w => by kernel_rfl
set_option maxRecDepth 100000 in
theorem copy_nats {w W : World} {p R n k : Nat} (h : CN w p R n k W) (hR : w.heap.size ≤ R) (hk : k ≤ n) (a : Addr) (sLen cap : Nat) (ty : TypeId) (m : Nat) (hm : m = Nat.min sLen (n - k)) (hc : ∀ j, j < m → W.cell? (a.add j) = some (oneV p)) :
    ∃ W', (Builtin.copy_ #[81, 81] ty #[.slice (some ⟨R, k, none⟩) (n - k) (n - k), .slice (some a) sLen cap]).run Tryd.prog W = .ok (.int .i64 (m : Int)) W' ∧ CN w p R n (k + m) W' := by
  have hm2 : m ≤ n - k := by rw [hm]; exact Nat.min_le_right _ _
  have hr := run_copy_cells (P := Tryd.prog) W 81 81 ty 80 R k (n - k) (n - k) a sLen cap (List.replicate m (oneV p)) Tryd.underlying81 infoNats (by rw [List.length_replicate]; exact hm)
    (fun j u hj => by
      have hj2 : j < m := by have := (List.getElem?_eq_some_iff.1 hj).1; rwa [List.length_replicate] at this
      rw [List.getElem?_replicate, if_pos hj2] at hj
      injection hj with hj
      subst hj
      exact hc j hj2)
    (fun j hj => by rw [List.length_replicate] at hj; rw [World.rowIs.cell h.r (show k + j < n by omega)]; rfl) (fun j hj => by rw [List.length_replicate] at hj; exact World.rowIs.frozen h.r _)
    (fun u hu => by rw [List.eq_of_mem_replicate hu]; rfl)
  rw [List.length_replicate] at hr
  refine ⟨_, hr, ?_⟩
  refine ⟨Lib.below_setCells R hR _ _ h.b, World.rowIs.congr (rowIs_rep _ m k W _ h.r) (fun i _ => ?_)⟩
  by_cases h1 : k ≤ i ∧ i < k + m
  · rw [if_pos h1]
    rw [if_pos (by omega)]
  · rw [if_neg h1]
    by_cases h2 : i < k
    · rw [if_pos h2, if_pos (by omega)]
    · rw [if_neg h2, if_neg (by omega)]
theorem CN.drew {w W : World} {p R n k : Nat} (h : CN w p R n k W) : CN w p R n k W.drew := ⟨h.b.drew, h.r⟩
set_option maxRecDepth 100000 in
set_option maxHeartbeats 6400000 in
theorem repeatN_any (n b cap p : Nat) (w : World) (hn : n ≤ 64) (hcell : w.cell? ⟨b, 0, none⟩ = some (oneV p)) :
    Calls Tryd.prog 74 #[.slice (some ⟨b, 0, none⟩) 1 cap, .int .i64 (n : Int)] w fun e w' => e = .returned (.slice (some ⟨w.heap.size, 0, none⟩) n n) ∧ w'.rowIs w.heap.size 80 n (fun _ => oneV p) ∧ Below w.heap.size w w' := by
  have hM : ∀ W, Calls Tryd.prog 83 #[.int .u64 1, .int .u64 (n : Int)] W fun e w' => e = .returned (.tuple #[.int .u64 0, .int .u64 (n : Int)]) ∧ w' = W := fun W => by
    have k := Tryd.bits_Mul 1 n (by omega) (by omega) W
    rw [show 1 * n / 18446744073709551616 = 0 by omega, show 1 * n % 18446744073709551616 = n by omega] at k
    exact k
  have HM := Lib.hid hM
  clear hM
  have hmx : Tryd.prog.follows .mixedOrders = true := by kernel_rfl
  have hmk := make_nats n (by omega)
  have C0 : CN w p w.heap.size n 0 (w.alloc (.cells (madeCells #[.slice none 0 0] n) 80)) :=
    ⟨below1 w _, World.rowIs.congr (World.rowIs_made w _ n _) (fun j _ => by rw [if_neg (by omega)])⟩
  obtain ⟨m, hm⟩ : ∃ m, m = Nat.min 1 (n - 0) := ⟨_, rfl⟩
  obtain ⟨w1, hr1, C1⟩ := copy_nats C0 (Nat.le_refl _) (Nat.zero_le _) ⟨b, 0, none⟩ 1 cap 3 m hm (fun j hj => by
    have h1 : m ≤ 1 := by rw [hm]; exact Nat.min_le_left _ _
    obtain rfl : j = 0 := by omega
    exact cell_keep hcell (below1 w _))
  have hm2 : m ≤ n ∧ (n = m ∨ (1 ≤ m ∧ m ≤ n)) := by
    rcases Nat.eq_zero_or_pos n with h | h
    · subst h; have : m = 0 := hm; omega
    · have : m = 1 := by rw [hm, Nat.sub_zero]; exact Nat.min_eq_left h
      omega
  rw [Nat.sub_zero] at hr1
  rw [Nat.zero_add] at C1
  have HC1 := Lib.hid C1
  have d0 : decide ((9223372036854775807 : Int) < (n : Int)) = false := decide_eq_false (by omega)
  clear C0 C1 hcell hm
  go_enter Tryd.func74, Tryd.ntmps74
  go_wp2_with (first
    | (go_at_call 83; (with_reducible refine (HM.out _).mono ?_); rintro e W0 ⟨rfl, hW⟩; (rw [hW]); (clear hW))
    | (at_builtin; refine Lib.wpList_copy_run _ rfl _ _ 81 81 rfl _ _ rfl rfl hr1 ?_))
  clear hr1 HM hmk
  go_loopg [8] n (fun q s8 wx => ∃ k : Nat, k ≤ n ∧ n - k ≤ q ∧ (n = k ∨ 1 ≤ k) ∧ s8 = .int .i64 (k : Int) ∧ Hid (CN w p w.heap.size n k wx))
  case atStart => exact ⟨m, hm2.1, by omega, by omega, rfl, HC1⟩
  case round =>
    clear HC1
    obtain ⟨k, hkn, hgk, hk1, rfl, HB⟩ := hrel
    by_cases hlt : k < n
    · have hmin : min (k : Int) (n : Int) = (k : Int) := by omega
      obtain ⟨m', hm'⟩ : ∃ m', m' = Nat.min k (n - k) := ⟨_, rfl⟩
      have hmk : m' ≤ k := by rw [hm']; exact Nat.min_le_left _ _
      have hmn : m' ≤ n - k := by rw [hm']; exact Nat.min_le_right _ _
      have hm1 : 1 ≤ m' := by
        rw [hm']
        exact Nat.le_min.2 ⟨by omega, by omega⟩
      obtain ⟨w2, hr2, C2⟩ := copy_nats HB.out.drew (Nat.le_refl _) hkn ⟨w.heap.size, 0, none⟩ k n 3 m' hm' (fun j hj => by
        rw [show (⟨w.heap.size, 0, none⟩ : Addr).add j = ⟨w.heap.size, j, none⟩ by unfold Addr.add; split <;> simp_all]
        rw [World.rowIs.cell HB.out.drew.r (show j < n by omega), if_pos (by omega)])
      have hsl1 : ∀ W, (Instr.slice 81 (.slice (some ⟨w.heap.size, 0, none⟩) n n) (some (.int .i64 (k : Int))) none none).run Tryd.prog W = .ok (.slice (some ⟨w.heap.size, k, none⟩) (n - k) (n - k)) W := fun W => by
        have h := Lib.run_slice_tailV W 81 80 Tryd.underlying81 sizeNat w.heap.size n k (by omega)
        unfold Lib.tailV at h
        rw [if_neg (by omega)] at h
        exact h
      have hB2 := Lib.hid C2
      have dk : (0 : Int) ≤ (k : Int) := by omega
      have hw : IntKind.i64.wrap ((k : Int) + (m' : Int)) = (k : Int) + (m' : Int) := by clear hmin; rw [IntKind.wrap_i64]; omega
      have dkn : (k : Int) ≤ (n : Int) := by omega
      clear C2 HB hm'
      go_wp2_with fail
      go_region_law (refine step_copy _ rfl (.tmp 41) (.tmp 44) 81 81 rfl (.slice (some ⟨w.heap.size, k, none⟩) (n - k) (n - k)) (.slice (some ⟨w.heap.size, 0, none⟩) k n) (by simp [Act.eval, Act.put]) (by simp [Act.eval, Act.put]) hr2 ?_)
      clear hr2 hsl1 hmin
      go_wp2
      go_roundg (n - (k + m'))
      case measure => omega
      case rel => exact ⟨k + m', by omega, by omega, by omega, by go_num, hB2⟩
    · obtain rfl : k = n := by omega
      have HB2 := Lib.hid (show wr.rowIs w.heap.size 80 k (fun _ => oneV p) from World.rowIs.congr HB.out.r (fun i hi => by rw [if_pos hi]))
      have hb := HB.out.b
      clear HB
      go_wp2
      go_ret
      exact ⟨rfl, HB2.out, hb⟩
end Go.Proofs.YtbcbeffoacfpdaaDoor

namespace Go.Proofs.YtbcbeffoacfpdaaDoor
open Go.RowKit
set_option linter.unusedSimpArgs false
set_option linter.unusedVariables false

def addF (F f : Nat → Nat) (e : E3) : Nat → Nat := fun s => if (s : Int) = e.1 then f s + F e.2.2.toNat else f s
def lonF (F : Nat → Nat) (es : List E3) : Nat → Nat := es.foldl (addF F) fun _ => 0
theorem lonF_snoc (F : Nat → Nat) (es : List E3) (e : E3) : lonF F (es ++ [e]) = addF F (lonF F es) e := by unfold lonF; rw [List.foldl_append]; rfl
def wayF (es : List E3) : Nat → Nat → Nat
  | 0 => fun _ => 1
  | k + 1 => lonF (wayF es k) es
def DigRd (W : World) (u : Value) (x : Nat) : Prop := (u = .slice none 0 0 ∧ x = 0) ∨ ∃ q c, u = .slice (some ⟨q, 0, none⟩) 1 c ∧ W.cell? ⟨q, 0, none⟩ = some (u64v x)
theorem DigRd.keep {W W' : World} {u : Value} {x : Nat} (h : DigRd W u x) (hb : Below W.heap.size W W') : DigRd W' u x := by
  rcases h with h | ⟨q, c, h1, h2⟩
  · exact .inl h
  · exact .inr ⟨q, c, h1, cell_keep h2 hb⟩
/-- The numbers, read. -/
def NumRd (W : World) (v : Value) (n : Nat) (F : Nat → Nat) : Prop := ∃ b, v = .slice (some ⟨b, 0, none⟩) n n ∧ b < W.heap.size ∧ ∀ s, s < n → ∃ u, W.cell? ⟨b, s, none⟩ = some u ∧ DigRd W u (F s)
theorem NumRd.keep {W W' : World} {v : Value} {n : Nat} {F : Nat → Nat} (h : NumRd W v n F) (hb : Below W.heap.size W W') : NumRd W' v n F := by
  obtain ⟨b, h1, h0, h2⟩ := h
  exact ⟨b, h1, Nat.lt_of_lt_of_le h0 hb.size, fun s hs => by
    obtain ⟨u, k1, k2⟩ := h2 s hs
    exact ⟨u, cell_keep k1 hb, k2.keep hb⟩⟩
def DigW (W : World) (A : Nat) (u : Value) (x : Nat) : Prop := (u = .slice none 0 0 ∧ x = 0) ∨ ∃ g c, u = .slice (some ⟨g, 0, none⟩) 1 c ∧ Dig W A g c x
theorem DigW.own {W : World} {A : Nat} {u : Value} {x : Nat} (h : DigW W A u x) {k : Nat} (hk : u.ownBlock = some k) : A ≤ k ∧ k < W.heap.size ∧ ∃ c fr, W.heap[k]? = some (.cells c 67 fr) := by
  rcases h with ⟨rfl, _⟩ | ⟨g, c, rfl, h2⟩
  · simp [Value.ownBlock] at hk
  · obtain ⟨h3, h4⟩ := World.ownsRow.lt h2 k hk
    exact ⟨h3, h4, row_cells h2 hk⟩
theorem DigW.kept {W W' : World} {A : Nat} {u : Value} {x : Nat} {row : Option Nat} (h : DigW W A u x) (hg : W.grownBy W' row) (hr : ∀ k, u.ownBlock = some k → row ≠ some k) : DigW W' A u x := by
  rcases h with h | ⟨g, c, rfl, h2⟩
  · exact .inl h
  · exact .inr ⟨g, c, rfl, World.ownsRow.kept h2 hg (.inr (fun e => hr g rfl e.symm))⟩
structure LongW (b n : Nat) (us : Nat → Value) (f : Nat → Nat) (W : World) : Prop where
  row : W.rowIs b 80 n us
  own : ∀ s, s < n → DigW W (b + 1) (us s) (f s)
  apart : ∀ s t, s < n → t < n → s ≠ t → ∀ k, (us s).ownBlock = some k → (us t).ownBlock ≠ some k
theorem LongW.keep {b n : Nat} {us : Nat → Value} {f : Nat → Nat} {W W' : World} (h : LongW b n us f W) (hb : Below W.heap.size W W') : LongW b n us f W' :=
  ⟨World.rowIs.of_block h.row (hb.block b (World.rowIs.lt h.row)), fun s hs => (h.own s hs).kept (grown_none hb) (fun k _ => by simp), h.apart⟩
theorem LongW.made (w : World) (n : Nat) : LongW w.heap.size n (fun _ => .slice none 0 0) (fun _ => 0) (w.alloc (.cells (madeCells #[.slice none 0 0] n) 80)) :=
  ⟨World.rowIs_made w _ n _, fun s hs => .inl ⟨rfl, rfl⟩, fun s t _ _ _ k hk => by simp [Value.ownBlock] at hk⟩
theorem LongW.app {b n x y : Nat} {us : Nat → Value} {f : Nat → Nat} {W W' : World} {v' : Value} (h : LongW b n us f W) (hx : x < n) (hg : W.grownBy W' (us x).ownBlock) (hd : DigW W' (b + 1) v' y) (hv : ∀ k, v'.ownBlock = some k → (us x).ownBlock = some k ∨ W.heap.size ≤ k) :
    LongW b n (fun j => if j = x then v' else us j) (fun j => if j = x then y else f j) (W'.setCell ⟨b, x, none⟩ v') := by
  have hbl := World.rowIs.lt h.row
  have hrow : W'.rowIs b 80 n us := World.rowIs.of_block h.row (hg.block b hbl (fun e => by have := ((h.own x hx).own e.symm).1; omega))
  have hset := grownBy_setCellJ W' b x v'
  refine ⟨World.rowIs.set hrow x v', fun s hs => ?_, fun s t hs ht hst k hk => ?_⟩
  · by_cases e : s = x
    · subst e
      rw [if_pos rfl, if_pos rfl]
      exact hd.kept hset (fun k hk e => by injection e with e; subst e; have := (hd.own hk).1; omega)
    · rw [if_neg e, if_neg e]
      have h1 := (h.own s hs).kept hg (fun k hk e2 => h.apart x s hx hs (Ne.symm e) k e2 hk)
      exact h1.kept hset (fun k hk e => by injection e with e; subst e; have := (h1.own hk).1; omega)
  · by_cases e : s = x
    · subst e
      rw [if_pos rfl] at hk
      rw [if_neg (Ne.symm hst)]
      rcases hv k hk with h1 | h1
      · exact h.apart s t hs ht hst k h1
      · exact fun e2 => by have := ((h.own t ht).own e2).2.1; omega
    · rw [if_neg e] at hk
      by_cases e3 : t = x
      · subst e3
        rw [if_pos rfl]
        intro e2
        rcases hv k e2 with h1 | h1
        · exact h.apart s t hs ht hst k hk h1
        · have := ((h.own s hs).own hk).2.1; omega
      · rw [if_neg e3]; exact h.apart s t hs ht hst k hk
theorem LongW.num {b n : Nat} {us : Nat → Value} {f : Nat → Nat} {W : World} (h : LongW b n us f W) : NumRd W (.slice (some ⟨b, 0, none⟩) n n) n f :=
  ⟨b, rfl, World.rowIs.lt h.row, fun s hs => ⟨us s, World.rowIs.cell h.row hs, by
    rcases h.own s hs with h1 | ⟨g, c, h1, h2⟩
    · exact .inl h1
    · exact .inr ⟨g, c, h1, h2.cell⟩⟩⟩
/-- A sum in a row of its own. -/
theorem plus_row (A : Nat) (v u : Value) (x y : Nat) (w : World) (hA : A ≤ w.heap.size) (hv : DigW w A v x) (hu : DigRd w u y) (hxy : x + y < 18446744073709551616) :
    Calls Tryd.prog 75 #[v, u] w fun e w' => ∃ v', e = .returned v' ∧ DigW w' A v' (x + y) ∧ w.grownBy w' v.ownBlock ∧ (∀ k, v'.ownBlock = some k → v.ownBlock = some k ∨ w.heap.size ≤ k) ∧ (∃ a n c, v' = .slice a n c) := by
  rcases hu with ⟨rfl, rfl⟩ | ⟨q, c2, rfl, hc⟩
  · have hf : ∃ a n c, v = .slice a n c := by
      rcases hv with ⟨h, _⟩ | ⟨g, c, h, _⟩
      · exact ⟨_, _, _, h⟩
      · exact ⟨_, _, _, h⟩
    obtain ⟨a, n, c, hvv⟩ := hf
    subst hvv
    refine (plus_none a n c w).mono ?_
    rintro e w' ⟨he, rfl⟩
    exact ⟨_, he, by rw [Nat.add_zero]; exact hv, World.grownBy.refl _ _, fun k hk => .inl hk, _, _, _, rfl⟩
  · rcases hv with ⟨rfl, rfl⟩ | ⟨g, c, rfl, hd⟩
    · refine (plus_new q 0 c2 y w hc (by omega)).mono ?_
      rintro e w' ⟨g, c, he, h1, h2⟩
      exact ⟨_, he, .inr ⟨g, c, rfl, by rw [Nat.zero_add]; exact own_low h1 hA⟩, grown_none h2, fun k hk => .inr (World.ownsRow.lt h1 k hk).1, _, _, _, rfl⟩
    · refine (plus_two A g c q 0 c2 x y w hd hc hxy).mono ?_
      rintro e w' ⟨he, rfl⟩
      exact ⟨_, he, .inr ⟨g, c, rfl, hd.set _⟩, grownBy_setCellJ w g 0 _, fun k hk => .inl hk, _, _, _, rfl⟩
def SP (P0 b bn x z : Nat) (u1 u2 : Value) (W : World) : Prop := W.cell? ⟨P0, 0, none⟩ = some (.int .i64 (x : Int)) ∧ W.cell? ⟨P0, 2, none⟩ = some (.int .i64 (z : Int)) ∧ W.cell? ⟨b, x, none⟩ = some u1 ∧ W.cell? ⟨bn, z, none⟩ = some u2
theorem sp_grown {P0 b bn x z : Nat} {u1 u2 : Value} {W W' : World} (h : SP P0 b bn x z u1 u2 W) {row : Option Nat} (hg : W.grownBy W' row) (h0 : row ≠ some P0) (h1 : row ≠ some b) (h2 : row ≠ some bn) : SP P0 b bn x z u1 u2 W' := by
  have k : ∀ {p o : Nat} {y : Value}, W.cell? ⟨p, o, none⟩ = some y → row ≠ some p → W'.cell? ⟨p, o, none⟩ = some y := fun {p o y} hc hr =>
    (World.cell?_of_block (w := W) (a := ⟨p, o, none⟩) (hg.block p (World.block_lt_of_cell? W ⟨p, o, none⟩ hc) (Ne.symm hr))).trans hc
  exact ⟨k h.1 h0, k h.2.1 h0, k h.2.2.1 h1, k h.2.2.2 h2⟩
set_option maxRecDepth 100000 in
set_option maxHeartbeats 12800000 in
theorem paths_any (La : Int) (n N : Nat) (es : List E3) (v : Value) (w : World) (hrd : EdgesRd w v es) (hn : n ≤ 64) (hN : N ≤ 100000) (hlen : es.length ≤ 1024) (hes : ∀ e ∈ es, 0 ≤ e.1 ∧ e.1 < (n : Int) ∧ 0 ≤ e.2.2 ∧ e.2.2 < (n : Int))
    (hB : ∀ k, k < N → ∀ i, i ≤ es.length → ∀ s, s < n → lonF (wayF es k) (es.take i) s < 18446744073709551616) :
    Calls Tryd.prog 47 #[grV La (n : Int) v, .int .i64 (N : Int)] w fun e w' => ∃ u, e = .returned u ∧ NumRd w' u n (wayF es N) ∧ Below w.heap.size w w' := by
  have hmx : Tryd.prog.follows .mixedOrders = true := by kernel_rfl
  have HMN := make_nats n (by omega)
  have HRD := Lib.hid hrd
  have HES := Lib.hid hes
  have HBB := Lib.hid hB
  obtain ⟨a, c, rfl⟩ := hrd.form
  obtain ⟨W1, hW1⟩ : ∃ W1, ((w.alloc (.cells #[.int .i64 La, .int .i64 (n : Int), .slice a es.length c] 24)).alloc (.cells #[.int .u64 1] 67)).alloc (.cells #[.slice (some ⟨w.heap.size + 1, 0, none⟩) 1 1] 80) = W1 := ⟨_, rfl⟩
  have z1 : W1.heap.size = w.heap.size + 3 := by rw [← hW1, World.size_alloc, World.size_alloc, World.size_alloc]
  have G1 := Lib.hid (show BoxG W1 w.heap.size La (n : Int) (.slice a es.length c) by rw [← hW1]; exact ((BoxG.new w La (n : Int) _ _).keep (below1 _ _)).keep (below1 _ _))
  have B1 := Lib.hid (show Below w.heap.size w W1 by rw [← hW1]; exact below_more (below_more (below1 w _) (Nat.le_refl _) (below1 _ _)) (Nat.le_refl _) (below1 _ _))
  have D1 := Lib.hid (show W1.cell? ⟨w.heap.size + 1, 0, none⟩ = some (u64v 1) by
    rw [← hW1]
    have y1 := (Boxed.new (w.alloc (.cells #[.int .i64 La, .int .i64 (n : Int), .slice a es.length c] 24)) 67 (u64v 1)).cell
    rw [World.size_alloc] at y1
    exact cell_keep y1 (below1 _ _))
  have E1 : W1.cell? ⟨w.heap.size + 1 + 1, 0, none⟩ = some (oneV (w.heap.size + 1)) := by
    rw [← hW1]
    have y1 := (Boxed.new ((w.alloc (.cells #[.int .i64 La, .int .i64 (n : Int), .slice a es.length c] 24)).alloc (.cells #[.int .u64 1] 67)) 80 (oneV (w.heap.size + 1))).cell
    rw [World.size_alloc, World.size_alloc] at y1
    exact y1
  have HRP := Lib.hid (repeatN_any n (w.heap.size + 1 + 1) 1 (w.heap.size + 1) W1 hn E1)
  obtain ⟨x1, x2, x3⟩ := id G1.out
  have HW := Lib.hid hW1
  clear hrd hes hB E1
  go_enter Tryd.func47, Tryd.ntmps47
  go_wp2_with (go_at_call 74; (with_reducible refine HRP.out.mono ?_); rintro e W2 ⟨rfl, hrow, b2⟩)
  have G2 := Lib.hid (G1.out.keep b2)
  have B2 := Lib.hid (show Below w.heap.size w W2 from B1.out.trans (b2.mono (by omega)))
  have NU := Lib.hid (show NumRd W2 (.slice (some ⟨W1.heap.size, 0, none⟩) n n) n (wayF es 0) from ⟨W1.heap.size, rfl, World.rowIs.lt hrow, fun s hs => ⟨_, World.rowIs.cell hrow hs, .inr ⟨_, _, rfl, cell_keep D1.out b2⟩⟩⟩)
  rw [z1] at NU
  have hs2 : w.heap.size + 3 ≤ W2.heap.size := by have := b2.size; omega
  clear x1 x2 x3 hrow b2 G1 B1 D1 HRP
  go_loopg [5, 15] N (fun q s5 s15 wx => ∃ i : Nat, i + q = N ∧ s15 = .int .i64 (i : Int) ∧ Hid (NumRd wx s5 n (wayF es i)) ∧ Hid (BoxG wx w.heap.size La (n : Int) (.slice a es.length c)) ∧ Hid (Below w.heap.size w wx) ∧ w.heap.size + 3 ≤ wx.heap.size)
  case atStart => exact ⟨0, by omega, rfl, NU, G2, B2, hs2⟩
  case round =>
    clear NU G2 B2 hs2
    obtain ⟨i, hin, rfl, NU, G, B, hsz⟩ := hrel
    obtain ⟨bn, rfl, hbn, hnum⟩ := id NU.out
    rcases gk with _ | q
    · obtain rfl : i = N := by omega
      go_wp2_with fail
      go_ret
      exact ⟨_, rfl, NU.out, B.out⟩
    · obtain ⟨x1, x2, x3⟩ := id G.out
      have j1 : (i : Int) < (N : Int) := by omega
      have hb1 := below1 wr (.cells (madeCells #[.slice none 0 0] n) 80)
      obtain ⟨y1, y2, y3⟩ := id (G.out.keep hb1)
      have L0 := Lib.hid (LongW.made wr n)
      have T0 := Lib.hid hb1
      have HNUM := Lib.hid hnum
      clear hnum hb1
      go_upto_region 6 with fail
      clear x1 x2 x3 y1 y2 y3
      obtain ⟨Wo, hWo⟩ : ∃ Wo, Wo = wr := ⟨_, rfl⟩
      rw [← hWo] at hsz hbn L0 T0 NU G B HNUM ⊢
      obtain ⟨b, hb⟩ : ∃ b, Wo.heap.size = b := ⟨_, rfl⟩
      rw [hb] at L0 T0 hbn hsz ⊢
      clear hWo
      generalize Wo.alloc (.cells (madeCells #[.slice none 0 0] n) 80) = W3 at *
      go_loopg [23] es.length (fun q s23 wx => ∃ (k : Nat) (us : Nat → Value), k + q = es.length ∧ s23 = .int .i64 (k : Int) ∧ Hid (LongW b n us (lonF (wayF es i) (es.take k)) wx) ∧ Hid (Below b Wo wx))
      case atStart => exact ⟨0, _, by omega, rfl, L0, T0⟩
      case round =>
        clear L0 T0
        obtain ⟨k, us, hkn, rfl, LW, T⟩ := hrel
        rcases gk with _ | q2
        · obtain rfl : k = es.length := by omega
          have HE := Lib.hid (List.take_length (l := es))
          have HT2 := Lib.hid (show Below Wo.heap.size Wo wr by rw [hb]; exact T.out)
          go_wp2_with fail
          go_roundg q
          case measure => omega
          case rel =>
            refine ⟨i + 1, by omega, by go_num, Lib.hid ?_, Lib.hid (G.out.keep HT2.out), Lib.hid (B.out.trans (HT2.out.mono (by omega))), by have := HT2.out.size; omega⟩
            have h1 := LW.out.num
            rw [HE.out] at h1
            exact h1
        · obtain ⟨e, he⟩ : ∃ e, es[k]? = some e := ⟨_, List.getElem?_eq_getElem (by omega)⟩
          have hek := HES.out e (List.mem_of_getElem? he)
          have HT2 := Lib.hid (show Below Wo.heap.size Wo wr by rw [hb]; exact T.out)
          obtain ⟨bb, off, c', hv, k1, k2, k3⟩ := ((HRD.out.keep B.out).keep HT2.out).at he
          injection hv with e1 e2 e3
          subst e1
          subst e3
          have HT := Lib.hid (take_snoc he)
          obtain ⟨x, y, z⟩ := e
          dsimp only at hek k1 k2 k3
          obtain ⟨hx0, hx1, hz0, hz1⟩ := hek
          obtain ⟨x, rfl⟩ : ∃ m : Nat, x = (m : Int) := ⟨x.toNat, by omega⟩
          obtain ⟨z, rfl⟩ : ∃ m : Nat, z = (m : Int) := ⟨z.toNat, by omega⟩
          have hxn : x < n := by omega
          have hzn : z < n := by omega
          have o1 := below1 wr (.cells #[.int .i64 (x : Int), .int .i64 y, .int .i64 (z : Int)] 55)
          have L1 := Lib.hid (LW.out.keep o1)
          have T1 := Lib.hid (show Below b Wo (wr.alloc (.cells #[.int .i64 (x : Int), .int .i64 y, .int .i64 (z : Int)] 55)) from T.out.alloc (by have := T.out.size; omega) _)
          have X1 := Box3.new wr (x : Int) y (z : Int) 55
          have XH := heap_alloc_new wr (.cells #[.int .i64 (x : Int), .int .i64 y, .int .i64 (z : Int)] 55)
          have j2 : (k : Int) < (es.length : Int) := by omega
          have j3 : (x : Int) < (n : Int) := by omega
          have j4 : (z : Int) < (n : Int) := by omega
          have hbd := HBB.out i (by omega) (k + 1) (by omega) x hxn
          rw [HT.out, lonF_snoc] at hbd
          unfold addF at hbd
          dsimp only at hbd
          rw [if_pos rfl, Int.toNat_natCast] at hbd
          go_upto_region 8 with fail
          obtain ⟨W1, hW1⟩ : ∃ W1, wr.alloc (.cells #[.int .i64 (x : Int), .int .i64 y, .int .i64 (z : Int)] 55) = W1 := ⟨_, rfl⟩
          obtain ⟨P0, hP0⟩ : ∃ P0, wr.heap.size = P0 := ⟨_, rfl⟩
          rw [hP0] at X1 XH
          rw [hW1] at L1 X1 T1 XH ⊢
          rw [hP0]
          obtain ⟨x1, x2, x3, -, -, -⟩ := id X1
          obtain ⟨u2, hu2, hd2⟩ := HNUM.out z hzn
          have HT3 : Below Wo.heap.size Wo W1 := by rw [hb]; exact T1.out
          have cu2 := cell_keep hu2 HT3
          have du2 := hd2.keep HT3
          have cu1 := World.rowIs.cell L1.out.row hxn
          have ho1 := L1.out.own x hxn
          have HPL := Lib.hid (plus_row (b + 1) (us x) u2 (lonF (wayF es i) (es.take k) x) (wayF es i z) W1.drew (by have := World.rowIs.lt L1.out.row; show b + 1 ≤ W1.heap.size; omega) (by exact ho1) (by exact du2) hbd)
          have HO := Lib.hid (fun kk (hk : (us x).ownBlock = some kk) => ho1.own hk)
          obtain ⟨au, nu, cu, hus⟩ : ∃ a n c, us x = .slice a n c := by
            rcases ho1 with ⟨h, _⟩ | ⟨g, c, h, _⟩
            · exact ⟨_, _, _, h⟩
            · exact ⟨_, _, _, h⟩
          obtain ⟨au2, nu2, cu3, hus2⟩ : ∃ a n c, u2 = .slice a n c := by
            rcases hd2 with ⟨h, _⟩ | ⟨g, c, h, _⟩
            · exact ⟨_, _, _, h⟩
            · exact ⟨_, _, _, h⟩
          subst hus2
          have HUS := Lib.hid hus
          rw [hus] at cu1 HPL HO
          have hR0 : SP P0 b bn x z (.slice au nu cu) (.slice au2 nu2 cu3) W1.drew := ⟨x1, x3, cu1, cu2⟩
          have hP1 : (Value.slice au nu cu).ownBlock ≠ some P0 := fun e => by
            obtain ⟨_, _, cc, fr, h5⟩ := HO.out P0 e
            rw [XH] at h5
            injection h5 with h5
            injection h5 with _ h5 _
            exact absurd h5 (by decide)
          have hP2 : (Value.slice au nu cu).ownBlock ≠ some b := fun e => by have := (HO.out b e).1; omega
          have hP3 : (Value.slice au nu cu).ownBlock ≠ some bn := fun e => by have := (HO.out bn e).1; omega
          clear hW1 hP0 k1 k2 k3 X1 LW e2 he o1 hus ho1 hu2 hd2 cu1 cu2 du2 x1 x2 x3 T XH HT3
          -- region 8
          refine regionT (T := T2 15 15 (SP P0 b bn x z (.slice au nu cu) (.slice au2 nu2 cu3)) (SP P0 b bn x z (.slice au nu cu) (.slice au2 nu2 cu3))) hmx ?_
          have hR := hR0
          refine take1 (i := 0) (v := ?_) rfl (by kernel_rfl) (by kernel_rfl) (by kernel_rfl) (by kernel_rfl) (by kernel_rfl) (by decide) (by decide) (fun _ _ _ h => h) (Or.inl ⟨by rfl, ?_⟩) hR hR ?_
          rotate_left
          · intro w hSw
            (try unfold SP at hSw)
            go_simp
            all_goals with_reducible rfl
          (try simp only [Act.put, List.setIfInBounds_toArray, List.set_cons_zero, List.set_cons_succ])
          refine take1 (i := 1) (v := ?_) rfl (by kernel_rfl) (by kernel_rfl) (by kernel_rfl) (by kernel_rfl) (by kernel_rfl) (by decide) (by decide) (fun _ _ _ h => h) (Or.inl ⟨by rfl, ?_⟩) hR hR ?_
          rotate_left
          · intro w hSw
            (try unfold SP at hSw)
            go_simp
            all_goals with_reducible rfl
          (try simp only [Act.put, List.setIfInBounds_toArray, List.set_cons_zero, List.set_cons_succ])
          refine take1 (i := 2) (v := ?_) rfl (by kernel_rfl) (by kernel_rfl) (by kernel_rfl) (by kernel_rfl) (by kernel_rfl) (by decide) (by decide) (fun _ _ _ h => h) (Or.inl ⟨by rfl, ?_⟩) hR hR ?_
          rotate_left
          · intro w hSw
            (try unfold SP at hSw)
            go_simp
            all_goals with_reducible rfl
          (try simp only [Act.put, List.setIfInBounds_toArray, List.set_cons_zero, List.set_cons_succ])
          refine take1 (i := 3) (v := ?_) rfl (by kernel_rfl) (by kernel_rfl) (by kernel_rfl) (by kernel_rfl) (by kernel_rfl) (by decide) (by decide) (fun _ _ _ h => h) (Or.inl ⟨by rfl, ?_⟩) hR hR ?_
          rotate_left
          · intro w hSw
            (try unfold SP at hSw)
            go_simp
            all_goals with_reducible rfl
          (try simp only [Act.put, List.setIfInBounds_toArray, List.set_cons_zero, List.set_cons_succ])
          refine take1 (i := 4) (v := ?_) rfl (by kernel_rfl) (by kernel_rfl) (by kernel_rfl) (by kernel_rfl) (by kernel_rfl) (by decide) (by decide) (fun _ _ _ h => h) (Or.inl ⟨by rfl, ?_⟩) hR hR ?_
          rotate_left
          · intro w hSw
            (try unfold SP at hSw)
            go_simp
            all_goals with_reducible rfl
          (try simp only [Act.put, List.setIfInBounds_toArray, List.set_cons_zero, List.set_cons_succ])
          refine take1 (i := 5) (v := ?_) rfl (by kernel_rfl) (by kernel_rfl) (by kernel_rfl) (by kernel_rfl) (by kernel_rfl) (by decide) (by decide) (fun _ _ _ h => h) (Or.inl ⟨by rfl, ?_⟩) hR hR ?_
          rotate_left
          · intro w hSw
            (try unfold SP at hSw)
            go_simp
            all_goals with_reducible rfl
          (try simp only [Act.put, List.setIfInBounds_toArray, List.set_cons_zero, List.set_cons_succ])
          refine take1 (i := 6) (v := ?_) rfl (by kernel_rfl) (by kernel_rfl) (by kernel_rfl) (by kernel_rfl) (by kernel_rfl) (by decide) (by decide) (fun _ _ _ h => h) (Or.inl ⟨by rfl, ?_⟩) hR hR ?_
          rotate_left
          · intro w hSw
            (try unfold SP at hSw)
            go_simp
            all_goals with_reducible rfl
          (try simp only [Act.put, List.setIfInBounds_toArray, List.set_cons_zero, List.set_cons_succ])
          refine take1 (i := 7) (v := ?_) rfl (by kernel_rfl) (by kernel_rfl) (by kernel_rfl) (by kernel_rfl) (by kernel_rfl) (by decide) (by decide) (fun _ _ _ h => h) (Or.inl ⟨by rfl, ?_⟩) hR hR ?_
          rotate_left
          · intro w hSw
            (try unfold SP at hSw)
            go_simp
            all_goals with_reducible rfl
          (try simp only [Act.put, List.setIfInBounds_toArray, List.set_cons_zero, List.set_cons_succ])
          refine take1 (i := 8) (v := ?_) rfl (by kernel_rfl) (by kernel_rfl) (by kernel_rfl) (by kernel_rfl) (by kernel_rfl) (by decide) (by decide) (fun _ _ _ h => h) (Or.inl ⟨by rfl, ?_⟩) hR hR ?_
          rotate_left
          · intro w hSw
            (try unfold SP at hSw)
            go_simp
            all_goals with_reducible rfl
          (try simp only [Act.put, List.setIfInBounds_toArray, List.set_cons_zero, List.set_cons_succ])
          refine take1 (i := 9) (v := ?_) rfl (by kernel_rfl) (by kernel_rfl) (by kernel_rfl) (by kernel_rfl) (by kernel_rfl) (by decide) (by decide) (fun _ _ _ h => h) (Or.inl ⟨by rfl, ?_⟩) hR hR ?_
          rotate_left
          · intro w hSw
            (try unfold SP at hSw)
            go_simp
            all_goals with_reducible rfl
          (try simp only [Act.put, List.setIfInBounds_toArray, List.set_cons_zero, List.set_cons_succ])
          refine take1 (i := 10) (v := ?_) rfl (by kernel_rfl) (by kernel_rfl) (by kernel_rfl) (by kernel_rfl) (by kernel_rfl) (by decide) (by decide) (fun _ _ _ h => h) (Or.inl ⟨by rfl, ?_⟩) hR hR ?_
          rotate_left
          · intro w hSw
            (try unfold SP at hSw)
            go_simp
            all_goals with_reducible rfl
          (try simp only [Act.put, List.setIfInBounds_toArray, List.set_cons_zero, List.set_cons_succ])
          refine take1 (i := 11) (v := ?_) rfl (by kernel_rfl) (by kernel_rfl) (by kernel_rfl) (by kernel_rfl) (by kernel_rfl) (by decide) (by decide) (fun _ _ _ h => h) (Or.inl ⟨by rfl, ?_⟩) hR hR ?_
          rotate_left
          · intro w hSw
            (try unfold SP at hSw)
            go_simp
            all_goals with_reducible rfl
          (try simp only [Act.put, List.setIfInBounds_toArray, List.set_cons_zero, List.set_cons_succ])
          refine take1 (i := 12) (v := ?_) rfl (by kernel_rfl) (by kernel_rfl) (by kernel_rfl) (by kernel_rfl) (by kernel_rfl) (by decide) (by decide) (fun _ _ _ h => h) (Or.inl ⟨by rfl, ?_⟩) hR hR ?_
          rotate_left
          · intro w hSw
            (try unfold SP at hSw)
            go_simp
            all_goals with_reducible rfl
          (try simp only [Act.put, List.setIfInBounds_toArray, List.set_cons_zero, List.set_cons_succ])
          refine stepT (i := 13) (by kernel_rfl) rfl (fun K hK => ?_)
          go_simp
          go_at_call 75
          (with_reducible refine HPL.out.mono ?_)
          rintro e0 W5 ⟨v5, rfl, hd5, hg5, hv5, ⟨a5, n5, c5, rfl⟩⟩
          have hR5 := sp_grown hR0 hg5 hP1 hP2 hP3
          have hg' : W1.grownBy W5 (Value.slice au nu cu).ownBlock := ⟨hg5.os, hg5.tape, hg5.output, hg5.size, hg5.block⟩
          have f5 : W5.frozen? ⟨b, x, none⟩ = false := World.rowIs.frozen (World.rowIs.of_block L1.out.row (hg'.block b (World.rowIs.lt L1.out.row) (Ne.symm hP2))) x
          have c5' := hR5.2.2.1
          go_wp2_with fail
          refine hK.out _ _ ⟨fun _ => hR5, fun _ => hR5⟩ ?_
          clear hK K hR
          have hR := hR5
          (try simp only [Act.put, List.setIfInBounds_toArray, List.set_cons_zero, List.set_cons_succ])
          refine take1 (i := 14) (v := ?_) rfl (by kernel_rfl) (by kernel_rfl) (by kernel_rfl) (by kernel_rfl) (by kernel_rfl) (by decide) (by decide) (fun _ _ _ h => h) (Or.inl ⟨by rfl, ?_⟩) hR hR ?_
          rotate_left
          · intro w hSw
            (try unfold SP at hSw)
            go_simp
            all_goals with_reducible rfl
          (try simp only [Act.put, List.setIfInBounds_toArray, List.set_cons_zero, List.set_cons_succ])
          refine stepT (i := 15) (by kernel_rfl) rfl (fun K hK => ?_)
          go_simp
          refine hK.out _ _ ⟨fun h => absurd h (by decide), fun h => absurd h (by decide)⟩ ?_
          clear hK K
          (try simp only [Act.put, List.setIfInBounds_toArray, List.set_cons_zero, List.set_cons_succ])
          refine doneT (by kernel_rfl) ?_ _
          -- behind region 8
          go_wp2_with fail
          go_roundg q2
          case measure => omega
          case rel =>
            refine ⟨k + 1, (fun j => if j = x then .slice a5 n5 c5 else us j), by omega, by go_num, Lib.hid ?_, Lib.hid ?_⟩
            · have h1 := L1.out.app (W' := W5) hxn (show W1.grownBy W5 (us x).ownBlock by rw [HUS.out]; exact hg') hd5 (by rw [HUS.out]; exact hv5)
              rw [HT.out, lonF_snoc]
              unfold addF
              dsimp only
              refine ⟨h1.row, fun s hs => ?_, h1.apart⟩
              have h2 := h1.own s hs
              by_cases e : s = x
              · subst e; rw [if_pos rfl] at h2 ⊢; rw [if_pos rfl] at h2; rw [if_pos rfl, Int.toNat_natCast]; exact h2
              · rw [if_neg e] at h2 ⊢; rw [if_neg e] at h2; rw [if_neg (by omega)]; exact h2
            · exact ((T1.out).grown hg' (by have := World.rowIs.lt L1.out.row; omega) (fun kk e => by have := (HO.out kk e).1; omega)).setCell (by show b ≤ b; omega) _
end Go.Proofs.YtbcbeffoacfpdaaDoor
