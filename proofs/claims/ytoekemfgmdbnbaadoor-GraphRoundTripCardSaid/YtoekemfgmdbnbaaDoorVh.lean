/- What slices.Equal of rows of truth values and slices.Repeat of one that is true return. Condition: at most 64. -/
import Derived.Test.YtoekemfgmdbnbaaDoorVg
import Derived.Test.YtoekemfgmdbnbaaDoorShelf
import Derived.Lib.SlBuf
import Derived.BigCall
import Derived.BigGuard
import Derived.Deep.Draws
namespace Go.Proofs.YtoekemfgmdbnbaaDoor
open Go.RowKit
set_option linter.unusedSimpArgs false
set_option linter.unusedVariables false

def sameF (n : Nat) (f g : Nat → Bool) : Bool := (List.range n).all fun i => f i == g i
theorem sameF_true {n : Nat} {f g : Nat → Bool} : sameF n f g = true ↔ ∀ i, i < n → f i = g i := by
  unfold sameF
  rw [List.all_eq_true]
  constructor
  · intro h i hi; simpa using h i (List.mem_range.2 hi)
  · intro h i hi; simpa using h i (List.mem_range.1 hi)
theorem sameF_no {n i : Nat} {f g : Nat → Bool} (hi : i < n) (h : f i ≠ g i) : sameF n f g = false := by
  cases e : sameF n f g with
  | false => rfl
  | true => exact absurd (sameF_true.1 e i hi) h
set_option maxRecDepth 100000 in
set_option maxHeartbeats 3200000 in
theorem equalB_any (n : Nat) (f g : Nat → Bool) (v1 v2 : Value) (w : World) (h1 : BRd w v1 n f) (h2 : BRd w v2 n g) (hn : n ≤ 64) :
    Calls Tryd.prog 37 #[v1, v2] w fun e w' => e = .returned (.bool (sameF n f g)) ∧ Below w.heap.size w w' := by
  obtain ⟨b1, c1, rfl, k1⟩ := h1
  obtain ⟨b2, c2, rfl, k2⟩ := h2
  have H1 := Lib.hid k1
  have H2 := Lib.hid k2
  have hmx : Tryd.prog.follows .mixedOrders = true := by kernel_rfl
  clear k1 k2
  go_enter Tryd.func37, Tryd.ntmps37
  go_wp2_with fail
  go_loopg [13] n (fun k s13 wx => ∃ i : Nat, i + k = n ∧ s13 = .int .i64 (i : Int) ∧ Hid (∀ j, j < i → f j = g j) ∧ Below w.heap.size w wx)
  case atStart => exact ⟨0, by omega, rfl, Lib.hid (fun j hj => absurd hj (by omega)), Below.refl _ _⟩
  case round =>
    obtain ⟨i, hi, rfl, HI, hb⟩ := hrel
    rcases gk with _ | k
    · obtain rfl : i = n := by omega
      have HE := Lib.hid (sameF_true.2 HI.out)
      clear HI
      go_wp2_with fail
      go_ret
      exact ⟨by rw [HE.out]; rfl, hb⟩
    · have ca := cell_keep (H1.out i (by omega)) hb
      have cb := cell_keep (H2.out i (by omega)) hb
      have j1 : (i : Int) < (n : Int) := by omega
      by_cases h : f i = g i
      · have HI2 := Lib.hid (show ∀ j, j < i + 1 → f j = g j from fun j hj => by
          rcases (show j < i ∨ j = i by omega) with h1 | rfl
          · exact HI.out j h1
          · exact h)
        rw [h] at ca
        clear HI h
        generalize g i = x at ca cb
        cases x with
        | true =>
          go_wp2_with fail
          go_quiet (fail)
          go_wp2_with fail
          go_roundg k
          case measure => omega
          case rel => exact ⟨i + 1, by omega, by go_num, HI2, below_drewM hb _⟩
        | false =>
          go_wp2_with fail
          go_quiet (fail)
          go_wp2_with fail
          go_roundg k
          case measure => omega
          case rel => exact ⟨i + 1, by omega, by go_num, HI2, below_drewM hb _⟩
      · have HE := Lib.hid (sameF_no (show i < n by omega) h)
        clear HI
        cases hf : f i with
        | true =>
          have hg : g i = false := by cases e : g i with
            | true => exact absurd (hf.trans e.symm) h
            | false => rfl
          rw [hf] at ca
          rw [hg] at cb
          clear h hf hg
          go_wp2_with fail
          go_quiet (fail)
          go_wp2_with fail
          go_ret
          exact ⟨by rw [HE.out]; rfl, below_drewM hb _⟩
        | false =>
          have hg : g i = true := by cases e : g i with
            | true => rfl
            | false => exact absurd (hf.trans e.symm) h
          rw [hf] at ca
          rw [hg] at cb
          clear h hf hg
          go_wp2_with fail
          go_quiet (fail)
          go_wp2_with fail
          go_ret
          exact ⟨by rw [HE.out]; rfl, below_drewM hb _⟩
/-- A row whose first k truth values are true, as far as copied. -/
structure CB (w : World) (R n k : Nat) (W : World) : Prop where
  b : Below w.heap.size w W
  c : ∀ j, j < n → W.cell? ⟨R, j, none⟩ = some (.bool (decide (j < k)))
  f : ∀ j, j < n → W.frozen? ⟨R, j, none⟩ = false
theorem infoBools : (Tryd.prog.info? 4).map (·.size) = some 1 := by kernel_rfl
theorem sizeBool : ∀ w, (Go.sizeOf 4).run Tryd.prog w = .ok 1 w := fun w => by kernel_rfl
set_option maxRecDepth 100000 in
theorem copy_bools {w W : World} {R n k : Nat} (h : CB w R n k W) (hR : w.heap.size ≤ R) (hk : k ≤ n) (a : Addr) (sLen cap : Nat) (ty : TypeId) (m : Nat) (hm : m = Nat.min sLen (n - k)) (hc : ∀ j, j < m → W.cell? (a.add j) = some (.bool true)) :
    ∃ W', (Builtin.copy_ #[74, 74] ty #[.slice (some ⟨R, k, none⟩) (n - k) (n - k), .slice (some a) sLen cap]).run Tryd.prog W = .ok (.int .i64 (m : Int)) W' ∧ CB w R n (k + m) W' := by
  have hm2 : m ≤ n - k := by rw [hm]; exact Nat.min_le_right _ _
  have hr := run_copy_cells (P := Tryd.prog) W 74 74 ty 4 R k (n - k) (n - k) a sLen cap (List.replicate m (.bool true)) Tryd.underlying74 infoBools (by rw [List.length_replicate]; exact hm)
    (fun j u hj => by
      have hj2 : j < m := by have := (List.getElem?_eq_some_iff.1 hj).1; rwa [List.length_replicate] at this
      rw [List.getElem?_replicate, if_pos hj2] at hj
      injection hj with hj
      subst hj
      exact hc j hj2)
    (fun j hj => by rw [List.length_replicate] at hj; rw [h.c _ (by omega)]; rfl) (fun j hj => by rw [List.length_replicate] at hj; exact h.f _ (by omega))
    (fun u hu => by rw [List.eq_of_mem_replicate hu]; rfl)
  rw [List.length_replicate] at hr
  refine ⟨_, hr, ?_⟩
  have hin := World.cell?_setCells_in R (List.replicate m (Value.bool true)) k W (fun j hj => by rw [List.length_replicate] at hj; rw [h.c _ (by omega)]; rfl)
  have hout := World.cell?_setCells_out R (List.replicate m (Value.bool true)) k W
  refine ⟨Lib.below_setCells R hR _ _ h.b, fun j hj => ?_, fun j hj => ?_⟩
  · by_cases h1 : k ≤ j ∧ j < k + m
    · obtain ⟨d, rfl⟩ : ∃ d, j = k + d := ⟨j - k, by omega⟩
      refine (hin d (by rw [List.length_replicate]; omega)).trans ?_
      rw [show decide (k + d < k + m) = true from decide_eq_true (by omega), List.getElem_replicate]
    · rw [hout ⟨R, j, none⟩ (fun _ _ => by rw [List.length_replicate]; show j < _ ∨ _ ≤ j; omega), h.c j hj]
      congr 2
      rw [decide_eq_decide]
      omega
  · rw [World.frozen?_setCells]
    exact h.f j hj
theorem CB.drew {w W : World} {R n k : Nat} (h : CB w R n k W) : CB w R n k W.drew := ⟨h.b.drew, h.c, h.f⟩
/-- copy, at a step of a region that draws its order. -/
theorem step_copy {P : Program} (w : World) {ops : Array Oper} {o : Oper} {a : Act} {K : Act → World → Prop} {Q : Exit → Act → World → Prop} {E : Prop} (hgd : o.guard = none) (d s : Operand) (t t' : TypeId)
    (ho : o.op = .call { callee := .builtin .copy, args := #[d, s], argTypes := #[t, t'] }) (v u : Value) (hd : a.eval d = v) (hs : a.eval s = u) {v' : Value} {w' : World}
    (hr : (Builtin.copy_ #[t, t'] o.type #[v, u]).run P w = .ok v' w') (h : K (a.put o.dst v') w') : if Region.wanted o (yielded ops a.tmps) = true then Oper.wp P o a w K Q else E := by
  have hw : Region.wanted o (yielded ops a.tmps) = true := by simp [Region.wanted, hgd]
  rw [if_pos hw]
  exact Lib.wp_copy_run w d s t t' ho v u hd hs hr h
set_option maxRecDepth 100000 in
set_option maxHeartbeats 6400000 in
theorem repeatB_any (n b cap : Nat) (w : World) (hn : n ≤ 64) (hcell : w.cell? ⟨b, 0, none⟩ = some (.bool true)) :
    Calls Tryd.prog 35 #[.slice (some ⟨b, 0, none⟩) 1 cap, .int .i64 (n : Int)] w fun e w' => ∃ v, e = .returned v ∧ BRd w' v n (fun _ => true) ∧ Below w.heap.size w w' := by
  have hM : ∀ W, Calls Tryd.prog 46 #[.int .u64 1, .int .u64 (n : Int)] W fun e w' => e = .returned (.tuple #[.int .u64 0, .int .u64 (n : Int)]) ∧ w' = W := fun W => by
    have k := Tryd.bits_Mul 1 n (by omega) (by omega) W
    rw [show 1 * n / 18446744073709551616 = 0 by omega, show 1 * n % 18446744073709551616 = n by omega] at k
    exact k
  have HM := Lib.hid hM
  clear hM
  have hmx : Tryd.prog.follows .mixedOrders = true := by kernel_rfl
  have hmk := make_bools n (by omega)
  have C0 : CB w w.heap.size n 0 (w.alloc (.cells (madeCells #[.bool false] n) 4)) :=
    ⟨below1 w _, fun j hj => by rw [(BRow.made w n).cell hj]; rfl, fun j _ => (BRow.made w n).frozen j⟩
  obtain ⟨m, hm⟩ : ∃ m, m = Nat.min 1 (n - 0) := ⟨_, rfl⟩
  obtain ⟨w1, hr1, C1⟩ := copy_bools C0 (Nat.le_refl _) (Nat.zero_le _) ⟨b, 0, none⟩ 1 cap 3 m hm (fun j hj => by
    have h1 : m ≤ 1 := by rw [hm]; exact Nat.min_le_left _ _
    obtain rfl : j = 0 := by omega
    exact cell_keep hcell (below1 w _))
  have hm2 : m ≤ n ∧ (n = m ∨ (1 ≤ m ∧ m ≤ n)) := by
    rcases Nat.eq_zero_or_pos n with h | h
    · subst h; have : m = 0 := hm; omega
    · have : m = 1 := by rw [hm, Nat.sub_zero]; exact Nat.min_eq_left h
      omega
  rw [Nat.sub_zero] at hr1
  rw [Nat.zero_add] at C1
  have HC1 := Lib.hid C1
  have d0 : decide ((9223372036854775807 : Int) < (n : Int)) = false := decide_eq_false (by omega)
  clear C0 C1 hcell hm
  go_enter Tryd.func35, Tryd.ntmps35
  go_wp2_with (first
    | (go_at_call 46; (with_reducible refine (HM.out _).mono ?_); rintro e W0 ⟨rfl, hW⟩; (rw [hW]); (clear hW))
    | (at_builtin; refine Lib.wpList_copy_run _ rfl _ _ 74 74 rfl _ _ rfl rfl hr1 ?_))
  clear hr1 HM hmk
  go_loopg [8] n (fun q s8 wx => ∃ k : Nat, k ≤ n ∧ n - k ≤ q ∧ (n = k ∨ 1 ≤ k) ∧ s8 = .int .i64 (k : Int) ∧ Hid (CB w w.heap.size n k wx))
  case atStart => exact ⟨m, hm2.1, by omega, by omega, rfl, HC1⟩
  case round =>
    clear HC1
    obtain ⟨k, hkn, hgk, hk1, rfl, HB⟩ := hrel
    by_cases hlt : k < n
    · have hmin : min (k : Int) (n : Int) = (k : Int) := by omega
      obtain ⟨m', hm'⟩ : ∃ m', m' = Nat.min k (n - k) := ⟨_, rfl⟩
      have hmk : m' ≤ k := by rw [hm']; exact Nat.min_le_left _ _
      have hmn : m' ≤ n - k := by rw [hm']; exact Nat.min_le_right _ _
      have hm1 : 1 ≤ m' := by
        rw [hm']
        exact Nat.le_min.2 ⟨by omega, by omega⟩
      obtain ⟨w2, hr2, C2⟩ := copy_bools HB.out.drew (Nat.le_refl _) hkn ⟨w.heap.size, 0, none⟩ k n 3 m' hm' (fun j hj => by
        rw [show (⟨w.heap.size, 0, none⟩ : Addr).add j = ⟨w.heap.size, j, none⟩ by unfold Addr.add; split <;> simp_all]
        rw [HB.out.drew.c j (by omega), decide_eq_true (by omega)])
      have hsl1 : ∀ W, (Instr.slice 74 (.slice (some ⟨w.heap.size, 0, none⟩) n n) (some (.int .i64 (k : Int))) none none).run Tryd.prog W = .ok (.slice (some ⟨w.heap.size, k, none⟩) (n - k) (n - k)) W := fun W => by
        have h := Lib.run_slice_tailV W 74 4 Tryd.underlying74 sizeBool w.heap.size n k (by omega)
        unfold Lib.tailV at h
        rw [if_neg (by omega)] at h
        exact h
      have hB2 := Lib.hid C2
      have dk : (0 : Int) ≤ (k : Int) := by omega
      have hw : IntKind.i64.wrap ((k : Int) + (m' : Int)) = (k : Int) + (m' : Int) := by clear hmin; rw [IntKind.wrap_i64]; omega
      have dkn : (k : Int) ≤ (n : Int) := by omega
      clear C2 HB hm'
      go_wp2_with fail
      go_region_law (refine step_copy _ rfl (.tmp 41) (.tmp 44) 74 74 rfl (.slice (some ⟨w.heap.size, k, none⟩) (n - k) (n - k)) (.slice (some ⟨w.heap.size, 0, none⟩) k n) (by simp [Act.eval, Act.put]) (by simp [Act.eval, Act.put]) hr2 ?_)
      clear hr2 hsl1 hmin
      go_wp2
      go_roundg (n - (k + m'))
      case measure => omega
      case rel => exact ⟨k + m', by omega, by omega, by omega, by go_num, hB2⟩
    · obtain rfl : k = n := by omega
      have HB2 := Lib.hid (show BRd wr (.slice (some ⟨w.heap.size, 0, none⟩) k k) k (fun _ => true) from ⟨_, _, rfl, fun i hi => by rw [HB.out.c i hi, decide_eq_true hi]⟩)
      have hb := HB.out.b
      clear HB
      go_wp2
      go_ret
      exact ⟨_, rfl, HB2.out, hb⟩
end Go.Proofs.YtoekemfgmdbnbaaDoor
