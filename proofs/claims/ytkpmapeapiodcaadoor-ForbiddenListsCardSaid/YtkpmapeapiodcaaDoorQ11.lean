/- What slices.Equal of rows of truth values and slices.Repeat of one that is true return. Condition: at most 64. What graph.essential returns: the states of the greatest set in which every state is entered and left. Conditions: at most 64 states, edges between states. The part of a graph on a set of states: plain facts, and rows of integers. No condition. -/
import Derived.Test.YtkpmapeapiodcaaDoorQ10
import Derived.Test.YtkpmapeapiodcaaDoorQ03
import Derived.Lib.SlBuf
import Derived.BigCall
import Derived.BigGuard
import Derived.Deep.Draws

namespace Go.Proofs.YtkpmapeapiodcaaDoor
open Go.RowKit
set_option linter.unusedSimpArgs false
set_option linter.unusedVariables false

def sameF (n : Nat) (f g : Nat → Bool) : Bool := (List.range n).all fun i => f i == g i
theorem sameF_true {n : Nat} {f g : Nat → Bool} : sameF n f g = true ↔ ∀ i, i < n → f i = g i := by
  unfold sameF
  rw [List.all_eq_true]
  constructor
  · intro h i hi; simpa using h i (List.mem_range.2 hi)
  · intro h i hi; simpa using h i (List.mem_range.1 hi)
theorem sameF_no {n i : Nat} {f g : Nat → Bool} (hi : i < n) (h : f i ≠ g i) : sameF n f g = false := by
  cases e : sameF n f g with
  | false => rfl
  | true => exact absurd (sameF_true.1 e i hi) h
set_option maxRecDepth 100000 in
set_option maxHeartbeats 3200000 in
theorem equalB_any (n : Nat) (f g : Nat → Bool) (v1 v2 : Value) (w : World) (h1 : BRd w v1 n f) (h2 : BRd w v2 n g) (hn : n ≤ 64) :
    Calls Tryd.prog 89 #[v1, v2] w fun e w' => e = .returned (.bool (sameF n f g)) ∧ Below w.heap.size w w' := by
  obtain ⟨b1, c1, rfl, k1⟩ := h1
  obtain ⟨b2, c2, rfl, k2⟩ := h2
  have H1 := Lib.hid k1
  have H2 := Lib.hid k2
  have hmx : Tryd.prog.follows .mixedOrders = true := by kernel_rfl
  clear k1 k2
  go_enter Tryd.func89, Tryd.ntmps89
  go_wp2_with fail
  go_loopg [13] n (fun k s13 wx => ∃ i : Nat, i + k = n ∧ s13 = .int .i64 (i : Int) ∧ Hid (∀ j, j < i → f j = g j) ∧ Below w.heap.size w wx)
  case atStart => exact ⟨0, by omega, rfl, Lib.hid (fun j hj => absurd hj (by omega)), Below.refl _ _⟩
  case round =>
    obtain ⟨i, hi, rfl, HI, hb⟩ := hrel
    rcases gk with _ | k
    · obtain rfl : i = n := by omega
      have HE := Lib.hid (sameF_true.2 HI.out)
      clear HI
      go_wp2_with fail
      go_ret
      exact ⟨by rw [HE.out]; rfl, hb⟩
    · have ca := cell_keep (H1.out i (by omega)) hb
      have cb := cell_keep (H2.out i (by omega)) hb
      have j1 : (i : Int) < (n : Int) := by omega
      by_cases h : f i = g i
      · have HI2 := Lib.hid (show ∀ j, j < i + 1 → f j = g j from fun j hj => by
          rcases (show j < i ∨ j = i by omega) with h1 | rfl
          · exact HI.out j h1
          · exact h)
        rw [h] at ca
        clear HI h
        generalize g i = x at ca cb
        cases x with
        | true =>
          go_wp2_with fail
          go_quiet (fail)
          go_wp2_with fail
          go_roundg k
          case measure => omega
          case rel => exact ⟨i + 1, by omega, by go_num, HI2, below_drewM hb _⟩
        | false =>
          go_wp2_with fail
          go_quiet (fail)
          go_wp2_with fail
          go_roundg k
          case measure => omega
          case rel => exact ⟨i + 1, by omega, by go_num, HI2, below_drewM hb _⟩
      · have HE := Lib.hid (sameF_no (show i < n by omega) h)
        clear HI
        cases hf : f i with
        | true =>
          have hg : g i = false := by cases e : g i with
            | true => exact absurd (hf.trans e.symm) h
            | false => rfl
          rw [hf] at ca
          rw [hg] at cb
          clear h hf hg
          go_wp2_with fail
          go_quiet (fail)
          go_wp2_with fail
          go_ret
          exact ⟨by rw [HE.out]; rfl, below_drewM hb _⟩
        | false =>
          have hg : g i = true := by cases e : g i with
            | true => rfl
            | false => exact absurd (hf.trans e.symm) h
          rw [hf] at ca
          rw [hg] at cb
          clear h hf hg
          go_wp2_with fail
          go_quiet (fail)
          go_wp2_with fail
          go_ret
          exact ⟨by rw [HE.out]; rfl, below_drewM hb _⟩
structure CB (w : World) (R n k : Nat) (W : World) : Prop where
  b : Below w.heap.size w W
  c : ∀ j, j < n → W.cell? ⟨R, j, none⟩ = some (.bool (decide (j < k)))
  f : ∀ j, j < n → W.frozen? ⟨R, j, none⟩ = false
theorem infoBools : (Tryd.prog.info? 4).map (·.size) = some 1 := by kernel_rfl
theorem sizeBool : ∀ w, (Go.sizeOf 4).run Tryd.prog w = .ok 1 w := fun w => by kernel_rfl
set_option maxRecDepth 100000 in
theorem copy_bools {w W : World} {R n k : Nat} (h : CB w R n k W) (hR : w.heap.size ≤ R) (hk : k ≤ n) (a : Addr) (sLen cap : Nat) (ty : TypeId) (m : Nat) (hm : m = Nat.min sLen (n - k)) (hc : ∀ j, j < m → W.cell? (a.add j) = some (.bool true)) :
    ∃ W', (Builtin.copy_ #[104, 104] ty #[.slice (some ⟨R, k, none⟩) (n - k) (n - k), .slice (some a) sLen cap]).run Tryd.prog W = .ok (.int .i64 (m : Int)) W' ∧ CB w R n (k + m) W' := by
  have hm2 : m ≤ n - k := by rw [hm]; exact Nat.min_le_right _ _
  have hr := run_copy_cells (P := Tryd.prog) W 104 104 ty 4 R k (n - k) (n - k) a sLen cap (List.replicate m (.bool true)) Tryd.underlying104 infoBools (by rw [List.length_replicate]; exact hm)
    (fun j u hj => by
      have hj2 : j < m := by have := (List.getElem?_eq_some_iff.1 hj).1; rwa [List.length_replicate] at this
      rw [List.getElem?_replicate, if_pos hj2] at hj
      injection hj with hj
      subst hj
      exact hc j hj2)
    (fun j hj => by rw [List.length_replicate] at hj; rw [h.c _ (by omega)]; rfl) (fun j hj => by rw [List.length_replicate] at hj; exact h.f _ (by omega))
    (fun u hu => by rw [List.eq_of_mem_replicate hu]; rfl)
  rw [List.length_replicate] at hr
  refine ⟨_, hr, ?_⟩
  have hin := World.cell?_setCells_in R (List.replicate m (Value.bool true)) k W (fun j hj => by rw [List.length_replicate] at hj; rw [h.c _ (by omega)]; rfl)
  have hout := World.cell?_setCells_out R (List.replicate m (Value.bool true)) k W
  refine ⟨Lib.below_setCells R hR _ _ h.b, fun j hj => ?_, fun j hj => ?_⟩
  · by_cases h1 : k ≤ j ∧ j < k + m
    · obtain ⟨d, rfl⟩ : ∃ d, j = k + d := ⟨j - k, by omega⟩
      refine (hin d (by rw [List.length_replicate]; omega)).trans ?_
      rw [show decide (k + d < k + m) = true from decide_eq_true (by omega), List.getElem_replicate]
    · rw [hout ⟨R, j, none⟩ (fun _ _ => by rw [List.length_replicate]; show j < _ ∨ _ ≤ j; omega), h.c j hj]
      congr 2
      rw [decide_eq_decide]
      omega
  · rw [World.frozen?_setCells]
    exact h.f j hj
theorem CB.drew {w W : World} {R n k : Nat} (h : CB w R n k W) : CB w R n k W.drew := ⟨h.b.drew, h.c, h.f⟩
theorem step_copy {P : Program} (w : World) {ops : Array Oper} {o : Oper} {a : Act} {K : Act → World → Prop} {Q : Exit → Act → World → Prop} {E : Prop} (hgd : o.guard = none) (d s : Operand) (t t' : TypeId)
    (ho : o.op = .call { callee := .builtin .copy, args := #[d, s], argTypes := #[t, t'] }) (v u : Value) (hd : a.eval d = v) (hs : a.eval s = u) {v' : Value} {w' : World}
    (hr : (Builtin.copy_ #[t, t'] o.type #[v, u]).run P w = .ok v' w') (h : K (a.put o.dst v') w') : if Region.wanted o (yielded ops a.tmps) = true then Oper.wp P o a w K Q else E := by
  have hw : Region.wanted o (yielded ops a.tmps) = true := by simp [Region.wanted, hgd]
  rw [if_pos hw]
  exact Lib.wp_copy_run w d s t t' ho v u hd hs hr h
set_option maxRecDepth 100000 in
set_option maxHeartbeats 6400000 in
theorem repeatB_any (n b cap : Nat) (w : World) (hn : n ≤ 64) (hcell : w.cell? ⟨b, 0, none⟩ = some (.bool true)) :
    Calls Tryd.prog 87 #[.slice (some ⟨b, 0, none⟩) 1 cap, .int .i64 (n : Int)] w fun e w' => ∃ v, e = .returned v ∧ BRd w' v n (fun _ => true) ∧ Below w.heap.size w w' := by
  have hM : ∀ W, Calls Tryd.prog 105 #[.int .u64 1, .int .u64 (n : Int)] W fun e w' => e = .returned (.tuple #[.int .u64 0, .int .u64 (n : Int)]) ∧ w' = W := fun W => by
    have k := Tryd.bits_Mul 1 n (by omega) (by omega) W
    rw [show 1 * n / 18446744073709551616 = 0 by omega, show 1 * n % 18446744073709551616 = n by omega] at k
    exact k
  have HM := Lib.hid hM
  clear hM
  have hmx : Tryd.prog.follows .mixedOrders = true := by kernel_rfl
  have hmk := make_bools n (by omega)
  have C0 : CB w w.heap.size n 0 (w.alloc (.cells (madeCells #[.bool false] n) 4)) :=
    ⟨below1 w _, fun j hj => by rw [(BRow.made w n).cell hj]; rfl, fun j _ => (BRow.made w n).frozen j⟩
  obtain ⟨m, hm⟩ : ∃ m, m = Nat.min 1 (n - 0) := ⟨_, rfl⟩
  obtain ⟨w1, hr1, C1⟩ := copy_bools C0 (Nat.le_refl _) (Nat.zero_le _) ⟨b, 0, none⟩ 1 cap 3 m hm (fun j hj => by
    have h1 : m ≤ 1 := by rw [hm]; exact Nat.min_le_left _ _
    obtain rfl : j = 0 := by omega
    exact cell_keep hcell (below1 w _))
  have hm2 : m ≤ n ∧ (n = m ∨ (1 ≤ m ∧ m ≤ n)) := by
    rcases Nat.eq_zero_or_pos n with h | h
    · subst h; have : m = 0 := hm; omega
    · have : m = 1 := by rw [hm, Nat.sub_zero]; exact Nat.min_eq_left h
      omega
  rw [Nat.sub_zero] at hr1
  rw [Nat.zero_add] at C1
  have HC1 := Lib.hid C1
  have d0 : decide ((9223372036854775807 : Int) < (n : Int)) = false := decide_eq_false (by omega)
  clear C0 C1 hcell hm
  go_enter Tryd.func87, Tryd.ntmps87
  go_wp2_with (first
    | (go_at_call 105; (with_reducible refine (HM.out _).mono ?_); rintro e W0 ⟨rfl, hW⟩; (rw [hW]); (clear hW))
    | (at_builtin; refine Lib.wpList_copy_run _ rfl _ _ 104 104 rfl _ _ rfl rfl hr1 ?_))
  clear hr1 HM hmk
  go_loopg [8] n (fun q s8 wx => ∃ k : Nat, k ≤ n ∧ n - k ≤ q ∧ (n = k ∨ 1 ≤ k) ∧ s8 = .int .i64 (k : Int) ∧ Hid (CB w w.heap.size n k wx))
  case atStart => exact ⟨m, hm2.1, by omega, by omega, rfl, HC1⟩
  case round =>
    clear HC1
    obtain ⟨k, hkn, hgk, hk1, rfl, HB⟩ := hrel
    by_cases hlt : k < n
    · have hmin : min (k : Int) (n : Int) = (k : Int) := by omega
      obtain ⟨m', hm'⟩ : ∃ m', m' = Nat.min k (n - k) := ⟨_, rfl⟩
      have hmk : m' ≤ k := by rw [hm']; exact Nat.min_le_left _ _
      have hmn : m' ≤ n - k := by rw [hm']; exact Nat.min_le_right _ _
      have hm1 : 1 ≤ m' := by
        rw [hm']
        exact Nat.le_min.2 ⟨by omega, by omega⟩
      obtain ⟨w2, hr2, C2⟩ := copy_bools HB.out.drew (Nat.le_refl _) hkn ⟨w.heap.size, 0, none⟩ k n 3 m' hm' (fun j hj => by
        rw [show (⟨w.heap.size, 0, none⟩ : Addr).add j = ⟨w.heap.size, j, none⟩ by unfold Addr.add; split <;> simp_all]
        rw [HB.out.drew.c j (by omega), decide_eq_true (by omega)])
      have hsl1 : ∀ W, (Instr.slice 104 (.slice (some ⟨w.heap.size, 0, none⟩) n n) (some (.int .i64 (k : Int))) none none).run Tryd.prog W = .ok (.slice (some ⟨w.heap.size, k, none⟩) (n - k) (n - k)) W := fun W => by
        have h := Lib.run_slice_tailV W 104 4 Tryd.underlying104 sizeBool w.heap.size n k (by omega)
        unfold Lib.tailV at h
        rw [if_neg (by omega)] at h
        exact h
      have hB2 := Lib.hid C2
      have dk : (0 : Int) ≤ (k : Int) := by omega
      have hw : IntKind.i64.wrap ((k : Int) + (m' : Int)) = (k : Int) + (m' : Int) := by clear hmin; rw [IntKind.wrap_i64]; omega
      have dkn : (k : Int) ≤ (n : Int) := by omega
      clear C2 HB hm'
      go_wp2_with fail
      go_region_law (refine step_copy _ rfl (.tmp 41) (.tmp 44) 104 104 rfl (.slice (some ⟨w.heap.size, k, none⟩) (n - k) (n - k)) (.slice (some ⟨w.heap.size, 0, none⟩) k n) (by simp [Act.eval, Act.put]) (by simp [Act.eval, Act.put]) hr2 ?_)
      clear hr2 hsl1 hmin
      go_wp2
      go_roundg (n - (k + m'))
      case measure => omega
      case rel => exact ⟨k + m', by omega, by omega, by omega, by go_num, hB2⟩
    · obtain rfl : k = n := by omega
      have HB2 := Lib.hid (show BRd wr (.slice (some ⟨w.heap.size, 0, none⟩) k k) k (fun _ => true) from ⟨_, _, rfl, fun i hi => by rw [HB.out.c i hi, decide_eq_true hi]⟩)
      have hb := HB.out.b
      clear HB
      go_wp2
      go_ret
      exact ⟨_, rfl, HB2.out, hb⟩
end Go.Proofs.YtkpmapeapiodcaaDoor

namespace Go.Proofs.YtkpmapeapiodcaaDoor
open Go.RowKit
set_option linter.unusedSimpArgs false
set_option linter.unusedVariables false

def Closed (n : Nat) (es : List E3) (T : Nat → Bool) : Prop := ∀ i, i < n → T i = true → passF T es i = true
structure Ess (n : Nat) (es : List E3) (f : Nat → Bool) : Prop where
  fix : ∀ i, i < n → passF f es i = f i
  most : ∀ T, Closed n es T → ∀ i, i < n → T i = true → f i = true
theorem passF_iff {f : Nat → Bool} {es : List E3} {s : Nat} : passF f es s = true ↔ (∃ e ∈ es, (f e.1.toNat = true ∧ f e.2.2.toNat = true) ∧ e.2.2 = (s : Int)) ∧ (∃ e ∈ es, (f e.1.toNat = true ∧ f e.2.2.toNat = true) ∧ e.1 = (s : Int)) := by
  unfold passF enteredF leftF bothF
  simp only [Bool.and_eq_true, List.any_eq_true, decide_eq_true_eq]
theorem okE_st {L : Int} {n : Nat} {e : E3} (h : okE L (n : Int) e = true) : e.1.toNat < n ∧ e.2.2.toNat < n ∧ e.1 = (e.1.toNat : Int) ∧ e.2.2 = (e.2.2.toNat : Int) := by
  rw [okE_iff] at h; omega
theorem passF_le {L : Int} {n : Nat} {es : List E3} (hok : ∀ e ∈ es, okE L (n : Int) e = true) {f : Nat → Bool} {s : Nat} (h : passF f es s = true) : f s = true := by
  obtain ⟨⟨e, he, ⟨-, h2⟩, h3⟩, -⟩ := passF_iff.1 h
  rw [h3] at h2; simpa using h2
theorem passF_mono {L : Int} {n : Nat} {es : List E3} (hok : ∀ e ∈ es, okE L (n : Int) e = true) {f g : Nat → Bool} (hfg : ∀ i, i < n → f i = true → g i = true) {s : Nat} (h : passF f es s = true) : passF g es s = true := by
  obtain ⟨⟨e, he, ⟨h1, h2⟩, h3⟩, ⟨d, hd, ⟨k1, k2⟩, k3⟩⟩ := passF_iff.1 h
  obtain ⟨a1, a2, -, -⟩ := okE_st (hok e he)
  obtain ⟨b1, b2, -, -⟩ := okE_st (hok d hd)
  exact passF_iff.2 ⟨⟨e, he, ⟨hfg _ a1 h1, hfg _ a2 h2⟩, h3⟩, ⟨d, hd, ⟨hfg _ b1 k1, hfg _ b2 k2⟩, k3⟩⟩
def cntF (n : Nat) (f : Nat → Bool) : Nat := ((List.range n).filter f).length
theorem cntF_le (n : Nat) (f : Nat → Bool) : cntF n f ≤ n := by
  unfold cntF; exact Nat.le_trans (List.length_filter_le _ _) (by simp)
theorem filter_sub {α : Type} (l : List α) {f g : α → Bool} (h : ∀ x ∈ l, f x = true → g x = true) : (l.filter f).length ≤ (l.filter g).length := by
  induction l with
  | nil => exact Nat.le_refl _
  | cons a l ih =>
    have ih2 := ih (fun x hx => h x (List.mem_cons_of_mem _ hx))
    have ha := h a List.mem_cons_self
    rw [List.filter_cons, List.filter_cons]
    cases hf : f a with
    | true =>
      rw [ha hf]
      simpa using ih2
    | false =>
      cases hg : g a with
      | true => simp; omega
      | false => simpa using ih2
theorem filter_less {α : Type} (l : List α) {f g : α → Bool} (h : ∀ x ∈ l, f x = true → g x = true) (h2 : ∃ x ∈ l, f x ≠ g x) : (l.filter f).length < (l.filter g).length := by
  induction l with
  | nil => obtain ⟨x, hx, _⟩ := h2; cases hx
  | cons a l ih =>
    have hs := filter_sub l (fun x hx => h x (List.mem_cons_of_mem _ hx))
    have ha := h a List.mem_cons_self
    obtain ⟨x, hx, hne⟩ := h2
    rw [List.filter_cons, List.filter_cons]
    cases hf : f a with
    | true =>
      rw [ha hf]
      have : ∃ x ∈ l, f x ≠ g x := by
        rcases List.mem_cons.1 hx with rfl | hx
        · exact absurd (hf.trans (ha hf).symm) hne
        · exact ⟨x, hx, hne⟩
      have := ih (fun x hx => h x (List.mem_cons_of_mem _ hx)) this
      simpa using this
    | false =>
      cases hg : g a with
      | true => simp; omega
      | false =>
        have : ∃ x ∈ l, f x ≠ g x := by
          rcases List.mem_cons.1 hx with rfl | hx
          · exact absurd (hf.trans hg.symm) hne
          · exact ⟨x, hx, hne⟩
        have := ih (fun x hx => h x (List.mem_cons_of_mem _ hx)) this
        simpa using this
theorem cntF_less {n : Nat} {f g : Nat → Bool} (h : ∀ i, i < n → f i = true → g i = true) (h2 : sameF n f g = false) : cntF n f < cntF n g := by
  refine filter_less _ (fun x hx => h x (List.mem_range.1 hx)) ?_
  have : ¬ ∀ i, i < n → f i = g i := fun h3 => by rw [sameF_true.2 h3] at h2; cases h2
  simp only [Classical.not_forall] at this
  obtain ⟨x, hx, hne⟩ := this
  exact ⟨x, List.mem_range.2 hx, hne⟩
set_option maxRecDepth 100000 in
set_option maxHeartbeats 6400000 in
theorem essential_any (L : Int) (n : Nat) (es : List E3) (v : Value) (w : World) (hrd : EdgesRd w v es) (hn : n ≤ 64) (hok : ∀ e ∈ es, okE L (n : Int) e = true) (hlen : es.length ≤ 1024) :
    Calls Tryd.prog 63 #[grV L (n : Int) v] w fun e w' => ∃ f, Ess n es f ∧ NewInts w (mems n f) e w' := by
  have HRD := Lib.hid hrd
  have HOK := Lib.hid hok
  have HP := Lib.hid (fun vb f W h h2 => passed_any L n es v vb f W h h2 hn hok hlen)
  obtain ⟨a, c, rfl⟩ := hrd.form
  have hg := BoxG.new w L (n : Int) (.slice a es.length c) 41
  have hb0 := below1 w (.cells #[.int .i64 L, .int .i64 (n : Int), .slice a es.length c] 41)
  have hb1 := hb0.alloc hb0.size (.cells #[.bool true] 4)
  have hg1 := hg.keep (below1 _ (.cells #[.bool true] 4))
  have hc1 : ((w.alloc (.cells #[.int .i64 L, .int .i64 (n : Int), .slice a es.length c] 41)).alloc (.cells #[.bool true] 4)).cell? ⟨w.heap.size + 1, 0, none⟩ = some (.bool true) := by simp [go_sem]
  clear hrd hok
  have HR := Lib.hid (fun b cap W h => repeatB_any n b cap W hn h)
  have hG1 := Lib.hid hg1
  have hB1 := Lib.hid hb1
  have hC1 := Lib.hid hc1
  obtain ⟨g1, g2, g3⟩ := id hg
  clear hg hb0 hb1 hg1 hc1
  go_enter Tryd.func63, Tryd.ntmps63
  go_wp2_with (first
    | (go_at_call 87; (with_reducible refine (HR.out _ _ _ hC1.out).mono ?_); rintro e0 W1 ⟨v3, rfl, i3, b3⟩; (have hG2 := Lib.hid (hG1.out.keep b3)); (have hB2 := Lib.hid (below_more hB1.out (Nat.le_refl _) b3)); (have H3 := Lib.hid i3); (clear b3 i3)))
  obtain ⟨b3, c3, rfl, -⟩ := id H3.out
  have HOKE := Lib.hid (fun f g (h : ∀ i, i < n → f i = true → g i = true) s => passF_mono (f := f) (g := g) HOK.out h (s := s))
  go_loopg [3] n (fun q s3 wx => ∃ (f : Nat → Bool) (b c' : Nat), s3 = .slice (some ⟨b, 0, none⟩) n c' ∧ BRd wx (.slice (some ⟨b, 0, none⟩) n c') n f ∧ Hid (cntF n f ≤ q) ∧ Hid (∀ T, Closed n es T → ∀ i, i < n → T i = true → f i = true) ∧
    BoxG wx w.heap.size L (n : Int) (.slice a es.length c) ∧ Below w.heap.size w wx)
  case atStart => exact ⟨_, b3, c3, rfl, H3.out, Lib.hid (cntF_le _ _), Lib.hid (fun T _ i _ _ => rfl), hG2.out, hB2.out⟩
  case round =>
    clear g1 g2 g3 H3 hG2 hB2
    obtain ⟨f, b, c', rfl, hrd, HC, HM, hG, hb⟩ := hrel
    have HRW := Lib.hid (HRD.out.keep hb)
    have HF := Lib.hid hrd
    have HG := Lib.hid hG
    have HBW := Lib.hid hb
    obtain ⟨g1, g2, g3⟩ := id hG
    clear hrd hG hb
    cases hs : sameF n (passF f es) f with
    | true =>
      have HE := Lib.hid (show Ess n es f from ⟨sameF_true.1 hs, HM.out⟩)
      have HS := Lib.hid hs
      clear HC HM hs
      go_wp2_with (first
        | (go_at_call 88; (with_reducible refine (HP.out _ _ _ HRW.out HF.out).mono ?_); rintro e0 W2 ⟨r, rfl, br, lr, b2⟩; (have hF2 := Lib.hid (HF.out.keep b2)); (have hB3 := Lib.hid (below_more HBW.out (Nat.le_refl _) b2)); (have hR2 := Lib.hid (br.rd n)); (clear br b2))
        | (go_at_call 89; (with_reducible refine (equalB_any n _ _ _ _ _ hR2.out hF2.out hn).mono ?_); rintro e0 W3 ⟨rfl, b3⟩; (rw [HS.out]); (have hF3 := Lib.hid (hF2.out.keep b3)); (have hB4 := Lib.hid (below_more hB3.out (Nat.le_refl _) b3)); (clear b3))
        | (go_at_call 90; (with_reducible refine (members_any n f _ _ hF3.out hn).mono ?_); rintro e0 W4 ⟨v4, rfl, i4, b4⟩; (have hI4 := Lib.hid (own_low (A := w.heap.size) i4 hB4.out.size)); (have hB5 := Lib.hid (below_more hB4.out (Nat.le_refl _) b4)); (clear b4 i4)))
      go_ret
      exact ⟨f, HE.out, _, rfl, hI4.out, hB5.out⟩
    | false =>
      have hlt : cntF n (passF f es) < cntF n f := cntF_less (f := passF f es) (g := f) (fun i _ h => passF_le HOK.out h) hs
      rcases gk with _ | q
      · exact absurd HC.out (by omega)
      · have HC2 := Lib.hid (show cntF n (passF f es) ≤ q by have := HC.out; omega)
        have HM2 := Lib.hid (show ∀ T, Closed n es T → ∀ i, i < n → T i = true → passF f es i = true from fun T hT i hi h => HOKE.out T f (HM.out T hT) i (hT i hi h))
        have HS := Lib.hid hs
        clear HC HM hs hlt
        go_wp2_with (first
          | (go_at_call 88; (with_reducible refine (HP.out _ _ _ HRW.out HF.out).mono ?_); rintro e0 W2 ⟨r, rfl, br, lr, b2⟩; (have hF2 := Lib.hid (HF.out.keep b2)); (have hG2 := Lib.hid (HG.out.keep b2)); (have hB3 := Lib.hid (below_more HBW.out (Nat.le_refl _) b2)); (have hR2 := Lib.hid (br.rd n)); (clear br b2))
          | (go_at_call 89; (with_reducible refine (equalB_any n _ _ _ _ _ hR2.out hF2.out hn).mono ?_); rintro e0 W3 ⟨rfl, b3⟩; (rw [HS.out]); (have hR3 := Lib.hid (hR2.out.keep b3)); (have hG3 := Lib.hid (hG2.out.keep b3)); (have hB4 := Lib.hid (below_more hB3.out (Nat.le_refl _) b3)); (clear b3)))
        go_roundg q
        case measure => omega
        case rel => exact ⟨_, r, n, rfl, hR3.out, HC2, HM2, hG3.out, hB4.out⟩
end Go.Proofs.YtkpmapeapiodcaaDoor

namespace Go.Proofs.YtkpmapeapiodcaaDoor
open Go.RowKit
set_option linter.unusedSimpArgs false
set_option linter.unusedVariables false

def IRow (W : World) (b n : Nat) (f : Nat → Int) : Prop := W.rowIs b 3 n (fun i => .int .i64 (f i))
section
variable {W W' : World} {b n : Nat} {f g : Nat → Int}
theorem IRow.keep (h : IRow W b n f) (hb : Below W.heap.size W W') : IRow W' b n f := World.rowIs.of_block h (hb.block b (World.rowIs.lt h))
theorem IRow.made (w : World) (n : Nat) : IRow (w.alloc (.cells (madeCells #[.int .i64 0] n) 3)) w.heap.size n (fun _ => 0) := World.rowIs_made w _ n _
theorem IRow.set (h : IRow W b n f) (i : Nat) (x : Int) : IRow (W.setCell ⟨b, i, none⟩ (.int .i64 x)) b n (fun j => if j = i then x else f j) :=
  World.rowIs.congr (World.rowIs.set h i (.int .i64 x)) (fun j _ => by dsimp only; split <;> rfl)
theorem IRow.other (h : IRow W b n f) {a : Addr} (ha : b ≠ a.block) (v : Value) : IRow (W.setCell a v) b n f := World.rowIs.setOther h ha v
theorem IRow.congr (h : IRow W b n f) (e : ∀ i, i < n → f i = g i) : IRow W b n g := World.rowIs.congr h (fun i hi => by rw [e i hi])
theorem IRow.cell (h : IRow W b n f) {i : Nat} (hi : i < n) : W.cell? ⟨b, i, none⟩ = some (.int .i64 (f i)) := World.rowIs.cell h hi
theorem IRow.frozen (h : IRow W b n f) (i : Nat) : W.frozen? ⟨b, i, none⟩ = false := World.rowIs.frozen h i
theorem IRow.lt (h : IRow W b n f) : b < W.heap.size := World.rowIs.lt h
end
theorem IntsRd.at {W : World} {v : Value} {l : List Int} (h : IntsRd W v l) {i : Nat} {x : Int} (he : l[i]? = some x) : ∃ b off c, v = .slice (some ⟨b, off, none⟩) l.length c ∧ W.cell? ⟨b, off + i, none⟩ = some (.int .i64 x) := by
  obtain ⟨a, c, rfl, h1⟩ := h
  obtain ⟨b, off, rfl, k⟩ := h1 i x he
  exact ⟨b, off, c, rfl, k⟩
theorem IntsRd.form {W : World} {v : Value} {l : List Int} (h : IntsRd W v l) : ∃ a c, v = .slice a l.length c := by
  obtain ⟨a, c, rfl, h1⟩ := h
  exact ⟨a, c, rfl⟩
def hasF (st : List Int) (j : Nat) : Bool := decide ((j : Int) ∈ st)
def numF (st : List Int) (j : Nat) : Int := if (j : Int) ∈ st then (st.idxOf (j : Int) : Int) else 0
theorem hasF_snoc (st : List Int) (s : Nat) (j : Nat) : hasF (st ++ [(s : Int)]) j = if j = s then true else hasF st j := by
  unfold hasF
  by_cases e : j = s
  · subst e; simp
  · rw [if_neg e, decide_eq_decide, List.mem_append, List.mem_singleton]
    constructor
    · rintro (h | h)
      · exact h
      · exact absurd (show j = s by omega) e
    · exact Or.inl
theorem numF_snoc {st : List Int} {s : Nat} (h : (s : Int) ∉ st) (j : Nat) : numF (st ++ [(s : Int)]) j = if j = s then (st.length : Int) else numF st j := by
  unfold numF
  by_cases e : j = s
  · subst e
    rw [if_pos rfl, if_pos (by simp), List.idxOf_append, if_neg h]
    simp
  · rw [if_neg e]
    by_cases h2 : (j : Int) ∈ st
    · rw [if_pos h2, if_pos (by simp [h2]), List.idxOf_append, if_pos h2]
    · rw [if_neg h2, if_neg]
      rw [List.mem_append, List.mem_singleton]
      rintro (h | h)
      · exact h2 h
      · exact e (by omega)
def partE (st : List Int) (es : List E3) : List E3 := es.filterMap fun e => if e.1 ∈ st ∧ e.2.2 ∈ st then some ((st.idxOf e.1 : Int), e.2.1, (st.idxOf e.2.2 : Int)) else none
theorem partE_snoc (st : List Int) (es : List E3) (e : E3) : partE st (es ++ [e]) = partE st es ++ (if e.1 ∈ st ∧ e.2.2 ∈ st then [((st.idxOf e.1 : Int), e.2.1, (st.idxOf e.2.2 : Int))] else []) := by
  unfold partE
  rw [List.filterMap_append]
  congr 1
  by_cases h : e.1 ∈ st ∧ e.2.2 ∈ st
  · rw [if_pos h]; simp [h]
  · rw [if_neg h]; simp [h]
theorem partE_len (st : List Int) (es : List E3) : (partE st es).length ≤ es.length := List.length_filterMap_le _ _
theorem asc_not_mem {l : List Int} (h : l.Pairwise (· < ·)) {i : Nat} {x : Int} (hx : l[i]? = some x) : x ∉ l.take i := by
  intro hm
  obtain ⟨j, hj, e⟩ := List.mem_take_iff_getElem.1 hm
  have hi := (List.getElem?_eq_some_iff.1 hx).1
  have h1 := List.pairwise_iff_getElem.1 h j i (by omega) hi (by omega)
  rw [e] at h1
  rw [List.getElem?_eq_getElem hi] at hx
  injection hx with hx
  omega
theorem asc_len : ∀ {l : List Int} {a b : Int}, l.Pairwise (· < ·) → (∀ x ∈ l, a ≤ x ∧ x < b) → a ≤ b → (l.length : Int) ≤ b - a
  | [], a, b, _, _, h => by simp; omega
  | x :: l, a, b, h1, h2, h3 => by
    obtain ⟨k1, k2⟩ := List.pairwise_cons.1 h1
    have hx := h2 x List.mem_cons_self
    have := asc_len (a := x + 1) (b := b) k2 (fun y hy => ⟨by have := k1 y hy; omega, (h2 y (List.mem_cons_of_mem _ hy)).2⟩) (by omega)
    rw [List.length_cons]
    omega
theorem SG.len {n : Nat} {l : List Int} (h : SG (n : Int) l) : l.length ≤ n := by
  have := asc_len h.asc h.bd (by omega)
  omega
def BoxF (W : World) (p : Nat) (L S : Int) (v : Value) : Prop := BoxG W p L S v ∧ W.frozen? ⟨p, 0, none⟩ = false ∧ W.frozen? ⟨p, 1, none⟩ = false ∧ W.frozen? ⟨p, 2, none⟩ = false
section
variable {W W' : World} {p : Nat} {L S : Int} {v : Value}
theorem BoxF.keep (h : BoxF W p L S v) (hb : Below W.heap.size W W') : BoxF W' p L S v :=
  ⟨h.1.keep hb, frozen_keep h.1.1 h.2.1 hb, frozen_keep h.1.2.1 h.2.2.1 hb, frozen_keep h.1.2.2 h.2.2.2 hb⟩
theorem BoxF.new (W : World) (L S : Int) (v : Value) (t : TypeId) : BoxF (W.alloc (.cells #[.int .i64 L, .int .i64 S, v] t)) W.heap.size L S v := by
  refine ⟨BoxG.new W L S v t, ?_, ?_, ?_⟩ <;> simp [go_sem]
theorem BoxF.other (h : BoxF W p L S v) {a : Addr} (ha : a.block ≠ p) (x : Value) : BoxF (W.setCell a x) p L S v :=
  ⟨boxG_other h.1 ha x, by rw [World.frozen?_setCell]; exact h.2.1, by rw [World.frozen?_setCell]; exact h.2.2.1, by rw [World.frozen?_setCell]; exact h.2.2.2⟩
theorem BoxF.lt (h : BoxF W p L S v) : p < W.heap.size := World.block_lt_of_cell? W ⟨p, 0, none⟩ h.1.1
end
end Go.Proofs.YtkpmapeapiodcaaDoor
