/- What graph.essential returns: the states of the greatest set in which every state is entered and left. Conditions: at most 64 states, edges between states. -/
import Derived.Test.YtoekemfgmdbnbaaDoorVh
namespace Go.Proofs.YtoekemfgmdbnbaaDoor
open Go.RowKit
set_option linter.unusedSimpArgs false
set_option linter.unusedVariables false

/-- Every state of T has an edge to it, and one from it, between states of T. -/
def Closed (n : Nat) (es : List E3) (T : Nat → Bool) : Prop := ∀ i, i < n → T i = true → passF T es i = true
structure Ess (n : Nat) (es : List E3) (f : Nat → Bool) : Prop where
  fix : ∀ i, i < n → passF f es i = f i
  most : ∀ T, Closed n es T → ∀ i, i < n → T i = true → f i = true
theorem passF_iff {f : Nat → Bool} {es : List E3} {s : Nat} : passF f es s = true ↔ (∃ e ∈ es, (f e.1.toNat = true ∧ f e.2.2.toNat = true) ∧ e.2.2 = (s : Int)) ∧ (∃ e ∈ es, (f e.1.toNat = true ∧ f e.2.2.toNat = true) ∧ e.1 = (s : Int)) := by
  unfold passF enteredF leftF bothF
  simp only [Bool.and_eq_true, List.any_eq_true, decide_eq_true_eq]
theorem okE_st {L : Int} {n : Nat} {e : E3} (h : okE L (n : Int) e = true) : e.1.toNat < n ∧ e.2.2.toNat < n ∧ e.1 = (e.1.toNat : Int) ∧ e.2.2 = (e.2.2.toNat : Int) := by
  rw [okE_iff] at h; omega
theorem passF_le {L : Int} {n : Nat} {es : List E3} (hok : ∀ e ∈ es, okE L (n : Int) e = true) {f : Nat → Bool} {s : Nat} (h : passF f es s = true) : f s = true := by
  obtain ⟨⟨e, he, ⟨-, h2⟩, h3⟩, -⟩ := passF_iff.1 h
  rw [h3] at h2; simpa using h2
theorem passF_mono {L : Int} {n : Nat} {es : List E3} (hok : ∀ e ∈ es, okE L (n : Int) e = true) {f g : Nat → Bool} (hfg : ∀ i, i < n → f i = true → g i = true) {s : Nat} (h : passF f es s = true) : passF g es s = true := by
  obtain ⟨⟨e, he, ⟨h1, h2⟩, h3⟩, ⟨d, hd, ⟨k1, k2⟩, k3⟩⟩ := passF_iff.1 h
  obtain ⟨a1, a2, -, -⟩ := okE_st (hok e he)
  obtain ⟨b1, b2, -, -⟩ := okE_st (hok d hd)
  exact passF_iff.2 ⟨⟨e, he, ⟨hfg _ a1 h1, hfg _ a2 h2⟩, h3⟩, ⟨d, hd, ⟨hfg _ b1 k1, hfg _ b2 k2⟩, k3⟩⟩
theorem passF_congr {L : Int} {n : Nat} {es : List E3} (hok : ∀ e ∈ es, okE L (n : Int) e = true) {f g : Nat → Bool} (hfg : ∀ i, i < n → f i = g i) (s : Nat) : passF f es s = passF g es s := by
  rw [Bool.eq_iff_iff]
  exact ⟨passF_mono hok (fun i hi h => (hfg i hi) ▸ h), passF_mono hok (fun i hi h => (hfg i hi) ▸ h)⟩
def cntF (n : Nat) (f : Nat → Bool) : Nat := ((List.range n).filter f).length
theorem cntF_le (n : Nat) (f : Nat → Bool) : cntF n f ≤ n := by
  unfold cntF; exact Nat.le_trans (List.length_filter_le _ _) (by simp)
theorem filter_sub {α : Type} (l : List α) {f g : α → Bool} (h : ∀ x ∈ l, f x = true → g x = true) : (l.filter f).length ≤ (l.filter g).length := by
  induction l with
  | nil => exact Nat.le_refl _
  | cons a l ih =>
    have ih2 := ih (fun x hx => h x (List.mem_cons_of_mem _ hx))
    have ha := h a List.mem_cons_self
    rw [List.filter_cons, List.filter_cons]
    cases hf : f a with
    | true =>
      rw [ha hf]
      simpa using ih2
    | false =>
      cases hg : g a with
      | true => simp; omega
      | false => simpa using ih2
theorem filter_less {α : Type} (l : List α) {f g : α → Bool} (h : ∀ x ∈ l, f x = true → g x = true) (h2 : ∃ x ∈ l, f x ≠ g x) : (l.filter f).length < (l.filter g).length := by
  induction l with
  | nil => obtain ⟨x, hx, _⟩ := h2; cases hx
  | cons a l ih =>
    have hs := filter_sub l (fun x hx => h x (List.mem_cons_of_mem _ hx))
    have ha := h a List.mem_cons_self
    obtain ⟨x, hx, hne⟩ := h2
    rw [List.filter_cons, List.filter_cons]
    cases hf : f a with
    | true =>
      rw [ha hf]
      have : ∃ x ∈ l, f x ≠ g x := by
        rcases List.mem_cons.1 hx with rfl | hx
        · exact absurd (hf.trans (ha hf).symm) hne
        · exact ⟨x, hx, hne⟩
      have := ih (fun x hx => h x (List.mem_cons_of_mem _ hx)) this
      simpa using this
    | false =>
      cases hg : g a with
      | true => simp; omega
      | false =>
        have : ∃ x ∈ l, f x ≠ g x := by
          rcases List.mem_cons.1 hx with rfl | hx
          · exact absurd (hf.trans hg.symm) hne
          · exact ⟨x, hx, hne⟩
        have := ih (fun x hx => h x (List.mem_cons_of_mem _ hx)) this
        simpa using this
theorem cntF_less {n : Nat} {f g : Nat → Bool} (h : ∀ i, i < n → f i = true → g i = true) (h2 : sameF n f g = false) : cntF n f < cntF n g := by
  refine filter_less _ (fun x hx => h x (List.mem_range.1 hx)) ?_
  have : ¬ ∀ i, i < n → f i = g i := fun h3 => by rw [sameF_true.2 h3] at h2; cases h2
  simp only [Classical.not_forall] at this
  obtain ⟨x, hx, hne⟩ := this
  exact ⟨x, List.mem_range.2 hx, hne⟩
set_option maxRecDepth 100000 in
set_option maxHeartbeats 6400000 in
theorem essential_any (L : Int) (n : Nat) (es : List E3) (v : Value) (w : World) (hrd : EdgesRd w v es) (hn : n ≤ 64) (hok : ∀ e ∈ es, okE L (n : Int) e = true) (hlen : es.length ≤ 1024) :
    Calls Tryd.prog 24 #[grV L (n : Int) v] w fun e w' => ∃ f, Ess n es f ∧ NewInts w (mems n f) e w' := by
  have HRD := Lib.hid hrd
  have HOK := Lib.hid hok
  have HP := Lib.hid (fun vb f W h h2 => passed_any L n es v vb f W h h2 hn hok hlen)
  obtain ⟨a, c, rfl⟩ := hrd.form
  have hg := BoxG.new w L (n : Int) (.slice a es.length c) 24
  have hb0 := below1 w (.cells #[.int .i64 L, .int .i64 (n : Int), .slice a es.length c] 24)
  have hb1 := hb0.alloc hb0.size (.cells #[.bool true] 4)
  have hg1 := hg.keep (below1 _ (.cells #[.bool true] 4))
  have hc1 : ((w.alloc (.cells #[.int .i64 L, .int .i64 (n : Int), .slice a es.length c] 24)).alloc (.cells #[.bool true] 4)).cell? ⟨w.heap.size + 1, 0, none⟩ = some (.bool true) := by simp [go_sem]
  clear hrd hok
  have HR := Lib.hid (fun b cap W h => repeatB_any n b cap W hn h)
  have hG1 := Lib.hid hg1
  have hB1 := Lib.hid hb1
  have hC1 := Lib.hid hc1
  obtain ⟨g1, g2, g3⟩ := id hg
  clear hg hb0 hb1 hg1 hc1
  go_enter Tryd.func24, Tryd.ntmps24
  go_wp2_with (first
    | (go_at_call 35; (with_reducible refine (HR.out _ _ _ hC1.out).mono ?_); rintro e0 W1 ⟨v3, rfl, i3, b3⟩; (have hG2 := Lib.hid (hG1.out.keep b3)); (have hB2 := Lib.hid (below_more hB1.out (Nat.le_refl _) b3)); (have H3 := Lib.hid i3); (clear b3 i3)))
  obtain ⟨b3, c3, rfl, -⟩ := id H3.out
  have HOKE := Lib.hid (fun f g (h : ∀ i, i < n → f i = true → g i = true) s => passF_mono (f := f) (g := g) HOK.out h (s := s))
  go_loopg [3] n (fun q s3 wx => ∃ (f : Nat → Bool) (b c' : Nat), s3 = .slice (some ⟨b, 0, none⟩) n c' ∧ BRd wx (.slice (some ⟨b, 0, none⟩) n c') n f ∧ Hid (cntF n f ≤ q) ∧ Hid (∀ T, Closed n es T → ∀ i, i < n → T i = true → f i = true) ∧
    BoxG wx w.heap.size L (n : Int) (.slice a es.length c) ∧ Below w.heap.size w wx)
  case atStart => exact ⟨_, b3, c3, rfl, H3.out, Lib.hid (cntF_le _ _), Lib.hid (fun T _ i _ _ => rfl), hG2.out, hB2.out⟩
  case round =>
    clear g1 g2 g3 H3 hG2 hB2
    obtain ⟨f, b, c', rfl, hrd, HC, HM, hG, hb⟩ := hrel
    have HRW := Lib.hid (HRD.out.keep hb)
    have HF := Lib.hid hrd
    have HG := Lib.hid hG
    have HBW := Lib.hid hb
    obtain ⟨g1, g2, g3⟩ := id hG
    clear hrd hG hb
    cases hs : sameF n (passF f es) f with
    | true =>
      have HE := Lib.hid (show Ess n es f from ⟨sameF_true.1 hs, HM.out⟩)
      have HS := Lib.hid hs
      clear HC HM hs
      go_wp2_with (first
        | (go_at_call 36; (with_reducible refine (HP.out _ _ _ HRW.out HF.out).mono ?_); rintro e0 W2 ⟨r, rfl, br, lr, b2⟩; (have hF2 := Lib.hid (HF.out.keep b2)); (have hB3 := Lib.hid (below_more HBW.out (Nat.le_refl _) b2)); (have hR2 := Lib.hid (br.rd n)); (clear br b2))
        | (go_at_call 37; (with_reducible refine (equalB_any n _ _ _ _ _ hR2.out hF2.out hn).mono ?_); rintro e0 W3 ⟨rfl, b3⟩; (rw [HS.out]); (have hF3 := Lib.hid (hF2.out.keep b3)); (have hB4 := Lib.hid (below_more hB3.out (Nat.le_refl _) b3)); (clear b3))
        | (go_at_call 38; (with_reducible refine (members_any n f _ _ hF3.out hn).mono ?_); rintro e0 W4 ⟨v4, rfl, i4, b4⟩; (have hI4 := Lib.hid (own_low (A := w.heap.size) i4 hB4.out.size)); (have hB5 := Lib.hid (below_more hB4.out (Nat.le_refl _) b4)); (clear b4 i4)))
      go_ret
      exact ⟨f, HE.out, _, rfl, hI4.out, hB5.out⟩
    | false =>
      have hlt : cntF n (passF f es) < cntF n f := cntF_less (f := passF f es) (g := f) (fun i _ h => passF_le HOK.out h) hs
      rcases gk with _ | q
      · exact absurd HC.out (by omega)
      · have HC2 := Lib.hid (show cntF n (passF f es) ≤ q by have := HC.out; omega)
        have HM2 := Lib.hid (show ∀ T, Closed n es T → ∀ i, i < n → T i = true → passF f es i = true from fun T hT i hi h => HOKE.out T f (HM.out T hT) i (hT i hi h))
        have HS := Lib.hid hs
        clear HC HM hs hlt
        go_wp2_with (first
          | (go_at_call 36; (with_reducible refine (HP.out _ _ _ HRW.out HF.out).mono ?_); rintro e0 W2 ⟨r, rfl, br, lr, b2⟩; (have hF2 := Lib.hid (HF.out.keep b2)); (have hG2 := Lib.hid (HG.out.keep b2)); (have hB3 := Lib.hid (below_more HBW.out (Nat.le_refl _) b2)); (have hR2 := Lib.hid (br.rd n)); (clear br b2))
          | (go_at_call 37; (with_reducible refine (equalB_any n _ _ _ _ _ hR2.out hF2.out hn).mono ?_); rintro e0 W3 ⟨rfl, b3⟩; (rw [HS.out]); (have hR3 := Lib.hid (hR2.out.keep b3)); (have hG3 := Lib.hid (hG2.out.keep b3)); (have hB4 := Lib.hid (below_more hB3.out (Nat.le_refl _) b3)); (clear b3)))
        go_roundg q
        case measure => omega
        case rel => exact ⟨_, r, n, rfl, hR3.out, HC2, HM2, hG3.out, hB4.out⟩
end Go.Proofs.YtoekemfgmdbnbaaDoor
