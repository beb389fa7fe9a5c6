/- Plain facts: the merged graph of a deterministic graph: its steps, its words, its classes. No condition. groovelaw13.all. No condition but that there are at most 64 states. Words of a graph and of its graph of sets; groovelaw13.leads from a set, word. Conditions: a valid graph that can be read. MinimalIncludes returns true. Conditions: the edges and the labels can be read; the library's table reads as its text lays it. MinimalIncludes returns true for every input: the law's row, and its card, tied to the program's text. Conditions: those of the row: its tables read as listed (the card ties them to the program's text). -/
import Derived.Test.YtblkijdodojaeaaDoorQ37
import Derived.Test.YtblkijdodojaeaaDoorQ38
import Derived.Test.YtblkijdodojaeaaDoorQ04
import Derived.Test.YtblkijdodojaeaaDoorQ22
import Derived.Test.YtblkijdodojaeaaDoorQ20
import Derived.Test.YtblkijdodojaeaaDoorVHmc
import Derived.Test.YtblkijdodojaeaaDoorQ26
import Derived.Test.YtblkijdodojaeaaDoorQ25

namespace Go.Proofs.YtblkijdodojaeaaDoor
set_option linter.unusedVariables false

theorem firsts_ndH {α : Type} [DecidableEq α] (l : List α) : (firsts l).Nodup := by
  refine snocI (P := fun l => (firsts l).Nodup) (by simp [firsts]) (fun w x ih => ?_) l
  rw [firsts_snoc]
  split
  · exact ih
  · rename_i h
    rw [List.nodup_append]
    refine ⟨ih, by simp, fun a ha b hb e => ?_⟩
    rw [List.mem_singleton] at hb
    subst hb
    subst e
    exact h ha
theorem canon_take {α : Type} [DecidableEq α] (l : List α) (k : Nat) : (canon l).take k = canon (l.take k) := by
  refine List.ext_getElem? fun i => ?_
  by_cases hi : i < k
  · rw [List.getElem?_take_of_lt hi]
    by_cases hl : i < l.length
    · have hx := List.getElem?_eq_getElem hl
      generalize l[i] = x at hx
      have hx2 : (l.take k)[i]? = some x := by rw [List.getElem?_take_of_lt hi, hx]
      rw [canon_at hx, canon_at hx2, idx_pre (firsts_preAll l k) ((firsts_mem _ _).2 (List.mem_of_getElem? hx2))]
    · rw [List.getElem?_eq_none (by rw [canon_len]; omega), List.getElem?_eq_none (by rw [canon_len, List.length_take]; omega)]
  · rw [List.getElem?_eq_none (by rw [List.length_take]; omega), List.getElem?_eq_none (by rw [canon_len, List.length_take]; omega)]
theorem canon_idx {c : List Nat} (h : canon c = c) {x : Nat} (hx : x ∈ c) : (firsts c).idxOf x = x := by
  obtain ⟨i, hi⟩ := List.mem_iff_getElem?.1 hx
  have h1 := canon_at hi
  rw [h, hi] at h1
  injection h1 with h1
  exact h1.symm
theorem canon_all {c : List Nat} (h : canon c = c) {q : Nat} (hq : q < numC c) : q ∈ c := by
  have h1 : numC c ≤ (firsts c).length := numC_le c (fun x hx => by
    have h2 := List.idxOf_lt_length_iff.2 ((firsts_mem c x).2 hx)
    rwa [canon_idx h hx] at h2)
  have hl : q < (firsts c).length := by omega
  have h3 := List.getElem?_eq_getElem hl
  have hy : (firsts c)[q] ∈ c := (firsts_mem c _).1 (List.getElem_mem hl)
  generalize (firsts c)[q] = y at h3 hy
  have h4 : (firsts c).idxOf y < (firsts c).length := List.idxOf_lt_length_iff.2 ((firsts_mem c y).2 hy)
  have h5 : (firsts c)[(firsts c).idxOf y]? = some y := by rw [List.getElem?_eq_getElem h4, List.getElem_idxOf h4]
  have h6 := (List.getElem?_inj hl (firsts_ndH c)).1 (h3.trans h5.symm)
  rw [canon_idx h hy] at h6
  rw [h6]; exact hy
theorem classN_can (m : Nat → Nat → Nat) (La n : Nat) (hL : 1 ≤ La) : canon (classN m La n) = classN m La n := by
  obtain ⟨C, h1, h2, h3, -⟩ := classN_get m La n hL
  rw [h2, ← canon_take, h3]
theorem classN_step {m : Nat → Nat → Nat} {La n : Nat} (hL : 1 ≤ La) (hm : ∀ s l, s < n + 1 → m s l < n + 1) (hn : ∀ l, m n l = n) {s t l : Nat} (hs : s < n) (ht : t < n) (hl : l < La) (e : (classN m La n).getD s 0 = (classN m La n).getD t 0) :
    (m s l = n ↔ m t l = n) ∧ (m s l < n → m t l < n → (classN m La n).getD (m s l) 0 = (classN m La n).getD (m t l) 0) := by
  have h := (classN_iff hL hm hn hs ht).1 e
  refine ⟨h [l] (by simpa using hl), fun h1 h2 => (classN_iff hL hm hn h1 h2).2 fun w hw => ?_⟩
  exact h (l :: w) (fun x hx => by
    rcases List.mem_cons.1 hx with rfl | hx
    · exact hl
    · exact hw x hx)
theorem mT_of {La n : Nat} {es : List E3} (hvg : VG (La : Int) (n : Int) es) (hd : detE es = true) {e : E3} (he : e ∈ es) : mT n es e.1.toNat e.2.1.toNat = e.2.2.toNat := by
  have hok := okE_iff.1 (hvg.ok e he)
  obtain ⟨f, hf, h1, h2, h3⟩ := mT_hit (n := n) (j := e.1.toNat) (l := e.2.1.toNat) (es := es) ⟨e, he, by omega, by omega⟩
  have := det_uqH hvg hd hf he (by omega) (by omega)
  subst this
  exact h3.symm
/-- The class of a state; behind the last class where there is none. -/
def sinkD (c : List Nat) (n x : Nat) : Nat := if x = n then numC c else c.getD x 0
theorem sinkD_in {c : List Nat} {n x : Nat} (h : x ≠ n) : sinkD c n x = c.getD x 0 := if_neg h
theorem sinkD_out (c : List Nat) (n : Nat) : sinkD c n n = numC c := if_pos rfl
section
variable {La n : Nat} {es : List E3} {c : List Nat}
theorem mg_mem {f : E3} : f ∈ mkE (mgE es c) ↔ ∃ g ∈ es, f = (((c.getD g.1.toNat 0 : Nat) : Int), g.2.1, ((c.getD g.2.2.toNat 0 : Nat) : Int)) := by
  rw [mkE_mem]
  unfold mgE
  rw [List.mem_map]
  constructor
  · rintro ⟨g, hg, rfl⟩; exact ⟨g, hg, rfl⟩
  · rintro ⟨g, hg, rfl⟩; exact ⟨g, hg, rfl⟩
theorem merged_step (hvg : VG (La : Int) (n : Int) es) (hd : detE es = true) (hc : classN (mT n es) La n = c) {x l : Nat} (hx : x ≤ n) (hl : l < La) : mT (numC c) (mkE (mgE es c)) (sinkD c n x) l = sinkD c n (mT n es x l) := by
  have hL1 : 1 ≤ La := by have := hvg.l1; omega
  have hm : ∀ s l, s < n + 1 → mT n es s l < n + 1 := fun s l _ => Nat.lt_succ_of_le (mT_le hvg.ok s l)
  have hn : ∀ l, mT n es n l = n := fun l => mT_none hvg.ok l
  have hcl : c.length = n := by rw [← hc]; exact classN_len _ _ _ hL1
  have hcn : numC c ≤ n := by rw [← hc]; exact classN_num _ _ _ hL1
  have hmv := merged_vg hvg hcl (by have := hvg.s2; omega)
  by_cases h0 : x = n
  · subst h0
    rw [hn, sinkD_out, mT_none hmv.ok]
  · have hxn : x < n := by omega
    rw [sinkD_in h0]
    have key : ∀ f ∈ mkE (mgE es c), f.1 = ((c.getD x 0 : Nat) : Int) → f.2.1 = (l : Int) → mT n es x l < n ∧ f.2.2 = ((c.getD (mT n es x l) 0 : Nat) : Int) := by
      intro f hf h1 h2
      obtain ⟨g, hg, rfl⟩ := mg_mem.1 hf
      have hok := okE_iff.1 (hvg.ok g hg)
      have h3 := mT_of hvg hd hg
      dsimp only at h1 h2
      have h4 : g.2.1.toNat = l := by omega
      rw [h4] at h3
      have h5 : c.getD g.1.toNat 0 = c.getD x 0 := by omega
      rw [← hc] at h5
      obtain ⟨h6, h7⟩ := classN_step hL1 hm hn (s := g.1.toNat) (t := x) (l := l) (by omega) hxn hl h5
      have h8 := hm x l (by omega)
      have h9 : mT n es x l < n := by
        have : mT n es x l ≠ n := fun e => by have := h6.2 e; omega
        omega
      refine ⟨h9, ?_⟩
      have h10 := h7 (by omega) h9
      rw [hc, h3] at h10
      dsimp only
      rw [h10]
    by_cases h1 : ∃ e ∈ es, e.1 = (x : Int) ∧ e.2.1 = (l : Int)
    · obtain ⟨e, he, e1, e2⟩ := h1
      have hok := okE_iff.1 (hvg.ok e he)
      obtain ⟨f, hf, f1, f2, f3⟩ := mT_hit (n := numC c) (j := c.getD x 0) (l := l) (es := mkE (mgE es c)) ⟨_, mg_mem.2 ⟨e, he, rfl⟩, by dsimp only; rw [show e.1.toNat = x by omega], e2⟩
      obtain ⟨k1, k2⟩ := key f hf f1 f2
      rw [sinkD_in (by omega), ← f3, k2, Int.toNat_natCast]
    · rw [mT_miss h1, sinkD_out]
      refine mT_miss ?_
      rintro ⟨f, hf, f1, f2⟩
      obtain ⟨k1, k2⟩ := key f hf f1 f2
      rw [mT_miss h1] at k1
      omega
theorem merged_run (hvg : VG (La : Int) (n : Int) es) (hd : detE es = true) (hc : classN (mT n es) La n = c) : ∀ (w : List Nat) {x : Nat}, (∀ l ∈ w, l < La) → x ≤ n → mrun (mT (numC c) (mkE (mgE es c))) (sinkD c n x) w = sinkD c n (mrun (mT n es) x w)
  | [], _, _, _ => rfl
  | l :: w, x, h, hx => by
    rw [mrun_cons, mrun_cons, merged_step hvg hd hc hx (h l (by simp))]
    exact merged_run hvg hd hc w (fun l hl => h l (by simp [hl])) (mT_le hvg.ok x l)
theorem merged_end (hvg : VG (La : Int) (n : Int) es) (hd : detE es = true) (hc : classN (mT n es) La n = c) {w : List Nat} {x : Nat} (hw : ∀ l ∈ w, l < La) (hx : x < n) : mrun (mT (numC c) (mkE (mgE es c))) (c.getD x 0) w = numC c ↔ mrun (mT n es) x w = n := by
  have hL1 : 1 ≤ La := by have := hvg.l1; omega
  have hcl : c.length = n := by rw [← hc]; exact classN_len _ _ _ hL1
  have h1 := merged_run hvg hd hc w hw (Nat.le_of_lt hx)
  rw [sinkD_in (by omega)] at h1
  rw [h1]
  have h2 := mrun_le (m := mT n es) (fun x l _ => mT_le hvg.ok x l) w (Nat.le_of_lt hx)
  constructor
  · intro h
    by_cases h3 : mrun (mT n es) x w = n
    · exact h3
    · rw [sinkD_in h3] at h
      have := numC_lt c _ (getD_mem (c := c) (i := mrun (mT n es) x w) (by omega))
      omega
  · intro h
    rw [h, sinkD_out]
theorem merged_det (hvg : VG (La : Int) (n : Int) es) (hd : detE es = true) (hc : classN (mT n es) La n = c) : detE (mkE (mgE es c)) = true := by
  have hL1 : 1 ≤ La := by have := hvg.l1; omega
  have hm : ∀ s l, s < n + 1 → mT n es s l < n + 1 := fun s l _ => Nat.lt_succ_of_le (mT_le hvg.ok s l)
  have hn : ∀ l, mT n es n l = n := fun l => mT_none hvg.ok l
  refine (detE_pwH (mkE_pw _)).2 ?_
  refine (mkE_pw (mgE es c)).imp_of_mem ?_
  rintro a b ha hb hlt ⟨h1, h2⟩
  obtain ⟨f, hf, rfl⟩ := mg_mem.1 ha
  obtain ⟨g, hg, rfl⟩ := mg_mem.1 hb
  have k1 := okE_iff.1 (hvg.ok f hf)
  have k2 := okE_iff.1 (hvg.ok g hg)
  have m1 := mT_of hvg hd hf
  have m2 := mT_of hvg hd hg
  dsimp only at h1 h2
  rw [← h2] at m2
  have h5 : c.getD f.1.toNat 0 = c.getD g.1.toNat 0 := by omega
  rw [← hc] at h5
  obtain ⟨-, h7⟩ := classN_step hL1 hm hn (s := f.1.toNat) (t := g.1.toNat) (l := f.2.1.toNat) (by omega) (by omega) (by omega) h5
  have h8 := h7 (by omega) (by omega)
  rw [m1, m2, hc] at h8
  have k3 := (ltE_iff _ _).1 hlt
  dsimp only at k3
  omega
theorem merged_cls (hvg : VG (La : Int) (n : Int) es) (hd : detE es = true) (hc : classN (mT n es) La n = c) : classN (mT (numC c) (mkE (mgE es c))) La (numC c) = List.range (numC c) := by
  have hL1 : 1 ≤ La := by have := hvg.l1; omega
  have hm : ∀ s l, s < n + 1 → mT n es s l < n + 1 := fun s l _ => Nat.lt_succ_of_le (mT_le hvg.ok s l)
  have hn : ∀ l, mT n es n l = n := fun l => mT_none hvg.ok l
  have hcl : c.length = n := by rw [← hc]; exact classN_len _ _ _ hL1
  have hcn : numC c ≤ n := by rw [← hc]; exact classN_num _ _ _ hL1
  have hmv := merged_vg hvg hcl (by have := hvg.s2; omega)
  have hm' : ∀ s l, s < numC c + 1 → mT (numC c) (mkE (mgE es c)) s l < numC c + 1 := fun s l _ => Nat.lt_succ_of_le (mT_le hmv.ok s l)
  have hn' : ∀ l, mT (numC c) (mkE (mgE es c)) (numC c) l = numC c := fun l => mT_none hmv.ok l
  have hcan : canon c = c := by rw [← hc]; exact classN_can _ _ _ hL1
  have hlen := classN_len (mT (numC c) (mkE (mgE es c))) La (numC c) hL1
  have hnd : (classN (mT (numC c) (mkE (mgE es c))) La (numC c)).Nodup := by
    unfold List.Nodup
    rw [List.pairwise_iff_getElem]
    intro i j hi hj hij he
    rw [hlen] at hi hj
    have he2 : (classN (mT (numC c) (mkE (mgE es c))) La (numC c)).getD i 0 = (classN (mT (numC c) (mkE (mgE es c))) La (numC c)).getD j 0 := by
      rw [List.getD_eq_getElem?_getD, List.getD_eq_getElem?_getD, List.getElem?_eq_getElem (by omega), List.getElem?_eq_getElem (by omega), he]
    have h1 := (classN_iff hL1 hm' hn' hi hj).1 he2
    obtain ⟨x, hx⟩ := List.mem_iff_getElem?.1 (canon_all hcan hi)
    obtain ⟨y, hy⟩ := List.mem_iff_getElem?.1 (canon_all hcan hj)
    have hxl := (List.getElem?_eq_some_iff.1 hx).1
    have hyl := (List.getElem?_eq_some_iff.1 hy).1
    have hx2 : c.getD x 0 = i := by rw [List.getD_eq_getElem?_getD, hx]; rfl
    have hy2 : c.getD y 0 = j := by rw [List.getD_eq_getElem?_getD, hy]; rfl
    have h2 : (classN (mT n es) La n).getD x 0 = (classN (mT n es) La n).getD y 0 := (classN_iff hL1 hm hn (by omega) (by omega)).2 fun w hw => by
      rw [← merged_end hvg hd hc hw (x := x) (by omega), ← merged_end hvg hd hc hw (x := y) (by omega), hx2, hy2]
      exact h1 w hw
    rw [hc, hx2, hy2] at h2
    omega
  have h3 := canon_nodup hnd
  rw [classN_can _ _ _ hL1, hlen] at h3
  exact h3
theorem numC_range (k : Nat) : numC (List.range k) = k := by
  refine Nat.le_antisymm (numC_le _ (fun x hx => List.mem_range.1 hx)) ?_
  rcases k with _ | k
  · exact Nat.zero_le _
  · have := numC_lt (List.range (k + 1)) k (List.mem_range.2 (by omega))
    omega
theorem merged_again (hvg : VG (La : Int) (n : Int) es) (hc : c.length = n) (hnc : numC c ≤ 64) : mkE (mgE (mkE (mgE es c)) (List.range (numC c))) = mkE (mgE es c) := by
  have hmv := merged_vg hvg hc hnc
  have h1 : mgE (mkE (mgE es c)) (List.range (numC c)) = mkE (mgE es c) := by
    conv => rhs; rw [← List.map_id (mkE (mgE es c))]
    unfold mgE
    refine List.map_congr_left (fun e he => ?_)
    have hok := okE_iff.1 (hmv.ok e he)
    have g : ∀ i, i < numC c → (List.range (numC c)).getD i 0 = i := fun i hi => by
      rw [List.getD_eq_getElem?_getD, List.getElem?_range hi]; rfl
    rw [g _ (by omega), g _ (by omega)]
    obtain ⟨a, b, d⟩ := e
    dsimp only at hok ⊢
    rw [Int.toNat_of_nonneg (by omega), Int.toNat_of_nonneg (by omega)]
    rfl
  rw [h1]
  exact asc_eq (mkE_pw _) (mkE_pw _) (fun x => mkE_mem)
end
end Go.Proofs.YtblkijdodojaeaaDoor

namespace Go.Proofs.YtblkijdodojaeaaDoor
open Go.RowKit
set_option linter.unusedSimpArgs false
set_option linter.unusedVariables false

theorem range_snocI (i : Nat) : labsI (List.range (i + 1)) = labsI (List.range i) ++ [(i : Int)] := by unfold labsI; rw [List.range_succ, List.map_append]; rfl
set_option maxRecDepth 100000 in
set_option maxHeartbeats 3200000 in
theorem all13_any (L : Int) (n : Nat) (v : Value) (w : World) (hn : n ≤ 64) :
    Calls Tryd.prog 42 #[grV L (n : Int) v] w fun e w' => ∃ u, e = .returned u ∧ IntsAt w' w.heap.size u (labsI (List.range n)) ∧ Below w.heap.size w w' := by
  obtain ⟨i0, hi, hz0, hz1, hz2⟩ := info_parts Tryd.infoI64
  have B0 := Lib.hid (below1 w (.cells #[.int .i64 L, .int .i64 (n : Int), v] 24))
  have G0 := Lib.hid (BoxG.new w L (n : Int) v 24)
  obtain ⟨x1, x2, x3⟩ := id G0.out
  go_enter Tryd.func42, Tryd.ntmps42
  go_wp2_with fail
  clear x1 x2 x3
  generalize (w.alloc (.cells #[.int .i64 L, .int .i64 (n : Int), v] 24)) = X at *
  go_loopg [3, 7] n (fun q s3 s7 wx => ∃ i : Nat, i + q = n ∧ s7 = .int .i64 (i : Int) ∧ IntsAt wx w.heap.size s3 (labsI (List.range i)) ∧ Below w.heap.size w wx)
  case atStart => exact ⟨0, by omega, rfl, ints_nil _ _, B0.out⟩
  case round =>
    obtain ⟨i, hin, rfl, hown, hb⟩ := hrel
    obtain ⟨a3, c3, rfl⟩ := hown.slice
    rcases gk with _ | q
    · obtain rfl : i = n := by omega
      have HI := Lib.hid hown
      clear hown
      have j0 : ¬ ((i : Int) < (i : Int)) := by omega
      have hm : (labsI (List.range i)).length = i := by rw [labsI_lenH, List.length_range]
      obtain ⟨m, hm2⟩ : ∃ m, (labsI (List.range i)).length = m := ⟨_, rfl⟩
      rw [hm2] at HI ⊢
      clear hm hm2
      go_wp2_with fail
      go_ret
      exact ⟨_, rfl, HI.out, hb⟩
    · have HS := Lib.hid (range_snocI i)
      have hml : (labsI (List.range i)).length ≤ 64 := by rw [labsI_lenH, List.length_range]; omega
      have j1 : (i : Int) < (n : Int) := by omega
      have hlt := hown.lt
      have hown0 := hown
      unfold IntsAt at hown0
      obtain ⟨m, hm⟩ : ∃ m, (labsI (List.range i)).length = m := ⟨_, rfl⟩
      rw [hm] at hown0 hml hlt ⊢
      have HM := Lib.hid hm
      clear hown hm
      go_wp2_with (first | (at_builtin; refine wpList_append_own_at _ rfl _ _ 28 rfl w.heap.size 3 i0 (.int .i64 0) 1 8 Tryd.underlying28 hi hz0 hz1 hz2 rfl (by decide) _ _ _ rfl (hown0.alloc _) ⟨wr.heap.size, 0, none⟩ 1 1 [.int .i64 (i : Int)] rfl rfl ?c1 ?c2 ?c3 ?c4 ?c5 ?_))
      case c1 => exact World.news_of_block (cs := #[.int .i64 (i : Int)]) (t := 3) (fr := (0, 0)) (heap_alloc_new wr _)
      case c2 => intro u hu; simp at hu; subst hu; rfl
      case c3 => unfold maxLen; omega
      case c4 => omega
      case c5 => rw [World.size_alloc]; have := hb.size; omega
      intro v' W2 hown2 hgrow _ hv'
      have hb2 : Below w.heap.size w W2 := (hb.alloc hb.size _).grown hgrow (by rw [World.size_alloc]; have := hb.size; omega) (fun k hk => (hlt k hk).1)
      rw [← intz_snoc, ← HS.out] at hown2
      have HI2 := Lib.hid (show IntsAt W2 w.heap.size v' (labsI (List.range (i + 1))) by unfold IntsAt; rw [HS.out, List.length_append, HM.out]; rw [HS.out] at hown2; exact hown2)
      obtain ⟨a', c', rfl⟩ := own_slice hown2
      clear hown0 hown2 hgrow hlt hv' hb
      go_wp2_with fail
      go_roundg q
      case measure => omega
      case rel => exact ⟨i + 1, by omega, by go_num, HI2.out, hb2⟩
end Go.Proofs.YtblkijdodojaeaaDoor

namespace Go.Proofs.YtblkijdodojaeaaDoor
open Go.RowKit
set_option linter.unusedSimpArgs false
set_option linter.unusedVariables false

theorem stN_high {es : List E3} {La n T l : Nat} (hok : ∀ e ∈ es, okE (La : Int) (n : Int) e = true) (hl : ¬ l < La) : stN es T l = 0 := by
  refine Nat.eq_of_testBit_eq fun t => ?_
  rw [stN_bit, Nat.zero_testBit, Bool.and_eq_false_iff]
  right
  rw [List.any_eq_false]
  intro e he h
  have h1 := okE_iff.1 (hok e he)
  simp only [Bool.and_eq_true, decide_eq_true_eq, beq_iff_eq] at h
  omega
/-- The graph of sets follows labels as the sets do. -/
theorem sets_run {es : List E3} {La n S : Nat} {b : Bs} (h : ResN es La S b) (hok : ∀ e ∈ es, okE (La : Int) (n : Int) e = true) (hL1 : 1 ≤ La) (hL2 : La ≤ 256) (ws : List Nat) :
    (mrun (mT b.1.length b.2) 0 ws < b.1.length ∧ b.1[mrun (mT b.1.length b.2) 0 ws]? = some (runN' es S ws)) ∨ (mrun (mT b.1.length b.2) 0 ws = b.1.length ∧ runN' es S ws = 0) := by
  have hvg := h.vg hL1 hL2
  have hd := h.det
  refine snocI (P := fun ws => (mrun (mT b.1.length b.2) 0 ws < b.1.length ∧ b.1[mrun (mT b.1.length b.2) 0 ws]? = some (runN' es S ws)) ∨ (mrun (mT b.1.length b.2) 0 ws = b.1.length ∧ runN' es S ws = 0)) ?_ (fun ws l ih => ?_) ws
  · left
    exact ⟨(List.getElem?_eq_some_iff.1 h.hd).1, h.hd⟩
  · rw [mrun_snoc, runN'_snoc]
    rcases ih with ⟨hj, hT⟩ | ⟨hj, hT⟩
    · generalize mrun (mT b.1.length b.2) 0 ws = j at hj hT
      generalize runN' es S ws = T at hT
      have hg : b.1.getD j 0 = T := by rw [List.getD_eq_getElem?_getD, hT]; rfl
      by_cases h0 : stN es T l = 0
      · right
        refine ⟨mT_miss ?_, h0⟩
        rintro ⟨e, he, e1, e2⟩
        obtain ⟨j', l', T', -, -, h3, h4, h5, h6, -⟩ := h.edge he
        have e3 : j' = j := by omega
        have e4 : l' = l := by omega
        subst e3
        subst e4
        rw [hT] at h3
        injection h3 with h3
        subst h3
        exact h6 h0
      · left
        have hl : l < La := by
          by_cases h1 : l < La
          · exact h1
          · exact absurd (stN_high hok h1) h0
        have hx : stN es T l ∈ b.1 := by
          have := (h.cl j l hj hl)
          rw [hg] at this
          exact this.resolve_left h0
        have hm := allN_mk (es := es) (La := La) (F := b.1) (n := b.1.length) hj hl (by rw [hg]; exact h0)
        rw [hg, ← h.ed] at hm
        have h7 := mT_of hvg hd hm
        dsimp only at h7
        rw [Int.toNat_natCast, Int.toNat_natCast, Int.toNat_natCast] at h7
        rw [h7]
        exact ⟨List.idxOf_lt_length_iff.2 hx, getD_idx hx⟩
    · right
      rw [hj, hT]
      exact ⟨mT_none hvg.ok l, stN_zeroH es l⟩
/-- What a search over two graphs of sets says of the graphs' words. -/
theorem sets_word {La n : Nat} {es : List E3} (hvg : VG (La : Int) (n : Int) es) (hb : (buildR (La : Int) (n : Int) es).1 = 0) (ws : List Nat) : mrun (mT (buildR (La : Int) (n : Int) es).2.1.length (buildR (La : Int) (n : Int) es).2.2) 0 ws ≠ (buildR (La : Int) (n : Int) es).2.1.length ↔ runN' es (fullN n) ws ≠ 0 := by
  by_cases hn : n = 0
  · subst hn
    have e : buildR (La : Int) ((0 : Nat) : Int) es = (0, ([], [])) := by unfold buildR; rw [if_pos hvg.chk, if_pos (show ((0 : Nat) : Int) = 0 from rfl)]
    rw [e]
    have h1 : mrun (mT 0 []) 0 ws = 0 := mrun_none (fun l => rfl) ws
    have h2 : runN' es (fullN 0) ws = 0 := runN'_zero es ws
    constructor
    · intro h; exact absurd h1 h
    · intro h; exact absurd h2 h
  · obtain ⟨L2, n2, b, e1, e2, -, -, e3, e4, hres⟩ := buildR_okH (La := (La : Int)) (S := (n : Int)) (es := es) hvg.chk (by omega) hb
    have e1' : L2 = La := by omega
    have e2' : n2 = n := by omega
    subst e1'
    subst e2'
    rw [e3]
    dsimp only
    have h := sets_run hres hvg.ok (by have := hvg.l1; omega) (by have := hvg.l2; omega) ws
    rcases h with ⟨h1, h2⟩ | ⟨h1, h2⟩
    · exact ⟨fun _ => (hres.lt _ (List.mem_of_getElem? h2)).1, fun _ => by omega⟩
    · exact ⟨fun h => absurd h1 h, fun h => absurd h2 h⟩
theorem memN_pos {T : Nat} (h : T < 18446744073709551616) : 0 < (memN T).length ↔ T ≠ 0 := by
  rw [List.length_pos_iff]
  exact ⟨fun h1 h2 => h1 ((memN_nil h).2 h2), fun h1 h2 => h1 ((memN_nil h).1 h2)⟩
set_option maxRecDepth 100000 in
set_option maxHeartbeats 6400000 in
theorem leadsS_any (La n S : Nat) (es : List E3) (v u uw : Value) (ws : List Nat) (w : World) (hrd : EdgesRd w v es) (hvg : VG (La : Int) (n : Int) es) (hS : S < 18446744073709551616) (hb : ∀ i, S.testBit i = true → i < n) (hu : IntsRd w u (memN S)) (hw : IntsRd w uw (labsI ws)) (hl : ws.length ≤ 100000) :
    Calls Tryd.prog 41 #[grV (La : Int) (n : Int) v, u, uw] w fun e w' => ∃ a k c, e = .returned (.slice a k c) ∧ k = (memN (runN' es S ws)).length ∧ Below w.heap.size w w' := by
  have HS : Hid (∀ W u T (l : Nat), EdgesRd W v es → IntsRd W u (memN T) → T < 18446744073709551616 ∧ (∀ i, T.testBit i = true → i < n) → l < La → Calls Tryd.prog 33 #[grV (La : Int) (n : Int) v, u, .int .i64 (l : Int)] W fun e W' => ∃ a c, e = .returned (.tuple #[.slice a (memN (stN es T l)).length c, .int .i64 0]) ∧ IntsRd W' (.slice a (memN (stN es T l)).length c) (memN (stN es T l)) ∧ Below W.heap.size W W') := Lib.hid (fun W u T l h1 h2 h3 h4 => by
    refine (step_any La n l es v u (memN T) W h1 (by have := hvg.len; omega) h2 (by have : (memN T).length ≤ 64 := mems_len _ _; omega)).mono ?_
    rw [stepR_memN hvg h3.1 h3.2 h4]
    rintro e W' ⟨u, he, h5, h6⟩
    obtain ⟨a, c, rfl⟩ := h5.slice
    exact ⟨a, c, he, h5.rd, h6⟩)
  have HB : Hid (∀ W u T (l : Nat), EdgesRd W v es → IntsRd W u (memN T) → T < 18446744073709551616 ∧ (∀ i, T.testBit i = true → i < n) → ¬ l < La → Calls Tryd.prog 33 #[grV (La : Int) (n : Int) v, u, .int .i64 (l : Int)] W fun e W' => ∃ a c, e = .returned (.tuple #[.slice a 0 c, .int .i64 2]) ∧ Below W.heap.size W W') := Lib.hid (fun W u T l h1 h2 h3 h4 => by
    refine (step_any La n l es v u (memN T) W h1 (by have := hvg.len; omega) h2 (by have : (memN T).length ≤ 64 := mems_len _ _; omega)).mono ?_
    rw [stepR_lab hvg.chk (memN_sg h3.2).chk (by omega)]
    rintro e W' ⟨u, he, h5, h6⟩
    obtain ⟨a, c, rfl⟩ := h5.slice
    exact ⟨a, c, he, h6⟩)
  have HSM := Lib.hid (fun w => runN'_small hvg hS hb w)
  have HHI := Lib.hid (fun T l (h : ¬ l < La) => stN_high (T := T) hvg.ok h)
  have HRD := Lib.hid hrd
  have HU := Lib.hid hw
  have HVA := Lib.hid hu
  have B0 := Lib.hid (below1 w (.cells #[.int .i64 (La : Int), .int .i64 (n : Int), v] 24))
  have G0 := Lib.hid (BoxG.new w (La : Int) (n : Int) v 24)
  obtain ⟨a, c, rfl⟩ := hrd.form
  obtain ⟨a1, c1, rfl⟩ := hu.form
  obtain ⟨a2, c2, hu2⟩ := hw.form
  rw [labsI_lenH] at hu2
  subst hu2
  clear hrd hu hw hvg hS hb
  go_enter Tryd.func41, Tryd.ntmps41
  go_wp2_with fail
  generalize hX : (w.alloc (.cells #[.int .i64 (La : Int), .int .i64 (n : Int), .slice a es.length c] 24)) = X at *
  go_loopg [1, 13] ws.length (fun q s1 s13 wx => ∃ (i x : Nat) (a8 : Option Addr) (c8 : Nat), i + q = ws.length ∧ s13 = .int .i64 (i : Int) ∧ s1 = .slice a8 (memN x).length c8 ∧ Hid (runN' es S (ws.take i) = x) ∧ Hid (IntsRd wx (.slice a8 (memN x).length c8) (memN x)) ∧ Hid (Below X.heap.size X wx))
  case atStart => exact ⟨0, S, a1, c1, by omega, rfl, rfl, Lib.hid rfl, Lib.hid (HVA.out.keep B0.out), Lib.hid (Below.refl _ _)⟩
  case round =>
    clear HVA
    obtain ⟨i, x, a8, c8, hin, rfl, rfl, HR, HI, HBX⟩ := hrel
    have HB3 := Lib.hid (B0.out.trans (HBX.out.mono B0.out.size))
    obtain ⟨x1, x2, x3⟩ := G0.out.keep HBX.out
    rcases gk with _ | q
    · obtain rfl : i = ws.length := by omega
      have j0 : ¬ ((ws.length : Int) < (ws.length : Int)) := by omega
      have HE := Lib.hid (show runN' es S ws = x by have := HR.out; rwa [List.take_length] at this)
      clear x1 x2 x3
      go_wp2_with fail
      go_ret
      rw [HE.out]
      exact ⟨_, _, ⟨_, rfl⟩, rfl, HB3.out⟩
    · obtain ⟨l, hl1⟩ : ∃ l, ws[i]? = some l := ⟨_, List.getElem?_eq_getElem (by omega)⟩
      obtain ⟨b, off, cc, hv1, k1⟩ := (HU.out.keep HB3.out).at (labsI_atH hl1)
      rw [labsI_lenH] at hv1
      injection hv1 with e1 e2 e3
      subst e1
      have hsm := HSM.out (ws.take i)
      rw [HR.out] at hsm
      have j1 : (i : Int) < (ws.length : Int) := by omega
      by_cases hlL : l < La
      · have HST := Lib.hid (HS.out wr _ x l (HRD.out.keep HB3.out) HI.out hsm hlL)
        have HR2 := Lib.hid (show runN' es S (ws.take (i + 1)) = stN es x l by rw [take_snoc hl1, runN'_snoc, HR.out])
        clear hl1 e2 e3 hsm
        go_wp2_with (go_at_call 33; (with_reducible refine HST.out.mono ?_); rintro e W1 ⟨a9, c9, rfl, i9, b9⟩; (have HI9 := Lib.hid i9); (have HB9 := Lib.hid (HBX.out.trans (b9.mono HBX.out.size))); clear b9 i9 x1 x2 x3 k1)
        go_roundg q
        case measure => omega
        case rel => exact ⟨i + 1, stN es x l, a9, c9, by omega, by go_num, rfl, HR2, HI9, HB9⟩
      · have HST := Lib.hid (HB.out wr _ x l (HRD.out.keep HB3.out) HI.out hsm hlL)
        have HE := Lib.hid (show (memN (runN' es S ws)).length = 0 by
          have h1 : ws = ws.take (i + 1) ++ ws.drop (i + 1) := (List.take_append_drop _ _).symm
          have h2 : runN' es S (ws.take (i + 1)) = 0 := by rw [take_snoc hl1, runN'_snoc, HHI.out _ _ hlL]
          have h3 : runN' es S ws = 0 := by
            rw [h1]
            unfold runN' at h2 ⊢
            rw [List.foldl_append, h2]
            exact runN'_zero es _
          rw [h3]; decide)
        clear hl1 e2 e3 hsm
        go_wp2_with (go_at_call 33; (with_reducible refine HST.out.mono ?_); rintro e W1 ⟨a9, c9, rfl, b9⟩; (have HB9 := Lib.hid (HB3.out.trans (b9.mono HB3.out.size))); clear b9 x1 x2 x3 k1)
        go_ret
        exact ⟨_, _, _, rfl, HE.out.symm, HB9.out⟩
set_option maxRecDepth 100000 in
set_option maxHeartbeats 6400000 in
theorem word_any (La n : Nat) (es : List E3) (v uw : Value) (ws : List Nat) (w : World) (hrd : EdgesRd w v es) (hvg : VG (La : Int) (n : Int) es) (hw : IntsRd w uw (labsI ws)) (hl : ws.length ≤ 100000) :
    Calls Tryd.prog 11 #[grV (La : Int) (n : Int) v, uw] w fun e w' => e = .returned (.bool (decide (runN' es (fullN n) ws ≠ 0))) ∧ Below w.heap.size w w' := by
  have hmx : Tryd.prog.follows .mixedOrders = true := by kernel_rfl
  have hn64 : n ≤ 64 := by have := hvg.s2; omega
  have HAL : Hid (∀ W, Calls Tryd.prog 42 #[grV (La : Int) (n : Int) v] W fun e W' => ∃ a c, e = .returned (.slice a n c) ∧ IntsRd W' (.slice a n c) (memN (fullN n)) ∧ Below W.heap.size W W') := Lib.hid (fun W => by
    refine (all13_any (La : Int) n v W hn64).mono ?_
    rintro e W' ⟨u, he, h1, h2⟩
    obtain ⟨a, c, rfl⟩ := h1.slice
    have h3 := h1.rd
    rw [labsI_lenH, List.length_range] at he h3
    refine ⟨a, c, he, ?_, h2⟩
    rw [memN_full hn64]
    exact h3)
  obtain ⟨R, hR⟩ : ∃ R, runN' es (fullN n) ws = R := ⟨_, rfl⟩
  have hRs := (runN'_small hvg (fullN_lt hn64) (fullN_small n) ws).1
  obtain ⟨d, hd⟩ : ∃ d, decide (R ≠ 0) = d := ⟨_, rfl⟩
  have HLE : Hid (∀ W u, EdgesRd W v es → IntsRd W u (memN (fullN n)) → IntsRd W uw (labsI ws) → Calls Tryd.prog 41 #[grV (La : Int) (n : Int) v, u, uw] W fun e w' => ∃ a k c, e = .returned (.slice a k c) ∧ decide ((0 : Int) < (k : Int)) = d ∧ decide (0 < k) = d ∧ Below W.heap.size W w') := Lib.hid (fun W u h1 h2 h3 => by
    refine (leadsS_any La n (fullN n) es v u uw ws W h1 hvg (fullN_lt hn64) (fullN_small n) h2 h3 hl).mono ?_
    rw [hR] at hRs ⊢
    rintro e W' ⟨a, k, c, he, hk, hb⟩
    have h4 := memN_pos hRs
    rw [← hk] at h4
    refine ⟨a, k, c, he, ?_, ?_, hb⟩
    · rw [← hd, decide_eq_decide, ← h4]; omega
    · rw [← hd, decide_eq_decide]; exact h4)
  rw [hR, hd]
  have HRD := Lib.hid hrd
  have HW := Lib.hid hw
  have B0 := Lib.hid (below1 w (.cells #[.int .i64 (La : Int), .int .i64 (n : Int), v] 24))
  have G0 := Lib.hid (BoxG.new w (La : Int) (n : Int) v 24)
  obtain ⟨x1, x2, x3⟩ := id G0.out
  clear hrd hw hvg hR hRs hd
  go_enter Tryd.func11, Tryd.ntmps11
  go_upto_region 1 with fail
  generalize (w.alloc (.cells #[.int .i64 (La : Int), .int .i64 (n : Int), v] 24)) = X at *
  have BD := Lib.hid (Below.refl X.heap.size X).drew
  have hR0 := Lib.hid (G0.out.keep BD.out)
  unfold BoxG at hR0 G0
  go_region_held3 (fun W => W.cell? ⟨w.heap.size, 0, none⟩ = some (.int .i64 (La : Int)) ∧ W.cell? ⟨w.heap.size, 1, none⟩ = some (.int .i64 (n : Int)) ∧ W.cell? ⟨w.heap.size, 2, none⟩ = some v)
    (first | exact hR0.out | exact hR1.out | exact hR2.out)
    (first
      | (go_at_call 42; (with_reducible refine (HAL.out _).mono ?_); rintro e0 Y1 ⟨a1, c1, rfl, i1, q1⟩; (have K1 := Lib.hid (below_more BD.out (Nat.le_refl _) q1)); (have I1 := Lib.hid i1); (have hR1 := Lib.hid (BoxG.keep (show BoxG X w.heap.size (La : Int) (n : Int) v from G0.out) K1.out)); clear i1 q1)
      | (go_at_call 41; (with_reducible refine (HLE.out _ _ (HRD.out.keep (B0.out.trans (K1.out.mono B0.out.size))) I1.out (HW.out.keep (B0.out.trans (K1.out.mono B0.out.size)))).mono ?_); rintro e0 Y2 ⟨a2, k2, c2, rfl, d1, d2, q2⟩; (have K2 := Lib.hid (below_more K1.out (Nat.le_refl _) q2)); (have hR2 := Lib.hid (BoxG.keep (show BoxG X w.heap.size (La : Int) (n : Int) v from G0.out) K2.out)); clear q2))
  all_goals
    go_wp2_with fail
    go_ret
    exact ⟨rfl, (B0.out.trans (K2.out.mono B0.out.size))⟩
end Go.Proofs.YtblkijdodojaeaaDoor

namespace Go.Proofs.YtblkijdodojaeaaDoor
open Go.RowKit
set_option linter.unusedSimpArgs false
set_option linter.unusedVariables false

theorem fw_first {a b : Nat → Nat → Nat} {na nb La : Nat} {x : List Int} (h : FW (fun x y : Bool => x && !y) a b na nb La 0 0 x true) : ∃ ws : List Nat, x = labsI ws ∧ mrun a 0 ws ≠ na ∧ ¬ mrun b 0 ws ≠ nb := by
  rcases h with ⟨-, ws, h1, h2, h3, -⟩ | ⟨h, -⟩
  · unfold Dif at h3
    rw [Bool.and_eq_true, decide_eq_true_iff, Bool.not_eq_true', decide_eq_false_iff_not] at h3
    exact ⟨ws, h1, h3.1, h3.2⟩
  · cases h
theorem fw_none {a b : Nat → Nat → Nat} {na nb La : Nat} {x : List Int} (h : FW (fun x y : Bool => x && !y) a b na nb La 0 0 x false) : x = [] ∧ ∀ ws : List Nat, (∀ l ∈ ws, l < La) → mrun a 0 ws ≠ na → mrun b 0 ws ≠ nb := by
  rcases h with ⟨h, -⟩ | ⟨-, h1, h2⟩
  · cases h
  · refine ⟨h1, fun ws hw h3 => ?_⟩
    have h4 := h2 ws hw
    unfold Dif at h4
    rw [decide_eq_true h3] at h4
    dsimp only at h4
    rw [Bool.true_and, Bool.not_eq_false', decide_eq_true_iff] at h4
    exact h4
set_option maxRecDepth 100000 in
set_option maxHeartbeats 12800000 in
theorem includes_any (La S Lb T : Int) (es fs : List E3) (v u vp : Value) (pl : List Nat) (w : World) (hrd : EdgesRd w v es) (hru : EdgesRd w u fs) (hn : es.length ≤ 9223372036854775807) (hm : fs.length ≤ 9223372036854775807) (hpr : BysRd w vp pl) (hT : TabD w) :
    Calls Tryd.prog 3 #[grV La S v, grV Lb T u, vp] w fun e w' => e = .returned (.bool true) ∧ Below w.heap.size w w' := by
  have HA := Lib.hid (fun W => awake13_any W)
  have b0 := below_more (below1 w (.cells #[.int .i64 La, .int .i64 S, v] 24)) (Nat.le_refl _) (below1 _ (.cells #[.int .i64 Lb, .int .i64 T, u] 24))
  have G0 := (BoxG.new w La S v 24).keep (below1 _ (.cells #[.int .i64 Lb, .int .i64 T, u] 24))
  have H0 := BoxG.new (w.alloc (.cells #[.int .i64 La, .int .i64 S, v] 24)) Lb T u 24
  have zX : ((w.alloc (.cells #[.int .i64 La, .int .i64 S, v] 24)).alloc (.cells #[.int .i64 Lb, .int .i64 T, u] 24)).heap.size = w.heap.size + 1 + 1 := by rw [World.size_alloc, World.size_alloc]
  rw [World.size_alloc] at H0
  obtain ⟨a, c, hva⟩ := hrd.form
  obtain ⟨a', c', hvb⟩ := hru.form
  have TW : Two ((w.alloc (.cells #[.int .i64 La, .int .i64 S, v] 24)).alloc (.cells #[.int .i64 Lb, .int .i64 T, u] 24)).heap.size La S Lb T v u (((w.alloc (.cells #[.int .i64 La, .int .i64 S, v] 24)).alloc (.cells #[.int .i64 Lb, .int .i64 T, u] 24)).alloc (.cells #[.int .i64 La, .int .i64 S, v, .int .i64 Lb, .int .i64 T, u] 24)) := by
    generalize ((w.alloc (.cells #[.int .i64 La, .int .i64 S, v] 24)).alloc (.cells #[.int .i64 Lb, .int .i64 T, u] 24)) = X
    exact ⟨by simp [go_sem], by simp [go_sem], by simp [go_sem], by simp [go_sem], by simp [go_sem], by simp [go_sem]⟩
  rw [zX] at TW
  have b2 := below1 ((w.alloc (.cells #[.int .i64 La, .int .i64 S, v] 24)).alloc (.cells #[.int .i64 Lb, .int .i64 T, u] 24)) (.cells #[.int .i64 La, .int .i64 S, v, .int .i64 Lb, .int .i64 T, u] 24)
  have G1 := Lib.hid (G0.keep b2)
  have H1 := Lib.hid (H0.keep b2)
  have B0 := Lib.hid (below_more b0 (Nat.le_refl _) b2)
  have HGT : Hid (Calls Tryd.prog 8 #[.slice (some ⟨w.heap.size + 1 + 1, 0, none⟩) 2 2] (((w.alloc (.cells #[.int .i64 La, .int .i64 S, v] 24)).alloc (.cells #[.int .i64 Lb, .int .i64 T, u] 24)).alloc (.cells #[.int .i64 La, .int .i64 S, v, .int .i64 Lb, .int .i64 T, u] 24)) fun e w' => e = .returned (.bool (great13B La S es.length || great13B Lb T fs.length)) ∧ Below (((w.alloc (.cells #[.int .i64 La, .int .i64 S, v] 24)).alloc (.cells #[.int .i64 Lb, .int .i64 T, u] 24)).alloc (.cells #[.int .i64 La, .int .i64 S, v, .int .i64 Lb, .int .i64 T, u] 24)).heap.size (((w.alloc (.cells #[.int .i64 La, .int .i64 S, v] 24)).alloc (.cells #[.int .i64 Lb, .int .i64 T, u] 24)).alloc (.cells #[.int .i64 La, .int .i64 S, v, .int .i64 Lb, .int .i64 T, u] 24)) w') := Lib.hid (by
    subst hva hvb
    exact great2_any La S Lb T a a' es.length fs.length c c' _ _ TW)
  have RA := Lib.hid hrd
  have RB := Lib.hid hru
  have HT := Lib.hid hT
  have HI1 := Lib.hid (fun W h1 h2 h3 => included_any La S Lb T es fs v u W h1 h2 hn hm h3)
  have HPR := Lib.hid hpr
  obtain ⟨a3, c3, hvp, hc3, hc3', hpb, -⟩ := id hpr
  subst hvp
  have HPB := Lib.hid hpb
  obtain ⟨x1, x2, x3⟩ := G0
  obtain ⟨y1, y2, y3⟩ := H0
  clear hrd hru hT b0 b2 TW zX hva hvb hpr hpb
  generalize hgg : (great13B La S es.length || great13B Lb T fs.length) = gg at HGT
  clear hgg
  cases gg
  · by_cases h8 : 8 < pl.length
    · have d3 : decide ((8 : Int) < (pl.length : Int)) = true := decide_eq_true (by omega)
      have d3' : decide (8 < pl.length) = true := decide_eq_true h8
      clear h8
      go_enter Tryd.func3, Tryd.ntmps3
      go_wp2_with (first
        | (go_at_call 8; (with_reducible refine HGT.out.mono ?_); rintro e W1 ⟨rfl, b1⟩; (have B1 := Lib.hid (below_more B0.out (Nat.le_refl _) b1)); clear b1 x1 x2 x3 y1 y2 y3)
        | (go_at_call 9; (with_reducible refine (HA.out _).mono ?_); rintro e W2 ⟨rfl, b2⟩; (have B2 := Lib.hid (B1.out.trans (b2.mono B1.out.size)))))
      go_ret
      exact ⟨rfl, B2.out⟩
    · have d3 : decide ((8 : Int) < (pl.length : Int)) = false := decide_eq_false (by omega)
      have d3' : decide (8 < pl.length) = false := decide_eq_false h8
      go_enter Tryd.func3, Tryd.ntmps3
      go_upto_region 3 with (go_at_call 8; (with_reducible refine HGT.out.mono ?_); rintro e W1 ⟨rfl, b1⟩; (have B1 := Lib.hid (below_more B0.out (Nat.le_refl _) b1)); (have G2 := Lib.hid (G1.out.keep b1)); (have H2 := Lib.hid (H1.out.keep b1)); clear b1 x1 x2 x3 y1 y2 y3; (obtain ⟨x1, x2, x3⟩ := id G2.out); (obtain ⟨y1, y2, y3⟩ := id H2.out))
      clear HGT G1 H1 B0
      go_upto_region 4 with (go_at_call 10; (with_reducible refine (HI1.out _ (RA.out.keep B1.out) (RB.out.keep B1.out) (HT.out.keep B1.out)).mono ?_); rintro e W2 ⟨x, ix, gx, cx, rfl, i2, n2, f2, b2⟩; (have I2 := Lib.hid i2); (have N2 := Lib.hid n2); (have F2 := Lib.hid f2); (have B2 := Lib.hid (B1.out.trans (b2.mono B1.out.size))); (have G3 := Lib.hid (G2.out.keep b2)); (have H3 := Lib.hid (H2.out.keep b2)); clear b2 i2 n2 f2 x1 x2 x3 y1 y2 y3 G2 H2)
      have lx := cmp_len N2.out F2.out
      by_cases hz : cmpZ La S es Lb T fs = 0
      · obtain ⟨z1, z2, z3, z4⟩ := cmpZ_zero hz
        have hva := chkG_zero z1
        have hvb := chkG_zero z2
        obtain ⟨la, rfl⟩ : ∃ la : Nat, La = (la : Int) := ⟨La.toNat, by have := hva.l1; omega⟩
        obtain ⟨lb, rfl⟩ : ∃ lb : Nat, Lb = (lb : Int) := ⟨Lb.toNat, by have := hvb.l1; omega⟩
        obtain ⟨n, rfl⟩ : ∃ n : Nat, S = (n : Int) := ⟨S.toNat, by have := hva.s1; omega⟩
        obtain ⟨m, rfl⟩ : ∃ m : Nat, T = (m : Int) := ⟨T.toNat, by have := hvb.s1; omega⟩
        have f2 := F2.out hz
        have wa := fun ws => sets_word hva z3 ws
        have wb := fun ws => sets_word hvb z4 ws
        have HWA : Hid (∀ W uw ws, EdgesRd W v es → IntsRd W uw (labsI ws) → ws.length ≤ 100000 → Calls Tryd.prog 11 #[grV (la : Int) (n : Int) v, uw] W fun e w' => e = .returned (.bool (decide (runN' es (fullN n) ws ≠ 0))) ∧ Below W.heap.size W w') := Lib.hid (fun W uw ws h1 h2 h3 => word_any la n es v uw ws W h1 hva h2 h3)
        have HWB : Hid (∀ W uw ws, EdgesRd W u fs → IntsRd W uw (labsI ws) → ws.length ≤ 100000 → Calls Tryd.prog 11 #[grV (lb : Int) (m : Int) u, uw] W fun e w' => e = .returned (.bool (decide (runN' fs (fullN m) ws ≠ 0))) ∧ Below W.heap.size W w') := Lib.hid (fun W uw ws h1 h2 h3 => word_any lb m fs u uw ws W h1 hvb h2 h3)
        rw [hz]
        obtain ⟨x1, x2, x3⟩ := id G3.out
        obtain ⟨y1, y2, y3⟩ := id H3.out
        cases ix
        · obtain ⟨ws, rfl, h1, h2⟩ := fw_first f2
          rw [wa] at h1
          rw [wb] at h2
          rw [labsI_lenH] at lx
          have CA := Lib.hid (fun W h h2 => HWA.out W (.slice gx (labsI ws).length cx) ws h h2 lx)
          have CB := Lib.hid (fun W h h2 => HWB.out W (.slice gx (labsI ws).length cx) ws h h2 lx)
          rw [decide_eq_true h1] at CA
          rw [decide_eq_false h2] at CB
          rw [labsI_lenH] at CA CB I2 ⊢
          clear N2 F2 f2 wa wb HWA HWB hz z1 z2 z3 z4 hva hvb h1 h2 h8
          go_wp2_with (first
            | (go_at_call 11; (with_reducible refine (CA.out _ (RA.out.keep B2.out) I2.out).mono ?_); rintro e W3 ⟨rfl, b3⟩; (have B3 := Lib.hid (B2.out.trans (b3.mono B2.out.size))); (have I3 := Lib.hid (I2.out.keep b3)); (have H4 := Lib.hid (H3.out.keep b3)); clear b3 x1 x2 x3 y1 y2 y3 CA I2; (obtain ⟨y1, y2, y3⟩ := id H4.out))
            | (go_at_call 11; (with_reducible refine (CB.out _ (RB.out.keep B3.out) I3.out).mono ?_); rintro e W4 ⟨rfl, b4⟩; (have B4 := Lib.hid (B3.out.trans (b4.mono B3.out.size))); clear b4 y1 y2 y3)
            | (go_at_call 9; (with_reducible refine (HA.out _).mono ?_); rintro e W9 ⟨rfl, b9⟩; (have B9 := Lib.hid (B4.out.trans (b9.mono B4.out.size))); clear b9))
          go_ret
          exact ⟨rfl, B9.out⟩
        · obtain ⟨rfl, hfw⟩ := fw_none f2
          have hL1 : 1 ≤ la := by have := hva.l1; omega
          have hL256 : la ≤ 256 := by have := hva.l2; omega
          have hmx : la ≤ (max (la : Int) (lb : Int)).toNat := by omega
          have HWW : Hid (∀ ws : List Nat, (∀ l ∈ ws, l < la) → runN' es (fullN n) ws ≠ 0 → runN' fs (fullN m) ws ≠ 0) := Lib.hid (fun ws hw h => by
            rw [← wb]
            exact hfw ws (fun l hl => Nat.lt_of_lt_of_le (hw l hl) hmx) ((wa ws).2 h))
          obtain ⟨ws, hws2⟩ : ∃ ws, pl.map (· % la) = ws := ⟨_, rfl⟩
          have hwl : ws.length = pl.length := by rw [← hws2, List.length_map]
          have HWL : Hid (∀ l ∈ ws, l < la) := Lib.hid (fun l hl => by
            rw [← hws2] at hl
            obtain ⟨y, -, rfl⟩ := List.mem_map.1 hl
            exact Nat.mod_lt _ (by omega))
          have HWX : Hid (∀ i y, pl[i]? = some y → ws[i]? = some (y % la)) := Lib.hid (fun i y h => by rw [← hws2, List.getElem?_map, h]; rfl)
          obtain ⟨i0, hi, hz0, hz1, hz2⟩ := info_parts Tryd.infoI64
          clear hws2 N2 F2 f2 wa wb z1 z2 z3 z4 hva hvb hz lx hfw hmx x1 x2 x3 y1 y2 y3 HI1 HT I2
          go_wp2_with fail
          go_loopg [10, 58] pl.length (fun q' s10 s58 wx => ∃ i : Nat, i + q' = pl.length ∧ s58 = .int .i64 (i : Int) ∧ IntsAt wx W2.heap.size s10 (labsI (ws.take i)) ∧ Below W2.heap.size W2 wx)
          case atStart => exact ⟨0, by omega, rfl, ints_nil _ _, Below.refl _ _⟩
          case round =>
            obtain ⟨i, hin, rfl, hown, hb⟩ := hrel
            obtain ⟨a8, c8, rfl⟩ := hown.slice
            have BW := Lib.hid (B2.out.trans (hb.mono B2.out.size))
            rcases gk with _ | q'
            · obtain rfl : i = pl.length := by omega
              have j0 : ¬ ((pl.length : Int) < (pl.length : Int)) := by omega
              have HI := Lib.hid hown.rd
              clear hown
              have hmm : ws.take pl.length = ws := by rw [← hwl, List.take_length]
              rw [hmm, labsI_lenH, hwl] at HI ⊢
              have G8 := Lib.hid (G3.out.keep hb)
              have H8 := Lib.hid (H3.out.keep hb)
              obtain ⟨x1, x2, x3⟩ := id G8.out
              obtain ⟨y1, y2, y3⟩ := id H8.out
              have CA := Lib.hid (fun W h h2 => HWA.out W (.slice a8 pl.length c8) ws h h2 (by omega))
              have CB := Lib.hid (fun W h h2 => HWB.out W (.slice a8 pl.length c8) ws h h2 (by omega))
              by_cases hrn : runN' es (fullN n) ws ≠ 0
              · rw [decide_eq_true hrn] at CA
                rw [decide_eq_true (HWW.out ws HWL.out hrn)] at CB
                clear hrn HWA HWB hmm hb
                go_wp2_with (first
                  | (go_at_call 11; (with_reducible refine (CA.out _ (RA.out.keep BW.out) HI.out).mono ?_); rintro e W3 ⟨rfl, b3⟩; (have B3 := Lib.hid (BW.out.trans (b3.mono BW.out.size))); (have I3 := Lib.hid (HI.out.keep b3)); (have H4 := Lib.hid (H8.out.keep b3)); clear b3 x1 x2 x3 y1 y2 y3 CA HI; (obtain ⟨y1, y2, y3⟩ := id H4.out))
                  | (go_at_call 11; (with_reducible refine (CB.out _ (RB.out.keep B3.out) I3.out).mono ?_); rintro e W4 ⟨rfl, b4⟩; (have B4 := Lib.hid (B3.out.trans (b4.mono B3.out.size))); clear b4 y1 y2 y3)
                  | (go_at_call 9; (with_reducible refine (HA.out _).mono ?_); rintro e W9 ⟨rfl, b9⟩; (have B9 := Lib.hid (B4.out.trans (b9.mono B4.out.size))); clear b9))
                go_ret
                exact ⟨rfl, B9.out⟩
              · rw [decide_eq_false hrn] at CA
                clear hrn HWA HWB hmm hb CB
                go_wp2_with (first
                  | (go_at_call 11; (with_reducible refine (CA.out _ (RA.out.keep BW.out) HI.out).mono ?_); rintro e W3 ⟨rfl, b3⟩; (have B3 := Lib.hid (BW.out.trans (b3.mono BW.out.size))); clear b3 x1 x2 x3 y1 y2 y3 CA HI)
                  | (go_at_call 9; (with_reducible refine (HA.out _).mono ?_); rintro e W9 ⟨rfl, b9⟩; (have B9 := Lib.hid (B3.out.trans (b9.mono B3.out.size))); clear b9))
                go_ret
                exact ⟨rfl, B9.out⟩
            · obtain ⟨y, hy⟩ : ∃ y, pl[i]? = some y := ⟨_, List.getElem?_eq_getElem (by omega)⟩
              have hy256 := HPB.out y (List.mem_of_getElem? hy)
              obtain ⟨a', c', hv', -, -, -, hcell⟩ := HPR.out.keep BW.out
              injection hv' with e1 e2 e3
              subst e1
              obtain ⟨b3, o3, e4, cb⟩ := hcell i y hy
              subst e4
              have HTK := Lib.hid (take_snoc (HWX.out i y hy))
              obtain ⟨lab, hlab⟩ : ∃ lab, y % la = lab := ⟨_, rfl⟩
              have tm2 : Int.tmod (y : Int) (la : Int) = (lab : Int) := by rw [Int.tmod_eq_emod_of_nonneg (by omega), ← hlab]; rfl
              have hwy : IntKind.i64.wrap (y : Int) = (y : Int) := IntWalk.i64_in _ (by omega)
              have hwb : IntKind.i64.wrap (lab : Int) = (lab : Int) := IntWalk.i64_in _ (by have := Nat.mod_le y la; omega)
              have hL9 : ¬ (la = 0) := by omega
              have hL7 : ¬ ((la : Int) = 0) := by omega
              rw [hlab] at HTK
              have HS := Lib.hid (show labsI (ws.take (i + 1)) = labsI (ws.take i) ++ [(lab : Int)] by rw [HTK.out]; unfold labsI; rw [List.map_append]; rfl)
              have hml2 : (labsI (ws.take i)).length ≤ 64 := by rw [labsI_lenH, List.length_take]; omega
              have j1 : (i : Int) < (pl.length : Int) := by omega
              have hlt := hown.lt
              have hown0 := hown
              unfold IntsAt at hown0
              obtain ⟨mm, hm9⟩ : ∃ mm, (labsI (ws.take i)).length = mm := ⟨_, rfl⟩
              rw [hm9] at hown0 hml2 hlt ⊢
              have HM := Lib.hid hm9
              obtain ⟨u1, u2, u3⟩ := G3.out.keep hb
              clear hown hm9 hy hcell e2 e3 hlab
              go_wp2_with (first | (at_builtin; refine wpList_append_own_at _ rfl _ _ 28 rfl W2.heap.size 3 i0 (.int .i64 0) 1 8 Tryd.underlying28 hi hz0 hz1 hz2 rfl (by decide) _ _ _ rfl (hown0.alloc _) ⟨wr.heap.size, 0, none⟩ 1 1 [.int .i64 (lab : Int)] rfl rfl ?c1 ?c2 ?c3 ?c4 ?c5 ?_))
              case c1 => exact World.news_of_block (cs := #[.int .i64 (lab : Int)]) (t := 3) (fr := (0, 0)) (heap_alloc_new wr _)
              case c2 => intro u hu; simp at hu; subst hu; rfl
              case c3 => unfold maxLen; omega
              case c4 => omega
              case c5 => rw [World.size_alloc]; have := hb.size; omega
              intro v' W2' hown2 hgrow _ hv'
              have hb2 : Below W2.heap.size W2 W2' := (hb.alloc hb.size _).grown hgrow (by rw [World.size_alloc]; have := hb.size; omega) (fun k hk => (hlt k hk).1)
              rw [← intz_snoc, ← HS.out] at hown2
              have HI2 := Lib.hid (show IntsAt W2' W2.heap.size v' (labsI (ws.take (i + 1))) by unfold IntsAt; rw [HS.out, List.length_append, HM.out]; rw [HS.out] at hown2; exact hown2)
              obtain ⟨a', c', rfl⟩ := own_slice hown2
              clear hown0 hown2 hgrow hlt hv' hb
              go_wp2_with fail
              go_roundg q'
              case measure => omega
              case rel => exact ⟨i + 1, by omega, by go_num, HI2.out, hb2⟩
      · obtain ⟨rfl, rfl⟩ := N2.out hz
        obtain ⟨z, hz2⟩ : ∃ z, cmpZ La S es Lb T fs = z := ⟨_, rfl⟩
        rw [hz2] at hz ⊢
        have d1 : (z != 0) = true := by simpa using hz
        clear N2 F2 hz hz2 lx h8
        go_wp2_with (go_at_call 9; (with_reducible refine (HA.out _).mono ?_); rintro e W9 ⟨rfl, b9⟩; (have B9 := Lib.hid (B2.out.trans (b9.mono B2.out.size))); clear b9)
        go_ret
        exact ⟨rfl, B9.out⟩
  · go_enter Tryd.func3, Tryd.ntmps3
    go_wp2_with (first
      | (go_at_call 8; (with_reducible refine HGT.out.mono ?_); rintro e W1 ⟨rfl, b1⟩; (have B1 := Lib.hid (below_more B0.out (Nat.le_refl _) b1)); clear b1 x1 x2 x3 y1 y2 y3)
      | (go_at_call 9; (with_reducible refine (HA.out _).mono ?_); rintro e W2 ⟨rfl, b2⟩; (have B2 := Lib.hid (B1.out.trans (b2.mono B1.out.size)))))
    go_ret
    exact ⟨rfl, B2.out⟩
end Go.Proofs.YtblkijdodojaeaaDoor

namespace Go.Proofs.YtblkijdodojaeaaDoor.minimalIncludes
open Go.ChangeShapes Go.WideShapes Go.ChangeAt Go.RowKit
open Go.ChangeMaps (open_string shut_string)
set_option maxRecDepth 100000
set_option linter.unusedVariables false

theorem contract (H : Type) (enc : TypeId × Value → H) (W : World) (args : Array Value) (ds gs : List (DataW H)) (before : List MemPlace)
    (hval : ∀ (j : Nat) t v, Tryd.f3.params[j]? = some t → args[j]? = some v → Value.okWide Tryd.prog W .any 0 t v)
    (hW : DataW.Whole enc Tryd.prog Tryd.f3.params.toList Rows.minimalIncludesSpec.vars false W args.toList ds gs before) (hL : laidMetH Tryd.prog Rows.minimalIncludesRow.laid W) :
    Calls Tryd.prog 3 args W fun e W' => ∃ v, e = .returned v ∧ Rows.minimalIncludesSpec.post enc Tryd.prog Tryd.f3 false true false false W args v W' := by
  have hW' := hW
  obtain ⟨p, q, hA0, hV, rfl, hfz, hnd⟩ := hW
  have hA : DataW.TrodAll enc Tryd.prog W 0 (fun _ => true) true Tryd.f3.params.toList args.toList ds p := hA0
  rw [Tryd.params3] at hA hval
  obtain ⟨v0, vs0, d0, ds0, p0, q0, hargs, rfl, rfl, h0, r0⟩ := trodAll_cons hA
  obtain ⟨v1, vs1, d1, ds1, p1, q1, rfl, rfl, rfl, h1, r1⟩ := trodAll_cons r0
  obtain ⟨v2, vs2, d2, ds2, p2, q2, rfl, rfl, rfl, h2, r2⟩ := trodAll_cons r1
  obtain ⟨rfl, rfl, rfl⟩ := trodAll_nil r2
  obtain rfl : args = #[v0, v1, v2] := by cases args; simp_all
  obtain ⟨rfl, rfl⟩ := trodVars_none hV
  obtain ⟨L0, S0, u0, es0, rfl, k0, l0⟩ := graph_open (hval 0 24 v0 rfl rfl) h0
  have t0 : ∀ x ∈ p0, x.block < W.heap.size := fun x hx => by simpa using hW'.lt x (by simp [hx])
  obtain ⟨L1, S1, u1, es1, rfl, k1, l1⟩ := graph_open (hval 1 24 v1 rfl rfl) h1
  have t1 : ∀ x ∈ p1, x.block < W.heap.size := fun x hx => by simpa using hW'.lt x (by simp [hx])
  obtain ⟨bs2, k2⟩ := bytes_open (hval 2 25 v2 rfl rfl) h2
  have t2 : ∀ x ∈ p2, x.block < W.heap.size := fun x hx => by simpa using hW'.lt x (by simp [hx])
  clear hA0
  refine (includes_any L0 S0 L1 S1 es0 es1 u0 u1 v2 bs2 W k0 k1 l0 l1 k2 (tabD_laid1 hL)).mono fun e W' ⟨he, hb⟩ => ?_
  subst he
  refine ⟨_, rfl, _, _, _, [], (p0 ++ (p1 ++ (p2 ++ []))), [], hW', ?_, ?_, ?_, hb.frame _, fun h => by cases h⟩
  · exact trodAll_cons_mk (p := []) (shut_bool Tryd.underlying4 true) trodAll_mk0
  · exact (trodAll_cons_mk (graph_keep h0 hb t0) (trodAll_cons_mk (graph_keep h1 hb t1) (trodAll_cons_mk (bytes_keep h2 hb t2) trodAll_mk0)))
  · rfl

theorem reads (os : Os) {H : Type} (enc : TypeId × Value → H) : ∃ places, DataW.whole enc Tryd.prog ((laidWorldN os).forCall (fun _ _ => 0) ⟨#[], #[.agg #[.int .i64 0, .int .i64 0, .slice none 0 0], .agg #[.int .i64 0, .int .i64 0, .slice none 0 0], .slice none 0 0], []⟩).memory Tryd.f3.params.toList Rows.minimalIncludesSpec.vars false [.agg #[.int .i64 0, .int .i64 0, .slice none 0 0], .agg #[.int .i64 0, .int .i64 0, .slice none 0 0], .slice none 0 0] 8 = some ([.agg [.lit (.int .i64 0), .lit (.int .i64 0), .nil], .agg [.lit (.int .i64 0), .lit (.int .i64 0), .nil], .nil], [], places) :=
  ⟨[], by kernel_rfl⟩

theorem lifted (os : Os) (started : os.Started) (H : Type) (enc : TypeId × Value → H) (F : Stop.Interp) :
    ReturnsInHanded {} Tryd.checked os 3 .any ((OpenSpec.ofChange Rows.minimalIncludesSpec).preRow enc Tryd.prog Tryd.f3 Rows.minimalIncludesRow.domain false Rows.minimalIncludesRow.laid) (((OpenSpec.ofChange Rows.minimalIncludesSpec).at F).post enc Tryd.prog Tryd.f3 false true false false) := by
  obtain ⟨places, hx⟩ := reads os enc
  refine returnsInHanded_of_row (C := Tryd.checked) (s := OpenSpec.ofChange Rows.minimalIncludesSpec) ownNone started (by kernel_rfl) Tryd.func3
    (witness_row_at (enc := enc) (C := Tryd.checked) false (laidWorldN os) #[.agg #[.int .i64 0, .int .i64 0, .slice none 0 0], .agg #[.int .i64 0, .int .i64 0, .slice none 0 0], .slice none 0 0] rfl (by kernel_rfl) (by kernel_rfl) (by kernel_rfl)
      (OpenSpec.preRow_of_cond 8 hx (by kernel_rfl) (fun k hk => by cases hk) (by kernel_rfl) (laid_met1 os _))) ?_
  intro W base args ds gs before hval hW _ _ _ hL _ _
  exact contract H enc W args ds gs before hval hW hL

theorem said : Rows.MinimalIncludesSaid :=
  OpenClaim.holds_of_cond 3 Tryd.f3 rfl rfl rfl rfl rfl rfl rfl ⟨rfl, rfl, rfl, rfl, rfl⟩ rfl rfl rfl rfl rfl (by kernel_rfl) Tryd.func3 (by kernel_rfl)
    (of_decide_eq_true (by kernel_rfl)) (by unfold Func.isWrapper; first | (rw [if_pos (by decide +kernel)]; kernel_rfl) | (rw [if_neg (by decide +kernel)]; exact ⟨rfl, rfl⟩))
    (fun os started H enc _ F => by rw [OpenClaim.pre_eq_preRow]; exact lifted os started H enc F)

theorem ns0 : Tryd.prog.wantsStandIn 25 = false := by kernel_rfl
theorem ns1 : Tryd.prog.wantsStandIn 24 = false := by kernel_rfl

theorem plain (f : FuncId) (fn : Func) (hf : Tryd.pinned.checked.prog.funcNamed "groove/groovelaw13.MinimalIncludes" = some f) (hfn : Tryd.pinned.checked.prog.funcs[f]? = some fn) :
    false = Tryd.pinned.checked.prog.looks [] ∧ ∀ (j : Nat) t, fn.params[j]? = some t → Tryd.pinned.checked.prog.wantsStandIn t = false := by
  obtain rfl : f = 3 := Option.some.inj ((show Tryd.prog.funcNamed "groove/groovelaw13.MinimalIncludes" = some 3 by kernel_rfl).symm.trans hf) |>.symm
  obtain rfl : fn = Tryd.f3 := (Option.some.inj (Tryd.func3.symm.trans hfn)).symm
  refine ⟨by kernel_rfl, fun j t ht => ?_⟩
  rw [Tryd.params3] at ht
  have hm := Array.mem_of_getElem? ht
  have hm : t = 24 ∨ t = 24 ∨ t = 25 := by simpa using hm
  rcases hm with rfl | rfl | rfl
  · exact ns1
  · exact ns1
  · exact ns0

/-- MinimalIncludes's card. -/
theorem card : Rows.MinimalIncludesCardSaid :=
  Claim7.holds_tied_plain_at .later [] _ _ _ _ said (fun _ h => by cases h) (by kernel_rfl) (fun _ h => by cases h) minimalIncludes_row_tie rfl ⟨rfl, rfl⟩ (by kernel_rfl) rfl plain (by kernel_rfl)
end Go.Proofs.YtblkijdodojaeaaDoor.minimalIncludes
