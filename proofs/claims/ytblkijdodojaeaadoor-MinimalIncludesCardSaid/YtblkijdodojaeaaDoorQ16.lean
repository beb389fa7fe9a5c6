/- What slices.IndexFunc returns at the functions of subset.Focus and labelsTo, what labelsTo returns. Conditions: all can be read; the first edge to a set comes from one before. What subset.Focus returns. Conditions: the edges can be read; the library's table reads as its text lays it. What grooveref09.Compare returns. No condition. -/
import Derived.Test.YtblkijdodojaeaaDoorQ15
import Derived.Test.YtblkijdodojaeaaDoorQ06
import Derived.Laws.IdiomCopy
import Derived.Lib.LazyBuf
import Derived.Test.YtblkijdodojaeaaDoorQ10

namespace Go.Proofs.YtblkijdodojaeaaDoor
open Go.RowKit Go.Maps
set_option linter.unusedSimpArgs false
set_option linter.unusedVariables false

theorem Tryd.foc1E (args : Array Value) (w : World) : (callFunc 55 args).run Tryd.prog w = .ok (.enter 55 args) w := by
  simp [callFunc, go_sem, Tryd.func55, Tryd.f55]
theorem Tryd.lab1E (args : Array Value) (w : World) : (callFunc 88 args).run Tryd.prog w = .ok (.enter 88 args) w := by
  simp [callFunc, go_sem, Tryd.func88, Tryd.f88]
theorem one_any (a : Option Addr) (n c : Nat) (w : World) : Calls Tryd.prog 55 #[.slice a n c] w fun e w' => e = .returned (.bool (n == 1)) ∧ w' = w := by
  have HE := Lib.hid (show ((n : Int) == 1) = (n == 1) by rw [Bool.eq_iff_iff, beq_iff_eq, beq_iff_eq]; omega)
  go_enter Tryd.func55, Tryd.ntmps55
  go_wp2
  go_ret
  exact ⟨by rw [← HE.out]; rfl, rfl⟩
theorem to_any3 (e : E3) (p : Nat) (t : Int) (w : World) (hp : w.cell? ⟨p, 0, none⟩ = some (.int .i64 t)) : Calls Tryd.prog 88 #[edgV e, .pointer (some ⟨p, 0, none⟩)] w fun en w' => en = .returned (.bool (e.2.2 == t)) ∧ Below w.heap.size w w' := by
  have h1 := cell_keep hp (below1 w (.cells #[.int .i64 e.1, .int .i64 e.2.1, .int .i64 e.2.2] 63))
  clear hp
  go_enter Tryd.func88, Tryd.ntmps88
  go_wp2_with fail
  go_ret
  exact ⟨rfl, below1 w _⟩
set_option maxRecDepth 100000 in
set_option maxHeartbeats 3200000 in
theorem idxR_any (rows : List (List Int)) (v : Value) (w : World) (h : RowsRd w v rows) (hn : rows.length ≤ 100000) :
    Calls Tryd.prog 54 #[v, .func (.func 55) #[] #[]] w fun e w' => (e = .returned (.int .i64 (match rows.findIdx? (fun r => r.length == 1) with | none => -1 | some i => (i : Int)))) ∧ w' = w := by
  have hE := Tryd.foc1E
  have HR := Lib.hid h
  obtain ⟨a, c, rfl⟩ := h.form
  clear h
  obtain ⟨R, hR⟩ : ∃ R, (match rows.findIdx? (fun r => r.length == 1) with | none => (-1 : Int) | some i => (i : Int)) = R := ⟨_, rfl⟩
  have HRR := Lib.hid hR
  rw [hR]
  clear hR
  go_enter Tryd.func54, Tryd.ntmps54
  go_wp2_with fail
  go_loopg [8] rows.length (fun q s8 wx => ∃ i : Nat, i + q = rows.length ∧ s8 = .int .i64 (i : Int) ∧ Hid (∀ j r, j < i → rows[j]? = some r → (r.length == 1) = false) ∧ wx = w)
  case atStart => exact ⟨0, by omega, rfl, Lib.hid (fun j r hj => absurd hj (Nat.not_lt_zero _)), rfl⟩
  case round =>
    obtain ⟨i, hin, rfl, HF, rfl⟩ := hrel
    rcases gk with _ | q
    · obtain rfl : i = rows.length := by omega
      have HE := Lib.hid (show R = -1 by
        have h1 : rows.findIdx? (fun r => r.length == 1) = none := by
          rw [List.findIdx?_eq_none_iff]
          intro r hr
          obtain ⟨j, hj, rfl⟩ := List.mem_iff_getElem.1 hr
          exact HF.out j _ hj (List.getElem?_eq_getElem hj)
        rw [← HRR.out, h1])
      clear HF HRR
      go_wp2_with fail
      go_ret
      exact ⟨by rw [HE.out]; rfl, rfl⟩
    · obtain ⟨r, hr⟩ : ∃ r, rows[i]? = some r := ⟨_, List.getElem?_eq_getElem (by omega)⟩
      obtain ⟨b, off, cc, u, hv, k1, k2⟩ := HR.out.at hr
      injection hv with e1 e2 e3
      subst e1
      obtain ⟨a8, c8, rfl⟩ := k2.form
      have HC := Lib.hid (one_any a8 r.length c8 wr)
      have j1 : (i : Int) < (rows.length : Int) := by omega
      have HX := Lib.hid hr
      clear hr e2 e3 k2
      cases h1 : (r.length == 1) with
      | true =>
        rw [h1] at HC
        have HE := Lib.hid (show R = (i : Int) by
          have h2 : rows.findIdx? (fun r => r.length == 1) = some i := by
            rw [List.findIdx?_eq_some_iff_getElem]
            obtain ⟨hi, hri⟩ := List.getElem?_eq_some_iff.1 HX.out
            refine ⟨hi, by rw [hri]; exact h1, fun j hj => ?_⟩
            have := HF.out j _ hj (List.getElem?_eq_getElem (by omega))
            rw [this]; decide
          rw [← HRR.out, h2])
        clear h1 HF HRR
        go_wp2_with ((with_reducible refine HC.out.mono ?_); rintro e W1 ⟨rfl, rfl⟩)
        go_ret
        exact ⟨by rw [HE.out]; rfl, rfl⟩
      | false =>
        rw [h1] at HC
        have HF2 := Lib.hid (show ∀ j r, j < i + 1 → rows[j]? = some r → (r.length == 1) = false from fun j r2 hj h2 => by
          by_cases e : j = i
          · subst e
            rw [HX.out] at h2
            injection h2 with h2
            subst h2
            exact h1
          · exact HF.out j r2 (by omega) h2)
        clear h1 HF
        go_wp2_with ((with_reducible refine HC.out.mono ?_); rintro e W1 ⟨rfl, rfl⟩)
        go_roundg q
        case measure => omega
        case rel => exact ⟨i + 1, by omega, by go_num, HF2, rfl⟩
def IdxE (es : List E3) (t : Int) (k : Int) : Prop := match fstE es t with
  | none => k = -1
  | some e => ∃ i : Nat, k = (i : Int) ∧ es[i]? = some e
set_option maxRecDepth 100000 in
set_option maxHeartbeats 3200000 in
theorem idxE_any (es : List E3) (v : Value) (p : Nat) (t : Int) (w : World) (h : EdgesRd w v es) (hn : es.length ≤ 100000) (hp : w.cell? ⟨p, 0, none⟩ = some (.int .i64 t)) :
    Calls Tryd.prog 87 #[v, .func (.func 88) #[] #[.pointer (some ⟨p, 0, none⟩)]] w fun e w' => (∃ k, e = .returned (.int .i64 k) ∧ IdxE es t k) ∧ Below w.heap.size w w' := by
  have hE := Tryd.lab1E
  have HR := Lib.hid h
  have HP := Lib.hid hp
  obtain ⟨a, c, rfl⟩ := h.form
  clear h hp
  go_enter Tryd.func87, Tryd.ntmps87
  go_wp2_with fail
  go_loopg [8] es.length (fun q s8 wx => ∃ i : Nat, i + q = es.length ∧ s8 = .int .i64 (i : Int) ∧ Hid (fstE (es.take i) t = none) ∧ Hid (Below w.heap.size w wx))
  case atStart => exact ⟨0, by omega, rfl, Lib.hid rfl, Lib.hid (Below.refl _ _)⟩
  case round =>
    obtain ⟨i, hin, rfl, HF, HB⟩ := hrel
    rcases gk with _ | q
    · obtain rfl : i = es.length := by omega
      have HE := Lib.hid (show IdxE es t (-1) by
        have h1 := HF.out
        rw [List.take_length] at h1
        unfold IdxE; rw [h1])
      go_wp2_with fail
      go_ret
      exact ⟨⟨_, rfl, HE.out⟩, HB.out⟩
    · obtain ⟨r, hr⟩ : ∃ r, es[i]? = some r := ⟨_, List.getElem?_eq_getElem (by omega)⟩
      obtain ⟨b, off, cc, hv, k1, k2, k3⟩ := (HR.out.keep HB.out).at hr
      injection hv with e1 e2 e3
      subst e1
      have HC := Lib.hid (to_any3 r p t wr (cell_keep HP.out HB.out))
      have j1 : (i : Int) < (es.length : Int) := by omega
      have HX := Lib.hid hr
      obtain ⟨x, y, z⟩ := r
      dsimp only at k1 k2 k3
      clear hr e2 e3
      cases h1 : (z == t) with
      | true =>
        rw [h1] at HC
        have HE := Lib.hid (show IdxE es t (i : Int) by
          unfold IdxE
          rw [fstE_at HX.out (beq_iff_eq.1 h1) HF.out]
          exact ⟨i, rfl, HX.out⟩)
        clear h1 HF
        go_wp2_with ((with_reducible refine HC.out.mono ?_); rintro e W1 ⟨rfl, b1⟩; (have HB2 := Lib.hid (HB.out.trans (b1.mono HB.out.size))))
        go_ret
        exact ⟨⟨_, rfl, HE.out⟩, HB2.out⟩
      | false =>
        rw [h1] at HC
        have HF2 := Lib.hid (show fstE (es.take (i + 1)) t = none by
          rw [take_snoc HX.out, fstE_snoc, HF.out, if_neg (beq_eq_false_iff_ne.1 h1)]; rfl)
        clear h1 HF
        go_wp2_with ((with_reducible refine HC.out.mono ?_); rintro e W1 ⟨rfl, b1⟩; (have HB2 := Lib.hid (HB.out.trans (b1.mono HB.out.size))))
        go_roundg q
        case measure => omega
        case rel => exact ⟨i + 1, by omega, by go_num, HF2, HB2⟩
theorem ints_rev {w W : World} {g c q : Nat} {l : List Int} {m : Nat} (hm : l.length = m) (h : IntsAt W w.heap.size (.slice (some ⟨g, 0, none⟩) m c) l) :
    IntsRd ((W.drewN q).setCells g 0 (((l.take m).reverse).map (Value.int .i64))) (.slice (some ⟨g, 0, none⟩) m c) l.reverse := by
  subst hm
  rw [List.take_length]
  refine ⟨_, c, by rw [List.length_reverse], fun i x hx => ⟨g, 0, rfl, ?_⟩⟩
  have hi : i < (l.reverse.map (Value.int .i64)).length := by rw [List.length_map]; exact (List.getElem?_eq_some_iff.1 hx).1
  have hs : ∀ j, j < (l.reverse.map (Value.int .i64)).length → ((W.drewN q).cell? ⟨g, 0 + j, none⟩).isSome = true := fun j hj => by
    have hj2 : j < l.length := by rw [List.length_map, List.length_reverse] at hj; exact hj
    have h2 : (W.drewN q).cell? ⟨g, 0 + j, none⟩ = some (.int .i64 l[j]) := by rw [Nat.zero_add]; exact IntsAt.cell h (List.getElem?_eq_getElem hj2)
    rw [h2]; rfl
  rw [World.cell?_setCells_in g _ 0 _ hs i hi]
  rw [List.getElem_map]
  obtain ⟨h3, h4⟩ := List.getElem?_eq_some_iff.1 hx
  rw [h4]
theorem blk_lo {W W4 : World} {A t s k p : Nat} {v : Value} {xs : List Value} {o : Obj} (hp : p < W.heap.size) (hr : W.ownsRow A t s v k xs) (hA : p < A) (hg : (W.alloc o).grownBy W4 v.ownBlock) : W4.heap[p]? = W.heap[p]? :=
  (hg.block p (by rw [World.size_alloc]; omega) (fun e => by have := (hr.lt p e.symm).1; omega)).trans (Below.heap_alloc _ _ _ hp)
theorem boxed_lo {W W4 : World} {A t s k p : Nat} {u v : Value} {ty : TypeId} {xs : List Value} {o : Obj} (h : Boxed W p ty u) (hr : W.ownsRow A t s v k xs) (hA : p < A) (hg : (W.alloc o).grownBy W4 v.ownBlock) : Boxed W4 p ty u := (blk_lo h.lt hr hA hg).trans h
theorem boxg_lo {W W4 : World} {A t s k p : Nat} {x y : Int} {z v : Value} {xs : List Value} {o : Obj} (h : BoxG W p x y z) (hp : p < W.heap.size) (hr : W.ownsRow A t s v k xs) (hA : p < A) (hg : (W.alloc o).grownBy W4 v.ownBlock) : BoxG W4 p x y z :=
  have hb := blk_lo hp hr hA hg
  ⟨(World.cell?_of_block (a := ⟨p, 0, none⟩) hb).trans h.1, (World.cell?_of_block (a := ⟨p, 1, none⟩) hb).trans h.2.1, (World.cell?_of_block (a := ⟨p, 2, none⟩) hb).trans h.2.2⟩
def LabOut (w : World) (l : List Int) (e : Ending) (w' : World) : Prop := ∃ v, e = .returned v ∧ IntsRd w' v l ∧ Below w.heap.size w w'
theorem rev_any (w W : World) (v : Value) (l : List Int) (h : IntsAt W w.heap.size v l) (hl : l.length ≤ 100000) (hw : w.heap.size ≤ W.heap.size) :
    Calls Tryd.prog 89 #[v] W fun e w' => e = .returned (.tuple #[]) ∧ IntsRd w' v l.reverse ∧ Below w.heap.size W w' := by
  by_cases h0 : l = []
  · subst h0
    obtain ⟨a, c, rfl⟩ := h.slice
    refine (Tryd.slices_Reverse_int_empty a c W).mono ?_
    rintro e w' ⟨he, rfl⟩
    exact ⟨he, ⟨a, c, rfl, fun i x hx => by simp at hx⟩, Below.refl _ _⟩
  · obtain ⟨g, c, rfl⟩ := h.row (List.length_pos_iff.2 h0)
    have hc : ∀ j, j < l.length → W.cell? ⟨g, 0 + j, none⟩ = some (.int .i64 (l.getD j 0)) := fun j hj => by
      rw [Nat.zero_add, List.getD_eq_getElem?_getD, List.getElem?_eq_getElem hj]
      exact IntsAt.cell h (List.getElem?_eq_getElem hj)
    have hf : ∀ j, j < l.length → W.frozen? ⟨g, 0 + j, none⟩ = false := fun j hj => by
      rcases h.2 with ⟨h1, h2⟩ | ⟨g2, cap, cur, h1, h2, h3, _⟩
      · exact absurd (List.length_eq_zero_iff.1 h2) h0
      · injection h1 with h1
        injection h1 with h1
        injection h1 with h1
        subst h1
        simp [World.frozen?, h3]
    refine (Tryd.slices_Reverse_int_cells g 0 l.length c l W (Nat.le_refl _) (by omega) hc hf).mono ?_
    rintro e w' ⟨he, q, rfl⟩
    have hg : w.heap.size ≤ g := (World.ownsRow.lt h g rfl).1
    exact ⟨he, ints_rev rfl h, Lib.below_setCells g hg _ _ (below_drewM (Below.refl _ W) q)⟩
set_option maxRecDepth 100000 in
set_option maxHeartbeats 3200000 in
theorem labels_any (La : Int) (b : Bs) (v : Value) (s : Nat) (w : World) (h : EdgesRd w v b.2) (hf : FFN b) (hs : s < b.1.length) (hl : b.1.length ≤ 64) (hm : b.2.length ≤ 1024) :
    Calls Tryd.prog 56 #[grV La ((b.1.length : Nat) : Int) v, .int .i64 (s : Int)] w (LabOut w (labF b.2 s)) := by
  obtain ⟨i0, hi, hz0, hz1, hz2⟩ := info_parts Tryd.infoI64
  have HR := Lib.hid h
  have HF := Lib.hid hf
  obtain ⟨n, hn⟩ : ∃ n, b.1.length = n := ⟨_, rfl⟩
  have HN := Lib.hid hn
  rw [hn] at hs hl ⊢
  obtain ⟨a, c, rfl⟩ := h.form
  obtain ⟨W1, hW1⟩ : ∃ W1, w.alloc (.cells #[.int .i64 La, .int .i64 (n : Int), .slice a b.2.length c] 24) = W1 := ⟨_, rfl⟩
  have z1 : W1.heap.size = w.heap.size + 1 := by rw [← hW1, World.size_alloc]
  have G1 := Lib.hid (show BoxG (W1.alloc (.cells #[.int .i64 (s : Int)] 3)) w.heap.size La (n : Int) (.slice a b.2.length c) by rw [← hW1]; exact (BoxG.new w La (n : Int) _ _).keep (below1 _ _))
  have P1 := Lib.hid (show Boxed (W1.alloc (.cells #[.int .i64 (s : Int)] 3)) (w.heap.size + 1) 3 (.int .i64 (s : Int)) by rw [← z1]; exact Boxed.new _ _ _)
  have B1 := Lib.hid (show Below w.heap.size w (W1.alloc (.cells #[.int .i64 (s : Int)] 3)) by rw [← hW1]; exact below_more (below1 w _) (Nat.le_refl _) (below1 _ _))
  have HZ := Lib.hid (show w.heap.size + 2 ≤ (W1.alloc (.cells #[.int .i64 (s : Int)] 3)).heap.size by rw [World.size_alloc]; omega)
  rw [← hW1] at G1 P1 B1 HZ
  clear h hf hn hW1 z1 W1
  go_enter Tryd.func56, Tryd.ntmps56
  go_wp2_with fail
  generalize ((w.alloc (.cells #[.int .i64 La, .int .i64 (n : Int), .slice a b.2.length c] 24)).alloc (.cells #[.int .i64 (s : Int)] 3)) = W1 at *
  have HS0 := Lib.hid (show ([] : List Int) ++ labP b.2 s s = labP b.2 s s from rfl)
  have HI0 := Lib.hid (ints_nil W1 (w.heap.size + 2))
  go_loopg [5] s (fun q s5 wx => ∃ (k : Nat) (ls : List Int), k ≤ q ∧ k < n ∧ Hid (ls ++ labP b.2 k k = labP b.2 s s) ∧ Hid (IntsAt wx (w.heap.size + 2) s5 ls) ∧ Hid (BoxG wx w.heap.size La (n : Int) (.slice a b.2.length c)) ∧ Hid (Boxed wx (w.heap.size + 1) 3 (.int .i64 (k : Int))) ∧ Hid (Below w.heap.size w wx) ∧ w.heap.size + 2 ≤ wx.heap.size ∧ ls.length ≤ 1000 - q)
  case atStart => exact ⟨s, [], Nat.le_refl _, hs, HS0, HI0, G1, P1, B1, HZ.out, Nat.zero_le _⟩
  case round =>
    clear HS0 HI0 G1 P1 B1 HZ
    obtain ⟨k, ls, hkq, hkn, HL, HI, G, P, B, hsz, hll⟩ := hrel
    have xp := P.out.cell
    obtain ⟨x1, x2, x3⟩ := id G.out
    by_cases h0 : k = 0
    · subst h0
      have HE := Lib.hid (show ls = labP b.2 s s by have := HL.out; rw [labP_zero, List.append_nil] at this; exact this)
      have HRV := Lib.hid (rev_any w wr u5 ls (own_low HI.out (by omega)) (by omega) (by omega))
      obtain ⟨a5, c5, rfl⟩ := HI.out.slice
      obtain ⟨m, hm5⟩ : ∃ m, ls.length = m := ⟨_, rfl⟩
      rw [hm5] at HRV ⊢
      clear hm5
      go_wp2_with (go_at_call 89; (with_reducible refine HRV.out.mono ?_); rintro e W2 ⟨rfl, hi2, b2⟩)
      go_ret
      refine ⟨_, rfl, ?_, B.out.trans b2⟩
      unfold labF
      rw [← HE.out]
      exact hi2
    · obtain ⟨e, he, he0, he1⟩ := HF.out.ff k (by omega) (by rw [HN.out]; exact hkn)
      have j0 : ((k : Int) != 0) = true := by rw [bne_iff_ne]; omega
      have HIX := Lib.hid (idxE_any b.2 (.slice a b.2.length c) (w.heap.size + 1) (k : Int) wr (HR.out.keep B.out) (by omega) xp)
      have HID := Lib.hid (fun kk (h : IdxE b.2 (k : Int) kk) => show ∃ i : Nat, kk = (i : Int) ∧ b.2[i]? = some e by unfold IdxE at h; rw [he] at h; exact h)
      have HL2 := Lib.hid (show (ls ++ [e.2.1]) ++ labP b.2 e.1.toNat e.1.toNat = labP b.2 s s by
        rw [← HL.out]
        obtain ⟨k', rfl⟩ : ∃ k', k = k' + 1 := ⟨k - 1, by omega⟩
        rw [labP_step h0 he, labP_more HF.out k' e.1.toNat (by omega) (by rw [HN.out]; omega), List.append_assoc]; rfl)
      obtain ⟨x, y, z⟩ := e
      dsimp only at he0 he1 HL2
      obtain ⟨x, rfl⟩ : ∃ m : Nat, x = (m : Int) := ⟨x.toNat, by omega⟩
      have hown := HI.out
      unfold IntsAt at hown
      obtain ⟨m, hm5⟩ : ∃ m, ls.length = m := ⟨_, rfl⟩
      have HM := Lib.hid hm5
      obtain ⟨a5, c5, rfl⟩ := own_slice hown
      rw [hm5] at hown hll
      rw [hm5] at HI ⊢
      clear hm5 he h0
      go_upto_region 4 with (go_at_call 87; (with_reducible refine HIX.out.mono ?_); rintro e0 W2 ⟨⟨kk, rfl, hk⟩, b2⟩; (obtain ⟨ii, rfl, hii⟩ := HID.out kk hk))
      have hown2 := (World.ownsRow.kept hown (grown_none b2) (by cases (Value.slice a5 m c5).ownBlock <;> simp))
      have P2 := P.out.kept (grown_none b2) (by simp)
      have G2 := G.out.keep b2
      have B2 := Lib.hid (below_more B.out (by omega) b2)
      have hs2 := b2.size
      obtain ⟨bb, off, c', hv, k1, k2, k3⟩ := (HR.out.keep B2.out).at hii
      injection hv with e1 e2 e3
      subst e1
      subst e3
      obtain ⟨x1, x2, x3⟩ := id G2
      have xp := P2.cell
      have hil : ii < b.2.length := (List.getElem?_eq_some_iff.1 hii).1
      have j1 : (ii : Int) < (b.2.length : Int) := by omega
      dsimp only at k1 k2 k3
      have HI2 := Lib.hid hii
      clear hii e2 hk HIX HID P G B b2 k3
      go_wp2_with (at_builtin; refine wpList_append_own_at _ rfl _ _ 28 rfl (w.heap.size + 2) 3 i0 (.int .i64 0) 1 8 Tryd.underlying28 hi hz0 hz1 hz2 rfl (by decide) _ _ _ rfl (hown2.alloc _) ⟨W2.heap.size, 0, none⟩ 1 1 [.int .i64 y] rfl rfl (cell_one_new _ _ _) (by intro u hu; simp at hu; subst hu; rfl) (by unfold maxLen; omega) (by omega) (by rw [World.size_alloc]; omega) ?_; intro v' w4 hown4 hgrow4 hnil4 hloc4; (obtain ⟨g4, cap4, rfl, -, -⟩ := hown4.form (Nat.succ_pos _)); (have P4 := boxed_lo P2 hown2 (by omega) hgrow4); (have xp4 := P4.cell); (have fp4 := P4.frozen); (have G4 := boxg_lo G2 (show w.heap.size < W2.heap.size by omega) hown2 (by omega) hgrow4); (obtain ⟨x1, x2, x3⟩ := id G4); (have B4 := Lib.hid (((B2.out.alloc (by omega) _).grown hgrow4 (by rw [World.size_alloc]; omega) (fun k e => by have := (hown2.lt k e).1; omega)))); (have HR4 := (HR.out.keep B4.out).at HI2.out); (obtain ⟨bb4, off4, c4, hv4, q1, q2, q3⟩ := HR4); (injection hv4 with e4 e5 e6); (injection e4 with e4); (injection e4 with e4 e7 e8); (subst e4); (subst e7); (subst e6); dsimp only at q1 q2)
      have HI5 := Lib.hid (show IntsAt (w4.setCell ⟨w.heap.size + 1, 0, none⟩ (.int .i64 (x : Int))) (w.heap.size + 2) (.slice (some ⟨g4, 0, none⟩) (m + 1) cap4) (ls ++ [y]) from by
        have h1 : IntsAt w4 (w.heap.size + 2) (.slice (some ⟨g4, 0, none⟩) (m + 1) cap4) (ls ++ [y]) := by unfold IntsAt; rw [intz_snoc, List.length_append, HM.out]; exact hown4
        exact ownsRow_setCell_below h1 (by show w.heap.size + 1 < w.heap.size + 2; omega) _)
      go_roundg x
      case measure => omega
      case rel =>
        refine ⟨x, ls ++ [y], Nat.le_refl _, by omega, Lib.hid (by have := HL2.out; rwa [Int.toNat_natCast] at this), HI5, Lib.hid ?_, Lib.hid (P4.set _), Lib.hid (B4.out.setCell (by show w.heap.size ≤ w.heap.size + 1; omega) _), by rw [World.size_setCell]; have := hgrow4.size; rw [World.size_alloc] at this; omega, by rw [List.length_append, HM.out]; simp; omega⟩
        exact ⟨by rw [World.cell?_setCell_far _ _ _ _ (by show w.heap.size + 1 ≠ w.heap.size; omega)]; exact x1, by rw [World.cell?_setCell_far _ _ _ _ (by show w.heap.size + 1 ≠ w.heap.size; omega)]; exact x2, by rw [World.cell?_setCell_far _ _ _ _ (by show w.heap.size + 1 ≠ w.heap.size; omega)]; exact x3⟩
end Go.Proofs.YtblkijdodojaeaaDoor

namespace Go.Proofs.YtblkijdodojaeaaDoor
open Go.RowKit Go.Maps
set_option linter.unusedSimpArgs false
set_option linter.unusedVariables false

/-- What holds of what Build returns. -/
structure GoodB (b : Bs) : Prop where
  ff : FFN b
  n : b.1.length ≤ 64
  m : b.2.length ≤ 1024
  lt : ∀ S ∈ b.1, S < 18446744073709551616
theorem goodB_nil : GoodB ([], []) := ⟨⟨fun e he => (by cases he), fun t h1 h2 => absurd h2 (Nat.not_lt_zero _)⟩, Nat.zero_le _, Nat.zero_le _, fun S hS => (by cases hS)⟩
theorem built_good {es : List E3} {La S : Nat} (h : S ≠ 0) (h2 : S < 18446744073709551616) : GoodB (bSets (builtN es La S)) := by
  cases hb : builtN es La S with
  | none => exact goodB_nil
  | some b =>
    have hr := built_res h h2 hb
    exact ⟨built_ff hb, hr.n, hr.m, fun S hS => (hr.lt S hS).2⟩
theorem buildR_good (La S : Int) (es : List E3) : GoodB (buildR La S es).2 := by
  unfold buildR
  by_cases h0 : chkG La S es = 0
  · rw [if_pos h0]
    have hvg := chkG_zero h0
    by_cases h1 : S = 0
    · rw [if_pos h1]; exact goodB_nil
    · rw [if_neg h1]
      exact built_good (fullN_ne (by have := hvg.s1; omega)) (fullN_lt (by have := hvg.s2; omega))
  · rw [if_neg h0]; exact goodB_nil
def FocOut (w : World) (r : List Int × Int × Bool × Int) (e : Ending) (w' : World) : Prop := ∃ v, e = .returned (.tuple #[v, .int .i64 r.2.1, .bool r.2.2.1, .int .i64 r.2.2.2]) ∧ IntsRd w' v r.1 ∧ Below w.heap.size w w'
theorem rd_nil (W : World) : IntsRd W (.slice none 0 0) [] := ⟨none, 0, rfl, fun i x hx => by simp at hx⟩
def SF (p q r i : Nat) (x y : Int) (z u : Value) (k : Int) (g o off : Nat) (W : World) : Prop := W.cell? ⟨p, 0, none⟩ = some (.int .i64 x) ∧ W.cell? ⟨p, 1, none⟩ = some (.int .i64 y) ∧ W.cell? ⟨p, 2, none⟩ = some z ∧ W.cell? ⟨q, off + i, none⟩ = some u ∧ W.cell? ⟨g, o, none⟩ = some (.int .i64 k)
theorem SF.keep {p q r i : Nat} {x y : Int} {z u : Value} {k : Int} {g o off : Nat} {W W' : World} (h : SF p q r i x y z u k g o off W) (hb : Below W.heap.size W W') : SF p q r i x y z u k g o off W' := ⟨cell_keep h.1 hb, cell_keep h.2.1 hb, cell_keep h.2.2.1 hb, cell_keep h.2.2.2.1 hb, cell_keep h.2.2.2.2 hb⟩
theorem find_map (l : List Nat) : (l.map memN).findIdx? (fun r => r.length == 1) = l.findIdx? (fun S => (memN S).length == 1) := by rw [List.findIdx?_map]; rfl
set_option maxRecDepth 100000 in
set_option maxHeartbeats 6400000 in
theorem Focus_any (La S : Int) (es : List E3) (v : Value) (w : World) (hrd : EdgesRd w v es) (hn : es.length ≤ 9223372036854775807) (hT : TabD w) :
    Calls Tryd.prog 23 #[grV La S v] w (FocOut w (focR La S es)) := by
  have hmx : Tryd.prog.follows .mixedOrders = true := by kernel_rfl
  have b0 := below1 w (.cells #[.int .i64 La, .int .i64 S, v] 24)
  have HB := Lib.hid (Build_any La S es v _ (hrd.keep b0) hn (hT.keep b0))
  have hg := buildR_good La S es
  have B0 := Lib.hid b0
  obtain ⟨x1, x2, x3⟩ := id (BoxG.new w La S v 24)
  obtain ⟨z, hz⟩ : ∃ z, (buildR La S es).1 = z := ⟨_, rfl⟩
  obtain ⟨b, hb⟩ : ∃ b, (buildR La S es).2 = b := ⟨_, rfl⟩
  have HE := Lib.hid (show focR La S es = if z = 0 then ((focN b).1, (focN b).2.1, (focN b).2.2, 0) else ([], 0, false, z) by unfold focR; rw [hz, hb])
  rw [hz, hb] at HB
  rw [hb] at hg
  obtain ⟨a, c, rfl⟩ := hrd.form
  clear hrd hT hz hb b0
  obtain ⟨L', hL'⟩ : ∃ L', onOk z La = L' := ⟨_, rfl⟩
  unfold SetsOut at HB
  rw [hL'] at HB
  clear hL'
  have G := Lib.hid hg
  clear hg
  obtain ⟨m1, hm1⟩ : ∃ m1, b.1.length = m1 := ⟨_, rfl⟩
  obtain ⟨m2, hm2⟩ : ∃ m2, b.2.length = m2 := ⟨_, rfl⟩
  have HM1 := Lib.hid hm1
  have HM2 := Lib.hid hm2
  rw [hm1] at HB
  clear hm1 hm2
  by_cases h0 : z = 0
  · subst h0
    rw [if_pos rfl] at HE
    have HBL := Lib.hid (fun (W : World) (hv : Value) (h : EdgesRd W hv b.2) (s : Nat) (hs : s < b.1.length) => labels_any L' b hv s W h G.out.ff hs G.out.n G.out.m)
    rw [HM1.out] at HBL
    cases hf : b.1.findIdx? (fun S => (memN S).length == 1) with
    | none =>
      have HF := Lib.hid (show focN b = ([], 0, false) by unfold focN; rw [hf])
      have HIX := Lib.hid (fun W lv (h : RowsRd W lv (b.1.map memN)) => idxR_any (b.1.map memN) lv W h (by rw [List.length_map]; have := G.out.n; omega))
      rw [find_map, hf] at HIX
      rw [HF.out] at HE
      clear hf HBL HF
      go_enter Tryd.func23, Tryd.ntmps23
      go_wp2_with (first
        | (go_at_call 17; (with_reducible refine HB.out.mono ?_); rintro e W2 ⟨hv, lv, rfl, he2, hr2, b2⟩; (obtain ⟨ah, ch, rfl⟩ := he2.slice); (have HRR := Lib.hid hr2.rd); (obtain ⟨al, rfl⟩ := hr2.form); (have B2 := Lib.hid (below_more (below_more B0.out (Nat.le_refl _) b2) (by have := b2.size; rw [World.size_alloc] at this; omega) (below1 W2 (.cells #[.int .i64 L', .int .i64 (m1 : Int), .slice ah b.2.length ch] 24)))))
        | (go_at_call 54; (with_reducible refine (HIX.out _ _ (HRR.out.keep (below1 W2 (.cells #[.int .i64 L', .int .i64 (m1 : Int), .slice ah b.2.length ch] 24)))).mono ?_); rintro e W3 ⟨rfl, rfl⟩))
      rw [HE.out]
      exact bodyPost_ret (v := .tuple #[.slice none 0 0, .int .i64 0, .bool false, .int .i64 0]) (by simp [results, Tryd.results23, go_sem]) rfl ⟨_, rfl, rd_nil _, B2.out⟩
    | some i =>
      obtain ⟨hil, hone, -⟩ := List.findIdx?_eq_some_iff_getElem.1 hf
      obtain ⟨T, hTi⟩ : ∃ T, b.1[i] = T := ⟨_, rfl⟩
      rw [hTi] at hone
      have hTg : b.1[i]? = some T := by rw [List.getElem?_eq_getElem hil, hTi]
      obtain ⟨x, hx⟩ : ∃ x, memN T = [x] := List.length_eq_one_iff.1 (beq_iff_eq.1 hone)
      have HF := Lib.hid (show focN b = (labF b.2 i, x, true) by
        unfold focN; rw [hf]; dsimp only
        rw [List.getD_eq_getElem?_getD, hTg]; dsimp only [Option.getD]
        rw [hx]; rfl)
      have HIX := Lib.hid (fun W lv (h : RowsRd W lv (b.1.map memN)) => idxR_any (b.1.map memN) lv W h (by rw [List.length_map]; have := G.out.n; omega))
      have HROW := Lib.hid (show (b.1.map memN)[i]? = some [x] by rw [List.getElem?_map, hTg]; show some (memN T) = _; rw [hx])
      rw [find_map, hf] at HIX
      rw [HF.out] at HE
      rw [HM1.out] at hil
      have hn64 := G.out.n
      rw [HM1.out] at hn64
      clear hf HF hone hTi hTg hx
      have d2 : ¬ ((i : Int) < 0) := by omega
      go_enter Tryd.func23, Tryd.ntmps23
      go_upto_region 7 with (first
        | (go_at_call 17; (with_reducible refine HB.out.mono ?_); rintro e W2 ⟨hv, lv, rfl, he2, hr2, b2⟩; (obtain ⟨ah, ch, rfl⟩ := he2.slice); (have HRR := Lib.hid hr2.rd); (obtain ⟨al, rfl⟩ := hr2.form); (have B2 := Lib.hid (below_more (below_more B0.out (Nat.le_refl _) b2) (by have := b2.size; rw [World.size_alloc] at this; omega) (below1 W2 (.cells #[.int .i64 L', .int .i64 (m1 : Int), .slice ah b.2.length ch] 24)))))
        | (go_at_call 54; (with_reducible refine (HIX.out _ _ (HRR.out.keep (below1 W2 (.cells #[.int .i64 L', .int .i64 (m1 : Int), .slice ah b.2.length ch] 24)))).mono ?_); rintro e W3 ⟨rfl, hW3⟩; subst hW3))
      clear x1 x2 x3
      have HR2 := Lib.hid (HRR.out.keep (below1 W2 (.cells #[.int .i64 L', .int .i64 (m1 : Int), .slice ah b.2.length ch] 24)))
      have HE2 := Lib.hid (he2.keep (below1 W2 (.cells #[.int .i64 L', .int .i64 (m1 : Int), .slice ah b.2.length ch] 24))).rd
      obtain ⟨y1, y2, y3⟩ := BoxG.new W2 L' (m1 : Int) (.slice ah b.2.length ch) 24
      obtain ⟨q, off, cc, u, hv, k1, k2⟩ := HR2.out.at HROW.out
      injection hv with e1 e2 e3
      subst e1
      obtain ⟨g, o, c5, hu5, k3⟩ := k2.at (i := 0) (x := x) rfl
      subst hu5
      rw [Nat.add_zero] at k3
      obtain ⟨pp, hpp⟩ : ∃ pp, W2.heap.size = pp := ⟨_, rfl⟩
      rw [hpp] at y1 y2 y3 ⊢
      have hR0 : SF pp q i i L' (m1 : Int) (.slice ah b.2.length ch) (.slice (some ⟨g, o, none⟩) 1 c5) x g o off (W2.alloc (.cells #[.int .i64 L', .int .i64 (m1 : Int), .slice ah b.2.length ch] 24)).drew := ⟨y1, y2, y3, k1, k3⟩
      have HLB := Lib.hid (HBL.out (W2.alloc (.cells #[.int .i64 L', .int .i64 (m1 : Int), .slice ah b.2.length ch] 24)).drew (.slice ah b.2.length ch) (HE2.out.keep (Below.refl _ _).drew) i hil)
      have j1 : (i : Int) < (m1 : Int) := by omega
      clear y1 y2 y3 k1 k2 k3 e2 e3 hpp he2 hr2 b2 HB HIX HR2 HRR d2
      refine regionT (T := T2 10 10 (SF pp q i i L' (m1 : Int) (.slice ah b.2.length ch) (.slice (some ⟨g, o, none⟩) 1 c5) x g o off) (SF pp q i i L' (m1 : Int) (.slice ah b.2.length ch) (.slice (some ⟨g, o, none⟩) 1 c5) x g o off)) hmx ?_
      have hR := hR0
      refine take1 (i := 0) (v := ?_) rfl (by kernel_rfl) (by kernel_rfl) (by kernel_rfl) (by kernel_rfl) (by kernel_rfl) (by decide) (by decide) (fun _ _ _ h => h) (Or.inl ⟨by rfl, ?_⟩) hR hR ?_
      rotate_left
      · intro w hSw
        (try unfold SF at hSw)
        go_simp
        all_goals with_reducible rfl
      (try simp only [Act.put, List.setIfInBounds_toArray, List.set_cons_zero, List.set_cons_succ])
      refine take1 (i := 1) (v := ?_) rfl (by kernel_rfl) (by kernel_rfl) (by kernel_rfl) (by kernel_rfl) (by kernel_rfl) (by decide) (by decide) (fun _ _ _ h => h) (Or.inl ⟨by rfl, ?_⟩) hR hR ?_
      rotate_left
      · intro w hSw
        (try unfold SF at hSw)
        go_simp
        all_goals with_reducible rfl
      (try simp only [Act.put, List.setIfInBounds_toArray, List.set_cons_zero, List.set_cons_succ])
      refine take1 (i := 3) (v := ?_) rfl (by kernel_rfl) (by kernel_rfl) (by kernel_rfl) (by kernel_rfl) (by kernel_rfl) (by decide) (by decide) (fun _ _ _ h => h) (Or.inl ⟨by rfl, ?_⟩) hR hR ?_
      rotate_left
      · intro w hSw
        (try unfold SF at hSw)
        go_simp
        all_goals with_reducible rfl
      (try simp only [Act.put, List.setIfInBounds_toArray, List.set_cons_zero, List.set_cons_succ])
      refine take1 (i := 4) (v := ?_) rfl (by kernel_rfl) (by kernel_rfl) (by kernel_rfl) (by kernel_rfl) (by kernel_rfl) (by decide) (by decide) (fun _ _ _ h => h) (Or.inl ⟨by rfl, ?_⟩) hR hR ?_
      rotate_left
      · intro w hSw
        (try unfold SF at hSw)
        go_simp
        all_goals with_reducible rfl
      (try simp only [Act.put, List.setIfInBounds_toArray, List.set_cons_zero, List.set_cons_succ])
      refine take1 (i := 5) (v := ?_) rfl (by kernel_rfl) (by kernel_rfl) (by kernel_rfl) (by kernel_rfl) (by kernel_rfl) (by decide) (by decide) (fun _ _ _ h => h) (Or.inl ⟨by rfl, ?_⟩) hR hR ?_
      rotate_left
      · intro w hSw
        (try unfold SF at hSw)
        go_simp
        all_goals with_reducible rfl
      (try simp only [Act.put, List.setIfInBounds_toArray, List.set_cons_zero, List.set_cons_succ])
      refine take1 (i := 6) (v := ?_) rfl (by kernel_rfl) (by kernel_rfl) (by kernel_rfl) (by kernel_rfl) (by kernel_rfl) (by decide) (by decide) (fun _ _ _ h => h) (Or.inl ⟨by rfl, ?_⟩) hR hR ?_
      rotate_left
      · intro w hSw
        (try unfold SF at hSw)
        go_simp
        all_goals with_reducible rfl
      (try simp only [Act.put, List.setIfInBounds_toArray, List.set_cons_zero, List.set_cons_succ])
      refine take1 (i := 7) (v := ?_) rfl (by kernel_rfl) (by kernel_rfl) (by kernel_rfl) (by kernel_rfl) (by kernel_rfl) (by decide) (by decide) (fun _ _ _ h => h) (Or.inl ⟨by rfl, ?_⟩) hR hR ?_
      rotate_left
      · intro w hSw
        (try unfold SF at hSw)
        go_simp
        all_goals with_reducible rfl
      (try simp only [Act.put, List.setIfInBounds_toArray, List.set_cons_zero, List.set_cons_succ])
      refine take1 (i := 8) (v := ?_) rfl (by kernel_rfl) (by kernel_rfl) (by kernel_rfl) (by kernel_rfl) (by kernel_rfl) (by decide) (by decide) (fun _ _ _ h => h) (Or.inl ⟨by rfl, ?_⟩) hR hR ?_
      rotate_left
      · intro w hSw
        (try unfold SF at hSw)
        go_simp
        all_goals with_reducible rfl
      (try simp only [Act.put, List.setIfInBounds_toArray, List.set_cons_zero, List.set_cons_succ])
      refine stepT (i := 2) (by kernel_rfl) rfl (fun K hK => ?_)
      go_simp
      go_at_call 56
      (with_reducible refine HLB.out.mono ?_)
      rintro e0 W6 ⟨v6, rfl, hi6, b6⟩
      have hR6 := hR0.keep b6
      obtain ⟨a6, c6, rfl⟩ := hi6.form
      go_wp2_with fail
      refine hK.out _ _ ⟨fun _ => hR6, fun _ => hR6⟩ ?_
      clear hK K hR
      have hR := hR6
      (try simp only [Act.put, List.setIfInBounds_toArray, List.set_cons_zero, List.set_cons_succ])
      refine stepT (i := 9) (by kernel_rfl) rfl (fun K hK => ?_)
      go_simp
      refine hK.out _ _ ⟨fun _ => hR6, fun _ => hR6⟩ ?_
      clear hK K hR
      have hR := hR6
      (try simp only [Act.put, List.setIfInBounds_toArray, List.set_cons_zero, List.set_cons_succ])
      refine stepT (i := 10) (by kernel_rfl) rfl (fun K hK => ?_)
      go_simp
      refine hK.out _ _ ⟨fun h => absurd h (by decide), fun h => absurd h (by decide)⟩ ?_
      clear hK K
      (try simp only [Act.put, List.setIfInBounds_toArray, List.set_cons_zero, List.set_cons_succ])
      refine stepT (i := 11) (by kernel_rfl) rfl (fun K hK => ?_)
      go_simp
      refine hK.out _ _ ⟨fun h => absurd h (by decide), fun h => absurd h (by decide)⟩ ?_
      clear hK K
      (try simp only [Act.put, List.setIfInBounds_toArray, List.set_cons_zero, List.set_cons_succ])
      refine stepT (i := 12) (by kernel_rfl) rfl (fun K hK => ?_)
      go_simp
      refine hK.out _ _ ⟨fun h => absurd h (by decide), fun h => absurd h (by decide)⟩ ?_
      clear hK K
      (try simp only [Act.put, List.setIfInBounds_toArray, List.set_cons_zero, List.set_cons_succ])
      refine doneT (by kernel_rfl) ?_ _
      go_wp2_with fail
      rw [HE.out]
      exact bodyPost_ret (v := .tuple #[.slice a6 (labF b.2 i).length c6, .int .i64 x, .bool true, .int .i64 0]) (by simp [results, Tryd.results23, go_sem]) rfl ⟨_, rfl, hi6, below_more B2.out.drew (by have := B2.out.size; omega) b6⟩
  · rw [if_neg h0] at HE
    have d1 : (z != 0) = true := by simpa using h0
    clear h0
    go_enter Tryd.func23, Tryd.ntmps23
    go_wp2_with (go_at_call 17; (with_reducible refine HB.out.mono ?_); rintro e W2 ⟨hv, lv, rfl, he2, hr2, b2⟩; (obtain ⟨ah, ch, rfl⟩ := he2.slice); (obtain ⟨al, rfl⟩ := hr2.form); (have B2 := Lib.hid (below_more (below_more B0.out (Nat.le_refl _) b2) (by have := b2.size; rw [World.size_alloc] at this; omega) (below1 W2 (.cells #[.int .i64 L', .int .i64 (m1 : Int), .slice ah b.2.length ch] 24)))))
    rw [HE.out]
    exact bodyPost_ret (v := .tuple #[.slice none 0 0, .int .i64 0, .bool false, .int .i64 z]) (by simp [results, Tryd.results23, go_sem]) rfl ⟨_, rfl, rd_nil _, B2.out⟩
end Go.Proofs.YtblkijdodojaeaaDoor

namespace Go.Proofs.YtblkijdodojaeaaDoor
open Go.RowKit
set_option linter.unusedSimpArgs false
set_option linter.unusedVariables false

/-- A row of three integers. -/
def BsW (B : Nat) (x : E3) (u : Value) (W : World) : Prop := ∃ p, u = .slice (some ⟨p, 0, none⟩) 3 3 ∧ B ≤ p ∧ Box3 W p x
theorem BsW.keep {B : Nat} {x : E3} {u : Value} {W W' : World} (h : BsW B x u W) (hb : Below W.heap.size W W') : BsW B x u W' := by
  obtain ⟨p, h1, h2, h3⟩ := h
  exact ⟨p, h1, h2, h3.keep hb⟩
theorem BsW.new {B : Nat} {W : World} {a b c : Int} {t : TypeId} (hb : B ≤ W.heap.size) : BsW B (a, b, c) (.slice (some ⟨W.heap.size, 0, none⟩) 3 3) (W.alloc (.cells #[.int .i64 a, .int .i64 b, .int .i64 c] t)) :=
  ⟨_, rfl, hb, Box3.new _ _ _ _ _⟩
set_option maxRecDepth 100000 in
set_option maxHeartbeats 6400000 in
theorem rcompare_any (a b : E3) (w : World) : Calls Tryd.prog 83 #[edgV a, edgV b] w fun e w' => e = .returned (.int .i64 (cmpE a b)) ∧ Below w.heap.size w w' := by
  have hmx : Tryd.prog.follows .mixedOrders = true := by kernel_rfl
  have K0 := Lib.hid (CA.start w a b 63 63)
  go_enter Tryd.func83, Tryd.ntmps83
  go_upto_region 1 with fail
  have KB := K0.out.drew
  clear K0
  refine region_inv' (J := (fun L act wx => ∃ u8 u9 u10 u11 u12 u13 u14 u15 u16 u17 u18 u19 u20 u21 u5 u6, act = { tmps := #[.agg #[.int .i64 a.1, .int .i64 a.2.1, .int .i64 a.2.2], .agg #[.int .i64 b.1, .int .i64 b.2.1, .int .i64 b.2.2], .pointer (some ⟨w.heap.size, 0, none⟩), .pointer (some ⟨w.heap.size + 1, 0, none⟩), .int .i64 0, u5, u6, undef, u8, u9, u10, u11, u12, u13, u14, u15, u16, u17, u18, u19, u20, u21, undef, undef, undef, undef, undef, undef, undef, undef, undef, undef, undef, undef, undef, undef, undef, undef, undef, undef, undef, undef, undef, undef], defers := [] } ∧ CA w a b wx ∧
      (L.getD 0 false = true → u8 = .pointer (some ⟨w.heap.size, 0, none⟩)) ∧ (L.getD 1 false = true → u9 = .int .i64 a.1) ∧ (L.getD 2 false = true → u10 = .pointer (some ⟨w.heap.size, 1, none⟩)) ∧ (L.getD 3 false = true → u11 = .int .i64 a.2.1) ∧ (L.getD 4 false = true → u12 = .pointer (some ⟨w.heap.size, 2, none⟩)) ∧ (L.getD 5 false = true → u13 = .int .i64 a.2.2) ∧ (L.getD 7 false = true → u15 = .pointer (some ⟨w.heap.size + 1, 0, none⟩)) ∧ (L.getD 8 false = true → u16 = .int .i64 b.1) ∧ (L.getD 9 false = true → u17 = .pointer (some ⟨w.heap.size + 1, 1, none⟩)) ∧ (L.getD 10 false = true → u18 = .int .i64 b.2.1) ∧ (L.getD 11 false = true → u19 = .pointer (some ⟨w.heap.size + 1, 2, none⟩)) ∧ (L.getD 12 false = true → u20 = .int .i64 b.2.2) ∧ (L.getD 6 false = true → BsW (w.heap.size + 2) (a) u14 wx) ∧ (L.getD 13 false = true → BsW (w.heap.size + 2) (b) u21 wx) ∧ (L.getD 14 false = true → BsW (w.heap.size + 2) (a) u5 wx) ∧ (L.getD 15 false = true → BsW (w.heap.size + 2) (b) u6 wx))) hmx (by kernel_rfl) ?_ ?_ ?_
  · exact ⟨undef, undef, undef, undef, undef, undef, undef, undef, undef, undef, undef, undef, undef, undef, undef, undef, rfl, KB, fun h => absurd h (by decide), fun h => absurd h (by decide), fun h => absurd h (by decide), fun h => absurd h (by decide), fun h => absurd h (by decide), fun h => absurd h (by decide), fun h => absurd h (by decide), fun h => absurd h (by decide), fun h => absurd h (by decide), fun h => absurd h (by decide), fun h => absurd h (by decide), fun h => absurd h (by decide), fun h => absurd h (by decide), fun h => absurd h (by decide), fun h => absurd h (by decide), fun h => absurd h (by decide)⟩
  · intro i hi L a wx hl hw ⟨u8, u9, u10, u11, u12, u13, u14, u15, u16, u17, u18, u19, u20, u21, u5, u6, ha, lo, c0, c1, c2, c3, c4, c5, c7, c8, c9, c10, c11, c12, b6, b13, b14, b15⟩
    subst ha
    obtain ⟨x1, x2, x3, y1', y2', y3'⟩ := lo.cells
    clear KB
    have hi' : i = 0 ∨ i = 1 ∨ i = 2 ∨ i = 3 ∨ i = 4 ∨ i = 5 ∨ i = 6 ∨ i = 7 ∨ i = 8 ∨ i = 9 ∨ i = 10 ∨ i = 11 ∨ i = 12 ∨ i = 13 ∨ i = 14 ∨ i = 15 := by
      have : i < 16 := hi
      omega
    rcases hi' with rfl | rfl | rfl | rfl | rfl | rfl | rfl | rfl | rfl | rfl | rfl | rfl | rfl | rfl | rfl | rfl
    · refine stepJ (i := 0) rfl (fun K hK => ?_)
      go_simp
      refine hK.out _ _ ⟨_, u9, u10, u11, u12, u13, u14, u15, u16, u17, u18, u19, u20, u21, u5, u6, rfl, lo, fun _ => rfl, fun h => c1 (fl (by decide) h), fun h => c2 (fl (by decide) h), fun h => c3 (fl (by decide) h), fun h => c4 (fl (by decide) h), fun h => c5 (fl (by decide) h), fun h => c7 (fl (by decide) h), fun h => c8 (fl (by decide) h), fun h => c9 (fl (by decide) h), fun h => c10 (fl (by decide) h), fun h => c11 (fl (by decide) h), fun h => c12 (fl (by decide) h), fun h => (b6 (fl (by decide) h)), fun h => (b13 (fl (by decide) h)), fun h => (b14 (fl (by decide) h)), fun h => (b15 (fl (by decide) h))⟩
    · refine stepJ (i := 1) rfl (fun K hK => ?_)
      obtain rfl := c0 (hw 0 (by kernel_rfl))
      go_simp
      refine hK.out _ _ ⟨_, _, u10, u11, u12, u13, u14, u15, u16, u17, u18, u19, u20, u21, u5, u6, rfl, lo, fun _ => rfl, fun _ => rfl, fun h => c2 (fl (by decide) h), fun h => c3 (fl (by decide) h), fun h => c4 (fl (by decide) h), fun h => c5 (fl (by decide) h), fun h => c7 (fl (by decide) h), fun h => c8 (fl (by decide) h), fun h => c9 (fl (by decide) h), fun h => c10 (fl (by decide) h), fun h => c11 (fl (by decide) h), fun h => c12 (fl (by decide) h), fun h => (b6 (fl (by decide) h)), fun h => (b13 (fl (by decide) h)), fun h => (b14 (fl (by decide) h)), fun h => (b15 (fl (by decide) h))⟩
    · refine stepJ (i := 2) rfl (fun K hK => ?_)
      go_simp
      refine hK.out _ _ ⟨u8, u9, _, u11, u12, u13, u14, u15, u16, u17, u18, u19, u20, u21, u5, u6, rfl, lo, fun h => c0 (fl (by decide) h), fun h => c1 (fl (by decide) h), fun _ => rfl, fun h => c3 (fl (by decide) h), fun h => c4 (fl (by decide) h), fun h => c5 (fl (by decide) h), fun h => c7 (fl (by decide) h), fun h => c8 (fl (by decide) h), fun h => c9 (fl (by decide) h), fun h => c10 (fl (by decide) h), fun h => c11 (fl (by decide) h), fun h => c12 (fl (by decide) h), fun h => (b6 (fl (by decide) h)), fun h => (b13 (fl (by decide) h)), fun h => (b14 (fl (by decide) h)), fun h => (b15 (fl (by decide) h))⟩
    · refine stepJ (i := 3) rfl (fun K hK => ?_)
      obtain rfl := c2 (hw 2 (by kernel_rfl))
      go_simp
      refine hK.out _ _ ⟨u8, u9, _, _, u12, u13, u14, u15, u16, u17, u18, u19, u20, u21, u5, u6, rfl, lo, fun h => c0 (fl (by decide) h), fun h => c1 (fl (by decide) h), fun _ => rfl, fun _ => rfl, fun h => c4 (fl (by decide) h), fun h => c5 (fl (by decide) h), fun h => c7 (fl (by decide) h), fun h => c8 (fl (by decide) h), fun h => c9 (fl (by decide) h), fun h => c10 (fl (by decide) h), fun h => c11 (fl (by decide) h), fun h => c12 (fl (by decide) h), fun h => (b6 (fl (by decide) h)), fun h => (b13 (fl (by decide) h)), fun h => (b14 (fl (by decide) h)), fun h => (b15 (fl (by decide) h))⟩
    · refine stepJ (i := 4) rfl (fun K hK => ?_)
      go_simp
      refine hK.out _ _ ⟨u8, u9, u10, u11, _, u13, u14, u15, u16, u17, u18, u19, u20, u21, u5, u6, rfl, lo, fun h => c0 (fl (by decide) h), fun h => c1 (fl (by decide) h), fun h => c2 (fl (by decide) h), fun h => c3 (fl (by decide) h), fun _ => rfl, fun h => c5 (fl (by decide) h), fun h => c7 (fl (by decide) h), fun h => c8 (fl (by decide) h), fun h => c9 (fl (by decide) h), fun h => c10 (fl (by decide) h), fun h => c11 (fl (by decide) h), fun h => c12 (fl (by decide) h), fun h => (b6 (fl (by decide) h)), fun h => (b13 (fl (by decide) h)), fun h => (b14 (fl (by decide) h)), fun h => (b15 (fl (by decide) h))⟩
    · refine stepJ (i := 5) rfl (fun K hK => ?_)
      obtain rfl := c4 (hw 4 (by kernel_rfl))
      go_simp
      refine hK.out _ _ ⟨u8, u9, u10, u11, _, _, u14, u15, u16, u17, u18, u19, u20, u21, u5, u6, rfl, lo, fun h => c0 (fl (by decide) h), fun h => c1 (fl (by decide) h), fun h => c2 (fl (by decide) h), fun h => c3 (fl (by decide) h), fun _ => rfl, fun _ => rfl, fun h => c7 (fl (by decide) h), fun h => c8 (fl (by decide) h), fun h => c9 (fl (by decide) h), fun h => c10 (fl (by decide) h), fun h => c11 (fl (by decide) h), fun h => c12 (fl (by decide) h), fun h => (b6 (fl (by decide) h)), fun h => (b13 (fl (by decide) h)), fun h => (b14 (fl (by decide) h)), fun h => (b15 (fl (by decide) h))⟩
    · refine stepJ (i := 6) rfl (fun K hK => ?_)
      obtain rfl := c1 (hw 1 (by kernel_rfl))
      obtain rfl := c3 (hw 3 (by kernel_rfl))
      obtain rfl := c5 (hw 5 (by kernel_rfl))
      go_simp
      refine hK.out _ _ ⟨u8, _, u10, _, u12, _, _, u15, u16, u17, u18, u19, u20, u21, u5, u6, rfl, lo.alloc _, fun h => c0 (fl (by decide) h), fun _ => rfl, fun h => c2 (fl (by decide) h), fun _ => rfl, fun h => c4 (fl (by decide) h), fun _ => rfl, fun h => c7 (fl (by decide) h), fun h => c8 (fl (by decide) h), fun h => c9 (fl (by decide) h), fun h => c10 (fl (by decide) h), fun h => c11 (fl (by decide) h), fun h => c12 (fl (by decide) h), fun _ => BsW.new lo.size, fun h => (b13 (fl (by decide) h)).keep (below1 wx _), fun h => (b14 (fl (by decide) h)).keep (below1 wx _), fun h => (b15 (fl (by decide) h)).keep (below1 wx _)⟩
    · refine stepJ (i := 7) rfl (fun K hK => ?_)
      go_simp
      refine hK.out _ _ ⟨u8, u9, u10, u11, u12, u13, u14, _, u16, u17, u18, u19, u20, u21, u5, u6, rfl, lo, fun h => c0 (fl (by decide) h), fun h => c1 (fl (by decide) h), fun h => c2 (fl (by decide) h), fun h => c3 (fl (by decide) h), fun h => c4 (fl (by decide) h), fun h => c5 (fl (by decide) h), fun _ => rfl, fun h => c8 (fl (by decide) h), fun h => c9 (fl (by decide) h), fun h => c10 (fl (by decide) h), fun h => c11 (fl (by decide) h), fun h => c12 (fl (by decide) h), fun h => (b6 (fl (by decide) h)), fun h => (b13 (fl (by decide) h)), fun h => (b14 (fl (by decide) h)), fun h => (b15 (fl (by decide) h))⟩
    · refine stepJ (i := 8) rfl (fun K hK => ?_)
      obtain rfl := c7 (hw 7 (by kernel_rfl))
      go_simp
      refine hK.out _ _ ⟨u8, u9, u10, u11, u12, u13, u14, _, _, u17, u18, u19, u20, u21, u5, u6, rfl, lo, fun h => c0 (fl (by decide) h), fun h => c1 (fl (by decide) h), fun h => c2 (fl (by decide) h), fun h => c3 (fl (by decide) h), fun h => c4 (fl (by decide) h), fun h => c5 (fl (by decide) h), fun _ => rfl, fun _ => rfl, fun h => c9 (fl (by decide) h), fun h => c10 (fl (by decide) h), fun h => c11 (fl (by decide) h), fun h => c12 (fl (by decide) h), fun h => (b6 (fl (by decide) h)), fun h => (b13 (fl (by decide) h)), fun h => (b14 (fl (by decide) h)), fun h => (b15 (fl (by decide) h))⟩
    · refine stepJ (i := 9) rfl (fun K hK => ?_)
      go_simp
      refine hK.out _ _ ⟨u8, u9, u10, u11, u12, u13, u14, u15, u16, _, u18, u19, u20, u21, u5, u6, rfl, lo, fun h => c0 (fl (by decide) h), fun h => c1 (fl (by decide) h), fun h => c2 (fl (by decide) h), fun h => c3 (fl (by decide) h), fun h => c4 (fl (by decide) h), fun h => c5 (fl (by decide) h), fun h => c7 (fl (by decide) h), fun h => c8 (fl (by decide) h), fun _ => rfl, fun h => c10 (fl (by decide) h), fun h => c11 (fl (by decide) h), fun h => c12 (fl (by decide) h), fun h => (b6 (fl (by decide) h)), fun h => (b13 (fl (by decide) h)), fun h => (b14 (fl (by decide) h)), fun h => (b15 (fl (by decide) h))⟩
    · refine stepJ (i := 10) rfl (fun K hK => ?_)
      obtain rfl := c9 (hw 9 (by kernel_rfl))
      go_simp
      refine hK.out _ _ ⟨u8, u9, u10, u11, u12, u13, u14, u15, u16, _, _, u19, u20, u21, u5, u6, rfl, lo, fun h => c0 (fl (by decide) h), fun h => c1 (fl (by decide) h), fun h => c2 (fl (by decide) h), fun h => c3 (fl (by decide) h), fun h => c4 (fl (by decide) h), fun h => c5 (fl (by decide) h), fun h => c7 (fl (by decide) h), fun h => c8 (fl (by decide) h), fun _ => rfl, fun _ => rfl, fun h => c11 (fl (by decide) h), fun h => c12 (fl (by decide) h), fun h => (b6 (fl (by decide) h)), fun h => (b13 (fl (by decide) h)), fun h => (b14 (fl (by decide) h)), fun h => (b15 (fl (by decide) h))⟩
    · refine stepJ (i := 11) rfl (fun K hK => ?_)
      go_simp
      refine hK.out _ _ ⟨u8, u9, u10, u11, u12, u13, u14, u15, u16, u17, u18, _, u20, u21, u5, u6, rfl, lo, fun h => c0 (fl (by decide) h), fun h => c1 (fl (by decide) h), fun h => c2 (fl (by decide) h), fun h => c3 (fl (by decide) h), fun h => c4 (fl (by decide) h), fun h => c5 (fl (by decide) h), fun h => c7 (fl (by decide) h), fun h => c8 (fl (by decide) h), fun h => c9 (fl (by decide) h), fun h => c10 (fl (by decide) h), fun _ => rfl, fun h => c12 (fl (by decide) h), fun h => (b6 (fl (by decide) h)), fun h => (b13 (fl (by decide) h)), fun h => (b14 (fl (by decide) h)), fun h => (b15 (fl (by decide) h))⟩
    · refine stepJ (i := 12) rfl (fun K hK => ?_)
      obtain rfl := c11 (hw 11 (by kernel_rfl))
      go_simp
      refine hK.out _ _ ⟨u8, u9, u10, u11, u12, u13, u14, u15, u16, u17, u18, _, _, u21, u5, u6, rfl, lo, fun h => c0 (fl (by decide) h), fun h => c1 (fl (by decide) h), fun h => c2 (fl (by decide) h), fun h => c3 (fl (by decide) h), fun h => c4 (fl (by decide) h), fun h => c5 (fl (by decide) h), fun h => c7 (fl (by decide) h), fun h => c8 (fl (by decide) h), fun h => c9 (fl (by decide) h), fun h => c10 (fl (by decide) h), fun _ => rfl, fun _ => rfl, fun h => (b6 (fl (by decide) h)), fun h => (b13 (fl (by decide) h)), fun h => (b14 (fl (by decide) h)), fun h => (b15 (fl (by decide) h))⟩
    · refine stepJ (i := 13) rfl (fun K hK => ?_)
      obtain rfl := c8 (hw 8 (by kernel_rfl))
      obtain rfl := c10 (hw 10 (by kernel_rfl))
      obtain rfl := c12 (hw 12 (by kernel_rfl))
      go_simp
      refine hK.out _ _ ⟨u8, u9, u10, u11, u12, u13, u14, u15, _, u17, _, u19, _, _, u5, u6, rfl, lo.alloc _, fun h => c0 (fl (by decide) h), fun h => c1 (fl (by decide) h), fun h => c2 (fl (by decide) h), fun h => c3 (fl (by decide) h), fun h => c4 (fl (by decide) h), fun h => c5 (fl (by decide) h), fun h => c7 (fl (by decide) h), fun _ => rfl, fun h => c9 (fl (by decide) h), fun _ => rfl, fun h => c11 (fl (by decide) h), fun _ => rfl, fun h => (b6 (fl (by decide) h)).keep (below1 wx _), fun _ => BsW.new lo.size, fun h => (b14 (fl (by decide) h)).keep (below1 wx _), fun h => (b15 (fl (by decide) h)).keep (below1 wx _)⟩
    · refine stepJ (i := 14) rfl (fun K hK => ?_)
      obtain ⟨pp, rfl, hpp⟩ := id (b6 (hw 6 (by kernel_rfl)))
      go_simp
      refine hK.out _ _ ⟨u8, u9, u10, u11, u12, u13, _, u15, u16, u17, u18, u19, u20, u21, _, u6, rfl, lo, fun h => c0 (fl (by decide) h), fun h => c1 (fl (by decide) h), fun h => c2 (fl (by decide) h), fun h => c3 (fl (by decide) h), fun h => c4 (fl (by decide) h), fun h => c5 (fl (by decide) h), fun h => c7 (fl (by decide) h), fun h => c8 (fl (by decide) h), fun h => c9 (fl (by decide) h), fun h => c10 (fl (by decide) h), fun h => c11 (fl (by decide) h), fun h => c12 (fl (by decide) h), fun h => (b6 (fl (by decide) h)), fun h => (b13 (fl (by decide) h)), fun _ => ⟨pp, rfl, hpp⟩, fun h => (b15 (fl (by decide) h))⟩
    · refine stepJ (i := 15) rfl (fun K hK => ?_)
      obtain ⟨pp, rfl, hpp⟩ := id (b13 (hw 13 (by kernel_rfl)))
      go_simp
      refine hK.out _ _ ⟨u8, u9, u10, u11, u12, u13, u14, u15, u16, u17, u18, u19, u20, _, u5, _, rfl, lo, fun h => c0 (fl (by decide) h), fun h => c1 (fl (by decide) h), fun h => c2 (fl (by decide) h), fun h => c3 (fl (by decide) h), fun h => c4 (fl (by decide) h), fun h => c5 (fl (by decide) h), fun h => c7 (fl (by decide) h), fun h => c8 (fl (by decide) h), fun h => c9 (fl (by decide) h), fun h => c10 (fl (by decide) h), fun h => c11 (fl (by decide) h), fun h => c12 (fl (by decide) h), fun h => (b6 (fl (by decide) h)), fun h => (b13 (fl (by decide) h)), fun h => (b14 (fl (by decide) h)), fun _ => ⟨pp, rfl, hpp⟩⟩
  · rintro L a wx hall ⟨u8, u9, u10, u11, u12, u13, u14, u15, u16, u17, u18, u19, u20, u21, u5, u6, rfl, lo, c0, c1, c2, c3, c4, c5, c7, c8, c9, c10, c11, c12, b6, b13, b14, b15⟩
    obtain rfl := c0 (hall 0 (by decide))
    obtain rfl := c1 (hall 1 (by decide))
    obtain rfl := c2 (hall 2 (by decide))
    obtain rfl := c3 (hall 3 (by decide))
    obtain rfl := c4 (hall 4 (by decide))
    obtain rfl := c5 (hall 5 (by decide))
    obtain rfl := c7 (hall 7 (by decide))
    obtain rfl := c8 (hall 8 (by decide))
    obtain rfl := c9 (hall 9 (by decide))
    obtain rfl := c10 (hall 10 (by decide))
    obtain rfl := c11 (hall 11 (by decide))
    obtain rfl := c12 (hall 12 (by decide))
    have B6 := b6 (hall 6 (by decide))
    have B13 := b13 (hall 13 (by decide))
    have B14 := b14 (hall 14 (by decide))
    have B15 := b15 (hall 15 (by decide))
    clear hall c0 c1 c2 c3 c4 c5 c7 c8 c9 c10 c11 c12 b6 b13 b14 b15
    obtain ⟨p5, rfl, -, q1, q2, q3, -, -, -⟩ := B14
    obtain ⟨p6, rfl, -, r1, r2, r3, -, -, -⟩ := B15
    clear B6 B13
    have hb := lo.1
    clear lo KB
    have HA := Lib.hid (show ∀ j, j < 3 → wx.cell? ⟨p5, j, none⟩ = some (.int .i64 (numE a j)) from fun j hj => by
      rcases (show j = 0 ∨ j = 1 ∨ j = 2 by omega) with rfl | rfl | rfl
      · exact q1
      · exact q2
      · exact q3)
    have HB := Lib.hid (show ∀ j, j < 3 → wx.cell? ⟨p6, j, none⟩ = some (.int .i64 (numE b j)) from fun j hj => by
      rcases (show j = 0 ∨ j = 1 ∨ j = 2 by omega) with rfl | rfl | rfl
      · exact r1
      · exact r2
      · exact r3)
    have HZ := Lib.hid hb
    clear hb q1 q2 q3 r1 r2 r3
    go_wp2_with fail
    go_loopg [7] 3 (fun k s7 wl => (∃ n, wl = wx.drewN n) ∧ ∃ i : Nat, i + k = 3 ∧ s7 = .int .i64 (i : Int) ∧ Hid (∀ j, j < i → numE a j = numE b j))
    case atStart => exact ⟨⟨0, rfl⟩, 0, by omega, rfl, Lib.hid (fun j hj => absurd hj (by omega))⟩
    case round =>
      obtain ⟨⟨n, rfl⟩, i, hi, rfl, HI⟩ := hrel
      rcases gk with _ | k
      · obtain rfl : i = 3 := by omega
        have HE := Lib.hid (cmpE_same HI.out)
        clear HI
        go_wp2_with fail
        go_ret
        exact ⟨by rw [HE.out]; rfl, below_drewM HZ.out _⟩
      · have il : decide ((i : Int) < 3) = true := decide_eq_true (by omega)
        have i3 : i < 3 := by omega
        have i3' : (i : Int) < 3 := by omega
        by_cases h : numE a i = numE b i
        · have HI2 := Lib.hid (show ∀ j, j < i + 1 → numE a j = numE b j from fun j hj => by
            rcases (show j < i ∨ j = i by omega) with h1 | rfl
            · exact HI.out j h1
            · exact h)
          have d1 : decide (numE a i < numE b i) = false := decide_eq_false (by omega)
          have d2 : decide (numE b i < numE a i) = false := decide_eq_false (by omega)
          clear HI h
          have ca := HA.out i (by omega)
          have cb := HB.out i (by omega)
          generalize numE a i = x at *
          generalize numE b i = y at *
          go_wp2_with fail
          go_quiet (fail)
          go_wp2_with fail
          go_quiet (fail)
          go_wp2_with fail
          go_roundg k
          case measure => omega
          case rel => exact ⟨⟨_, rfl⟩, i + 1, by omega, by go_num, HI2⟩
        · have HE := Lib.hid (cmpE_at (by omega) HI.out h)
          clear HI
          have ca := HA.out i (by omega)
          have cb := HB.out i (by omega)
          generalize numE a i = x at *
          generalize numE b i = y at *
          by_cases h2 : x < y
          · have d1 : decide (x < y) = true := decide_eq_true h2
            have HV := Lib.hid (show cmpE a b = -1 by rw [HE.out]; unfold cmpI; rw [if_pos h2])
            clear HE h h2
            go_wp2_with fail
            go_quiet (fail)
            go_wp2_with fail
            go_ret
            exact ⟨by rw [HV.out]; rfl, below_drewM (below_drewM HZ.out _) _⟩
          · have d1 : decide (x < y) = false := decide_eq_false h2
            have d2 : decide (y < x) = true := decide_eq_true (by omega)
            have HV := Lib.hid (show cmpE a b = 1 by rw [HE.out]; unfold cmpI; rw [if_neg h2, if_pos (by omega)])
            clear HE h h2
            go_wp2_with fail
            go_quiet (fail)
            go_wp2_with fail
            go_quiet (fail)
            go_wp2_with fail
            go_ret
            exact ⟨by rw [HV.out]; rfl, below_drewM (below_drewM (below_drewM HZ.out _) _) _⟩
end Go.Proofs.YtblkijdodojaeaaDoor
