/- What graph.passed returns. Conditions: at most 64 states, edges between states. -/
import Derived.Test.YtoekemfgmdbnbaaDoorVf
import Derived.Deep.DeepCutAuto
namespace Go.Proofs.YtoekemfgmdbnbaaDoor
open Go.RowKit
set_option linter.unusedSimpArgs false
set_option linter.unusedVariables false

/-- Both ends of an edge belong. -/
def bothF (f : Nat → Bool) (e : E3) : Bool := f e.1.toNat && f e.2.2.toNat
def leftF (f : Nat → Bool) (es : List E3) (s : Nat) : Bool := es.any fun e => bothF f e && decide (e.1 = (s : Int))
def enteredF (f : Nat → Bool) (es : List E3) (s : Nat) : Bool := es.any fun e => bothF f e && decide (e.2.2 = (s : Int))
def passF (f : Nat → Bool) (es : List E3) (s : Nat) : Bool := enteredF f es s && leftF f es s
theorem leftF_snoc (f : Nat → Bool) (es : List E3) (e : E3) (s : Nat) : leftF f (es ++ [e]) s = (leftF f es s || (bothF f e && decide (e.1 = (s : Int)))) := by
  unfold leftF; rw [List.any_append]; simp
theorem enteredF_snoc (f : Nat → Bool) (es : List E3) (e : E3) (s : Nat) : enteredF f (es ++ [e]) s = (enteredF f es s || (bothF f e && decide (e.2.2 = (s : Int)))) := by
  unfold enteredF; rw [List.any_append]; simp
theorem take_snoc {α : Type} {l : List α} {i : Nat} {e : α} (h : l[i]? = some e) : l.take (i + 1) = l.take i ++ [e] := by rw [List.take_add_one, h]; rfl
/-- Two rows, the graph's variable, and what lay before. -/
structure TB (w : World) (n : Nat) (L S : Int) (v : Value) (p q : Nat) (f g : Nat → Bool) (W : World) : Prop where
  rp : BRow W p n f
  rq : BRow W q n g
  ne : p ≠ q
  lp : w.heap.size < p
  lq : w.heap.size < q
  box : BoxG W w.heap.size L S v
  b : Below w.heap.size w W
section
variable {w W W' : World} {n p q : Nat} {L S : Int} {v : Value} {f g : Nat → Bool}
theorem TB.keep (h : TB w n L S v p q f g W) (hb : Below W.heap.size W W') : TB w n L S v p q f g W' :=
  ⟨h.rp.keep hb, h.rq.keep hb, h.ne, h.lp, h.lq, h.box.keep hb, h.b.trans (hb.mono h.b.size)⟩
theorem boxG_other (h : BoxG W p L S v) {a : Addr} (ha : a.block ≠ p) (x : Value) : BoxG (W.setCell a x) p L S v := by
  unfold BoxG
  rw [World.cell?_setCell_far _ _ _ _ (by exact ha), World.cell?_setCell_far _ _ _ _ (by exact ha), World.cell?_setCell_far _ _ _ _ (by exact ha)]
  exact h
theorem TB.setP (h : TB w n L S v p q f g W) (i : Nat) (x : Bool) : TB w n L S v p q (fun j => if j = i then x else f j) g (W.setCell ⟨p, i, none⟩ (.bool x)) :=
  ⟨h.rp.set i x, h.rq.other (by exact Ne.symm h.ne) _, h.ne, h.lp, h.lq, boxG_other h.box (by have := h.lp; show p ≠ _; omega) _, h.b.setCell (by have := h.lp; show _ ≤ p; omega) _⟩
theorem TB.setQ (h : TB w n L S v p q f g W) (i : Nat) (x : Bool) : TB w n L S v p q f (fun j => if j = i then x else g j) (W.setCell ⟨q, i, none⟩ (.bool x)) :=
  ⟨h.rp.other (by exact h.ne) _, h.rq.set i x, h.ne, h.lp, h.lq, boxG_other h.box (by have := h.lq; show q ≠ _; omega) _, h.b.setCell (by have := h.lq; show _ ≤ q; omega) _⟩
theorem TB.far (h : TB w n L S v p q f g W) {a : Addr} (h1 : p ≠ a.block) (h2 : q ≠ a.block) (h3 : w.heap.size < a.block) (x : Value) : TB w n L S v p q f g (W.setCell a x) :=
  ⟨h.rp.other h1 _, h.rq.other h2 _, h.ne, h.lp, h.lq, boxG_other h.box (by omega) _, h.b.setCell (by omega) _⟩
theorem TB.congr {f' g' : Nat → Bool} (h : TB w n L S v p q f g W) (e1 : ∀ i, i < n → f i = f' i) (e2 : ∀ i, i < n → g i = g' i) : TB w n L S v p q f' g' W := { h with rp := h.rp.congr e1, rq := h.rq.congr e2 }
end
set_option maxRecDepth 100000 in
set_option maxHeartbeats 6400000 in
theorem passed_any (L : Int) (n : Nat) (es : List E3) (v vb : Value) (f : Nat → Bool) (w : World) (hrd : EdgesRd w v es) (hbr : BRd w vb n f) (hn : n ≤ 64) (hok : ∀ e ∈ es, okE L (n : Int) e = true) (hlen : es.length ≤ 1024) :
    Calls Tryd.prog 36 #[grV L (n : Int) v, vb] w fun e w' => ∃ r, e = .returned (.slice (some ⟨r, 0, none⟩) n n) ∧ BRow w' r n (passF f es) ∧ w.heap.size ≤ r ∧ Below w.heap.size w w' := by
  have hmx : Tryd.prog.follows .mixedOrders = true := by kernel_rfl
  have HMK := Lib.hid (fun W => make_bools n (by omega) W)
  have HRD := Lib.hid hrd
  have HBR := Lib.hid hbr
  have HOK := Lib.hid hok
  obtain ⟨a, c, rfl⟩ := hrd.form
  obtain ⟨bb, cb, rfl, -⟩ := hbr
  have hg := BoxG.new w L (n : Int) (.slice a es.length c) 24
  have hb0 := below1 w (.cells #[.int .i64 L, .int .i64 (n : Int), .slice a es.length c] 24)
  have hsz := World.size_alloc w (.cells #[.int .i64 L, .int .i64 (n : Int), .slice a es.length c] 24)
  clear hrd hok
  go_enter Tryd.func36, Tryd.ntmps36
  go_upto_region 1 with fail
  generalize w.alloc (.cells #[.int .i64 L, .int .i64 (n : Int), .slice a es.length c] 24) = W0 at *
  go_cut [5, 6] (fun s5 s6 wx => ∃ p q : Nat, s5 = .slice (some ⟨p, 0, none⟩) n n ∧ s6 = .slice (some ⟨q, 0, none⟩) n n ∧ TB w n L (n : Int) (.slice a es.length c) p q (fun _ => false) (fun _ => false) wx)
  case first =>
    obtain ⟨g1, g2, g3⟩ := id hg
    have hmk := HMK.out
    have gA : ∀ o, (W0.alloc o).cell? ⟨w.heap.size, 1, none⟩ = some (.int .i64 (n : Int)) := fun o => cell_keep g2 (below1 W0 o)
    have HSZ := Lib.hid hsz
    clear hsz
    have hW0 : w.heap.size + 1 = W0.heap.size := HSZ.out.symm
    have hW := Lib.hid hW0
    clear hW0
    have M1 := BRow.made W0 n
    have M2 := BRow.made (W0.alloc (.cells (madeCells #[.bool false] n) 4)) n
    rw [World.size_alloc] at M2
    have M1' := Lib.hid (M1.keep (below1 _ (.cells (madeCells #[.bool false] n) 4)))
    have M2' := Lib.hid M2
    have hG := Lib.hid ((hg.keep (below1 W0 (.cells (madeCells #[.bool false] n) 4))).keep (below1 _ (.cells (madeCells #[.bool false] n) 4)))
    have hB := Lib.hid ((hb0.alloc hb0.size (.cells (madeCells #[.bool false] n) 4)).alloc (by rw [World.size_alloc]; have := hb0.size; omega) (.cells (madeCells #[.bool false] n) 4))
    clear M1 M2
    go_region
    all_goals go_wp2_with fail
    all_goals go_meet
    all_goals first
      | exact ⟨_, _, rfl, rfl, ⟨M1'.out, M2'.out, by have := hW.out; omega, by have := hW.out; omega, by have := hW.out; omega, hG.out, hB.out.drew⟩⟩
      | exact ⟨_, _, rfl, rfl, ⟨M2'.out, M1'.out, by have := hW.out; omega, by have := hW.out; omega, by have := hW.out; omega, hG.out, hB.out.drew⟩⟩
  case rest =>
    obtain ⟨p, q, rfl, rfl, T0⟩ := hcut
    clear hg hb0 hsz
    obtain ⟨g1, g2, g3⟩ := id T0.box
    go_wp2_with fail
    have T0' := Lib.hid T0
    clear T0
    go_loopg [20] es.length (fun k s20 wx => ∃ i : Nat, i + k = es.length ∧ s20 = .int .i64 (i : Int) ∧ TB w n L (n : Int) (.slice a es.length c) p q (enteredF f (es.take i)) (leftF f (es.take i)) wx)
    case atStart => exact ⟨0, by omega, rfl, T0'.out.congr (fun _ _ => by rw [List.take_zero]; rfl) (fun _ _ => by rw [List.take_zero]; rfl)⟩
    case round =>
      clear T0' g1 g2 g3
      obtain ⟨i, hi, rfl, T⟩ := hrel
      rcases gk with _ | k
      · obtain rfl : i = es.length := by omega
        rw [List.take_length] at T
        obtain ⟨g1, g2, g3⟩ := id T.box
        have hmk := HMK.out
        have R2 := Lib.hid (BRow.made wr n)
        have T2 := Lib.hid (T.keep (below1 wr (.cells (madeCells #[.bool false] n) 4)))
        have hsz := Lib.hid (T.b.size)
        have hlq := Lib.hid (And.intro T.rp.lt T.rq.lt)
        obtain ⟨W2, hW2⟩ : ∃ W2, wr.alloc (.cells (madeCells #[.bool false] n) 4) = W2 := ⟨_, rfl⟩
        obtain ⟨R, hR⟩ : ∃ R, wr.heap.size = R := ⟨_, rfl⟩
        rw [hW2] at R2 T2
        rw [hR] at R2 hsz hlq
        have HW2 := Lib.hid hW2
        have HR := Lib.hid hR
        clear T hW2 hR
        go_wp2_with fail
        rw [HW2.out, HR.out]
        have hRp : p ≠ R := by have := hlq.out; omega
        have hRq : q ≠ R := by have := hlq.out; omega
        have hwR : w.heap.size < R := by have := hlq.out; have := T2.out.lp; omega
        go_loopg [50] n (fun k s50 wx => ∃ i : Nat, i + k = n ∧ s50 = .int .i64 (i : Int) ∧ TB w n L (n : Int) (.slice a es.length c) p q (enteredF f es) (leftF f es) wx ∧ BRow wx R n (fun j => if j < i then passF f es j else false))
        case atStart => exact ⟨0, by omega, rfl, T2.out, R2.out.congr (fun j _ => by rw [if_neg (by omega)])⟩
        case round =>
          clear T2 R2 HW2 HR g1 g2 g3
          obtain ⟨i, hi, rfl, T, Rw⟩ := hrel
          rcases gk with _ | k
          · obtain rfl : i = n := by omega
            have HRR := Lib.hid (Rw.congr (g := passF f es) (fun j hj => by rw [if_pos hj]))
            have hb := T.b
            clear T Rw
            go_wp2_with fail
            go_ret
            exact ⟨R, rfl, HRR.out, Nat.le_of_lt hwR, hb⟩
          · have cp := T.rp.cell (i := i) (by omega)
            have cq := T.rq.cell (i := i) (by omega)
            have cr := Rw.cell (i := i) (by omega)
            have fr := Rw.frozen i
            dsimp only at cr cp cq
            rw [if_neg (Nat.lt_irrefl i)] at cr
            have j1 : (i : Int) < (n : Int) := by omega
            have HP : passF f es i = (enteredF f es i && leftF f es i) := rfl
            have hset : ∀ x, x = passF f es i → BRow (wr.setCell ⟨R, i, none⟩ (.bool x)) R n (fun j => if j < i + 1 then passF f es j else false) := fun x hx => (Rw.set i x).congr (fun j _ => by
              by_cases e : j = i
              · subst e; rw [if_pos rfl, if_pos (by omega), hx]
              · rw [if_neg e]
                by_cases e2 : j < i
                · rw [if_pos e2, if_pos (by omega)]
                · rw [if_neg e2, if_neg (by omega)])
            have hT : ∀ x, TB w n L (n : Int) (.slice a es.length c) p q (enteredF f es) (leftF f es) (wr.setCell ⟨R, i, none⟩ (.bool x)) := fun x => T.far (a := ⟨R, i, none⟩) hRp hRq hwR _
            have HS := Lib.hid hset
            have HT := Lib.hid hT
            have HPP := Lib.hid HP
            obtain ⟨u1, hu1⟩ : ∃ u, enteredF f es i = u := ⟨_, rfl⟩
            obtain ⟨u2, hu2⟩ : ∃ u, leftF f es i = u := ⟨_, rfl⟩
            rw [hu1] at cp HPP
            rw [hu2] at cq HPP
            clear hset hT HP T Rw hu1 hu2
            cases u1 with
            | false =>
              go_wp2_with fail
              go_roundg k
              case measure => omega
              case rel => exact ⟨i + 1, by omega, by go_num, HT.out _, HS.out _ (by rw [HPP.out]; rfl)⟩
            | true =>
              cases u2 with
              | false =>
                go_wp2_with fail
                go_roundg k
                case measure => omega
                case rel => exact ⟨i + 1, by omega, by go_num, HT.out _, HS.out _ (by rw [HPP.out]; rfl)⟩
              | true =>
                go_wp2_with fail
                go_roundg k
                case measure => omega
                case rel => exact ⟨i + 1, by omega, by go_num, HT.out _, HS.out _ (by rw [HPP.out]; rfl)⟩
      · obtain ⟨e, he⟩ : ∃ e, es[i]? = some e := ⟨_, List.getElem?_eq_getElem (by omega)⟩
        have hek := HOK.out e (List.mem_of_getElem? he)
        obtain ⟨b, off, c', hv, k1, k2, k3⟩ := (HRD.out.keep T.b).at he
        injection hv with e1 e2 e3
        subst e1
        subst e3
        have HT := take_snoc he
        obtain ⟨x, y, z⟩ := e
        rw [okE_iff] at hek
        dsimp only at hek k1 k2 k3
        obtain ⟨hx0, hx1, -, -, hz0, hz1⟩ := hek
        obtain ⟨x, rfl⟩ : ∃ m : Nat, x = (m : Int) := ⟨x.toNat, by omega⟩
        obtain ⟨z, rfl⟩ : ∃ m : Nat, z = (m : Int) := ⟨z.toNat, by omega⟩
        obtain ⟨bb', cb', hv2, hcl⟩ := HBR.out.keep T.b
        injection hv2 with e1 e4 e5
        injection e1 with e1
        injection e1 with e1
        subst e1
        subst e5
        have cx := hcl x (by omega)
        have cz := hcl z (by omega)
        have hbo : bothF f ((x : Int), y, (z : Int)) = (f x && f z) := by unfold bothF; simp
        have T1 := T.keep (below1 wr (.cells #[.int .i64 (x : Int), .int .i64 y, .int .i64 (z : Int)] 40))
        have X1 := Box3.new wr (x : Int) y (z : Int) 40
        have cx1 := cell_keep cx (below1 wr (.cells #[.int .i64 (x : Int), .int .i64 y, .int .i64 (z : Int)] 40))
        have cz1 := cell_keep cz (below1 wr (.cells #[.int .i64 (x : Int), .int .i64 y, .int .i64 (z : Int)] 40))
        have j1 : (i : Int) < (es.length : Int) := by omega
        have j2 : (x : Int) < (n : Int) := by omega
        have j3 : (z : Int) < (n : Int) := by omega
        cases hfx : f x with
        | false =>
          have T2 := Lib.hid (show TB w n L (n : Int) (.slice (some ⟨b, off, none⟩) es.length c) p q (enteredF f (es.take (i + 1))) (leftF f (es.take (i + 1))) _ from
            T1.congr (fun s _ => by rw [HT, enteredF_snoc, hbo, hfx]; simp) (fun s _ => by rw [HT, leftF_snoc, hbo, hfx]; simp))
          rw [hfx] at cx cx1
          clear hcl hfx hbo T T1 HT e2 he hx0 hx1 hz0 hz1
          go_wp2_with fail
          go_roundg k
          case measure => omega
          case rel => exact ⟨i + 1, by omega, by go_num, T2.out⟩
        | true =>
          rw [hfx] at cx cx1
          cases hfz : f z with
          | false =>
            have T2 := Lib.hid (show TB w n L (n : Int) (.slice (some ⟨b, off, none⟩) es.length c) p q (enteredF f (es.take (i + 1))) (leftF f (es.take (i + 1))) _ from
              T1.congr (fun s _ => by rw [HT, enteredF_snoc, hbo, hfz]; simp) (fun s _ => by rw [HT, leftF_snoc, hbo, hfz]; simp))
            rw [hfz] at cz cz1
            clear hcl hfx hfz hbo T T1 HT e2 he hx0 hx1 hz0 hz1
            go_wp2_with fail
            go_roundg k
            case measure => omega
            case rel => exact ⟨i + 1, by omega, by go_num, T2.out⟩
          | true =>
            rw [hfz] at cz cz1
            have T2 := Lib.hid (((T1.setQ x true).setP z true).congr (f' := enteredF f (es.take (i + 1))) (g' := leftF f (es.take (i + 1)))
              (fun s _ => by
                rw [HT, enteredF_snoc, hbo, hfx, hfz]
                by_cases e : s = z
                · subst e; simp
                · rw [if_neg e]; simp; intro h; exact absurd h (by omega))
              (fun s _ => by
                rw [HT, leftF_snoc, hbo, hfx, hfz]
                by_cases e : s = x
                · subst e; simp
                · rw [if_neg e]; simp; intro h; exact absurd h (by omega)))
            have cp := T1.rp.cell (i := z) (by omega)
            have fp := T1.rp.frozen z
            have cq := T1.rq.cell (i := x) (by omega)
            have fq := T1.rq.frozen x
            have hpq := Lib.hid T1.ne
            have hqw := Lib.hid T.rq.lt
            clear hcl hfx hfz hbo T HT e2 he hx0 hx1 hz0 hz1
            go_upto_region 6 with fail
            obtain ⟨W1, hW1⟩ : ∃ W1, wr.alloc (.cells #[.int .i64 (x : Int), .int .i64 y, .int .i64 (z : Int)] 40) = W1 := ⟨_, rfl⟩
            obtain ⟨P0, hP0⟩ : ∃ P0, wr.heap.size = P0 := ⟨_, rfl⟩
            rw [hP0] at X1 hqw
            rw [hW1] at T1 X1 cx1 cz1 T2 cp fp cq fq ⊢
            rw [hP0]
            obtain ⟨x1, x2, x3, -, -, -⟩ := id X1
            have c5 := T1.box
            clear hW1 hP0 k1 k2 k3 cx cz X1 T1
            generalize enteredF f (es.take i) z = u1 at cp
            generalize leftF f (es.take i) x = u2 at cq
            have cpq : ∀ v, (W1.setCell ⟨q, x, none⟩ v).cell? ⟨p, z, none⟩ = some (.bool u1) := fun v => by
              rw [World.cell?_setCell_far _ _ _ _ (by exact Ne.symm hpq.out)]; exact cp
            have x3' : ∀ v, (W1.setCell ⟨q, x, none⟩ v).cell? ⟨P0, 2, none⟩ = some (.int .i64 (z : Int)) := fun v => by
              rw [World.cell?_setCell_far _ _ _ _ (by have := hqw.out; show q ≠ P0; omega)]; exact x3
            go_region
            all_goals go_wp2_with fail
            all_goals go_roundg k
            all_goals (first | (case measure => omega) | (case rel => exact ⟨i + 1, by omega, by go_num, T2.out.keep (Below.refl _ _).drew⟩))
end Go.Proofs.YtoekemfgmdbnbaaDoor
