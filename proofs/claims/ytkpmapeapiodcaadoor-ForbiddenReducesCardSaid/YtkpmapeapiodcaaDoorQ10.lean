/- What graph.members and graph.passed return. Conditions: at most 64 states, edges between states. What graph.passed returns. Conditions: at most 64 states, edges between states. What slices.Equal of rows of truth values and slices.Repeat of one that is true return. Condition: at most 64. -/
import Derived.Test.YtkpmapeapiodcaaDoorQ09
import Derived.Deep.DeepCutAuto
import Derived.Test.YtkpmapeapiodcaaDoorQ03
import Derived.Lib.SlBuf
import Derived.BigCall
import Derived.BigGuard
import Derived.Deep.Draws

namespace Go.Proofs.YtkpmapeapiodcaaDoor
open Go.RowKit
set_option linter.unusedSimpArgs false
set_option linter.unusedVariables false

def BRd (W : World) (v : Value) (n : Nat) (f : Nat → Bool) : Prop := ∃ b c, v = .slice (some ⟨b, 0, none⟩) n c ∧ ∀ i, i < n → W.cell? ⟨b, i, none⟩ = some (.bool (f i))
theorem BRd.keep {W W' : World} {v : Value} {n : Nat} {f : Nat → Bool} (h : BRd W v n f) (hb : Below W.heap.size W W') : BRd W' v n f := by
  obtain ⟨b, c, rfl, h1⟩ := h
  exact ⟨b, c, rfl, fun i hi => cell_keep (h1 i hi) hb⟩
def BRow (W : World) (b n : Nat) (f : Nat → Bool) : Prop := W.rowIs b 4 n (fun i => .bool (f i))
theorem BRow.keep {W W' : World} {b n : Nat} {f : Nat → Bool} (h : BRow W b n f) (hb : Below W.heap.size W W') : BRow W' b n f := World.rowIs.of_block h (hb.block b (World.rowIs.lt h))
theorem BRow.rd {W : World} {b n : Nat} {f : Nat → Bool} (h : BRow W b n f) (c : Nat) : BRd W (.slice (some ⟨b, 0, none⟩) n c) n f := ⟨b, c, rfl, fun i hi => World.rowIs.cell h hi⟩
theorem BRow.made (w : World) (n : Nat) : BRow (w.alloc (.cells (madeCells #[.bool false] n) 4)) w.heap.size n (fun _ => false) := World.rowIs_made w _ n _
theorem BRow.set {W : World} {b n : Nat} {f : Nat → Bool} (h : BRow W b n f) (i : Nat) (x : Bool) : BRow (W.setCell ⟨b, i, none⟩ (.bool x)) b n (fun j => if j = i then x else f j) :=
  World.rowIs.congr (World.rowIs.set h i (.bool x)) (fun j _ => by dsimp only; split <;> rfl)
theorem BRow.other {W : World} {b n : Nat} {f : Nat → Bool} (h : BRow W b n f) {a : Addr} (ha : b ≠ a.block) (v : Value) : BRow (W.setCell a v) b n f := World.rowIs.setOther h ha v
theorem BRow.congr {W : World} {b n : Nat} {f g : Nat → Bool} (h : BRow W b n f) (e : ∀ i, i < n → f i = g i) : BRow W b n g := World.rowIs.congr h (fun i hi => by rw [e i hi])
theorem Tryd.infoBool : (Tryd.prog.info? 4).map (fun i => (i.zero, i.size, i.bytes)) = some (some (.bool false), 1, 1) := by kernel_rfl
theorem make_bools (n : Nat) (hn : n ≤ 100000) (W : World) : (Instr.makeSlice 104 (.int .i64 (n : Int)) (.int .i64 (n : Int))).run Tryd.prog W = .ok (.slice (some ⟨W.heap.size, 0, none⟩) n n) (W.alloc (.cells (madeCells #[.bool false] n) 4)) :=
  run_make_row' _ _ _ 1 Tryd.underlying104 Tryd.infoBool rfl _ _ n (by omega) (by omega) W
theorem make_ints (n : Nat) (hn : n ≤ 100000) (W : World) : (Instr.makeSlice 62 (.int .i64 (n : Int)) (.int .i64 (n : Int))).run Tryd.prog W = .ok (.slice (some ⟨W.heap.size, 0, none⟩) n n) (W.alloc (.cells (madeCells #[.int .i64 0] n) 3)) :=
  run_make_row' _ _ _ 8 Tryd.underlying62 Tryd.infoI64 rfl _ _ n (by omega) (by omega) W
def mems (n : Nat) (f : Nat → Bool) : List Int := ((List.range n).filter f).map fun (i : Nat) => (i : Int)
theorem mems_succ (n : Nat) (f : Nat → Bool) : mems (n + 1) f = mems n f ++ (if f n = true then [(n : Int)] else []) := by
  unfold mems
  rw [List.range_succ, List.filter_append, List.map_append]
  congr 1
  cases h : f n <;> simp [List.filter_cons, h]
theorem mems_len (n : Nat) (f : Nat → Bool) : (mems n f).length ≤ n := by
  unfold mems
  rw [List.length_map]
  exact Nat.le_trans (List.length_filter_le _ _) (by simp)
def NewInts (w : World) (l : List Int) (e : Ending) (w' : World) : Prop := ∃ v, e = .returned v ∧ IntsAt w' w.heap.size v l ∧ Below w.heap.size w w'
set_option maxRecDepth 100000 in
set_option maxHeartbeats 1600000 in
theorem members_any (n : Nat) (f : Nat → Bool) (v : Value) (w : World) (hrd : BRd w v n f) (hn : n ≤ 64) :
    Calls Tryd.prog 90 #[v] w (NewInts w (mems n f)) := by
  obtain ⟨i0, hi, hz0, hz1, hz2⟩ := info_parts Tryd.infoI64
  obtain ⟨b, c, rfl, hc⟩ := hrd
  have HC := Lib.hid hc
  clear hc
  go_enter Tryd.func90, Tryd.ntmps90
  go_wp2_with fail
  go_loopg [3, 8] n (fun q s3 s8 wx => ∃ i : Nat, i + q = n ∧ s8 = .int .i64 (i : Int) ∧ IntsAt wx w.heap.size s3 (mems i f) ∧ Below w.heap.size w wx)
  case atStart => exact ⟨0, by omega, rfl, ints_nil _ _, Below.refl _ _⟩
  case round =>
    obtain ⟨i, hin, rfl, hown, hb⟩ := hrel
    obtain ⟨a3, c3, rfl⟩ := hown.slice
    rcases gk with _ | q
    · obtain rfl : i = n := by omega
      have HI := Lib.hid hown
      clear hown
      obtain ⟨m, hm⟩ : ∃ m, (mems i f).length = m := ⟨_, rfl⟩
      rw [hm] at HI ⊢
      clear hm
      go_wp2_with fail
      go_ret
      exact ⟨_, rfl, HI.out, hb⟩
    · have hcell := (hb.cell (p := ⟨b, i, none⟩) (World.block_lt_of_cell? _ _ (HC.out i (by omega)))).trans (HC.out i (by omega))
      have hml := mems_len i f
      have hsn := mems_succ i f
      have j1 : (i : Int) < (n : Int) := by omega
      cases hfi : f i with
      | true =>
        rw [hfi] at hcell
        have HS := Lib.hid (show mems (i + 1) f = mems i f ++ [(i : Int)] by rw [hsn, hfi]; rfl)
        have hlt := hown.lt
        have hown0 := hown
        unfold IntsAt at hown0
        obtain ⟨m, hm⟩ : ∃ m, (mems i f).length = m := ⟨_, rfl⟩
        rw [hm] at hown0 hml hlt ⊢
        have HM := Lib.hid hm
        clear hfi hsn hown hm
        go_wp2_with (first | (at_builtin; refine wpList_append_own_at _ rfl _ _ 62 rfl w.heap.size 3 i0 (.int .i64 0) 1 8 Tryd.underlying62 hi hz0 hz1 hz2 rfl (by decide) _ _ _ rfl (hown0.alloc _) ⟨wr.heap.size, 0, none⟩ 1 1 [.int .i64 (i : Int)] rfl rfl ?c1 ?c2 ?c3 ?c4 ?c5 ?_))
        case c1 => exact World.news_of_block (cs := #[.int .i64 (i : Int)]) (t := 3) (fr := (0, 0)) (heap_alloc_new wr _)
        case c2 => intro u hu; simp at hu; subst hu; rfl
        case c3 => unfold maxLen; omega
        case c4 => omega
        case c5 => rw [World.size_alloc]; have := hb.size; omega
        intro v' W2 hown2 hgrow _ hv'
        have hb2 : Below w.heap.size w W2 := (hb.alloc hb.size _).grown hgrow (by rw [World.size_alloc]; have := hb.size; omega) (fun k hk => (hlt k hk).1)
        rw [← intz_snoc, ← HS.out] at hown2
        have HI2 := Lib.hid (show IntsAt W2 w.heap.size v' (mems (i + 1) f) by unfold IntsAt; rw [HS.out, List.length_append, HM.out]; rw [HS.out] at hown2; exact hown2)
        obtain ⟨a', c', rfl⟩ := own_slice hown2
        clear hown0 hown2 hgrow hlt hv' hb
        go_wp2_with fail
        go_roundg q
        case measure => omega
        case rel => exact ⟨i + 1, by omega, by go_num, HI2.out, hb2⟩
      | false =>
        rw [hfi] at hcell
        have HI2 := Lib.hid (show IntsAt wr w.heap.size (.slice a3 (mems i f).length c3) (mems (i + 1) f) by rw [hsn, hfi]; simpa using hown)
        obtain ⟨m, hm⟩ : ∃ m, (mems i f).length = m := ⟨_, rfl⟩
        rw [hm] at HI2 ⊢
        clear hfi hsn hown hm
        go_wp2_with fail
        go_roundg q
        case measure => omega
        case rel => exact ⟨i + 1, by omega, by go_num, HI2.out, hb⟩
end Go.Proofs.YtkpmapeapiodcaaDoor

namespace Go.Proofs.YtkpmapeapiodcaaDoor
open Go.RowKit
set_option linter.unusedSimpArgs false
set_option linter.unusedVariables false

def bothF (f : Nat → Bool) (e : E3) : Bool := f e.1.toNat && f e.2.2.toNat
def leftF (f : Nat → Bool) (es : List E3) (s : Nat) : Bool := es.any fun e => bothF f e && decide (e.1 = (s : Int))
def enteredF (f : Nat → Bool) (es : List E3) (s : Nat) : Bool := es.any fun e => bothF f e && decide (e.2.2 = (s : Int))
def passF (f : Nat → Bool) (es : List E3) (s : Nat) : Bool := enteredF f es s && leftF f es s
theorem leftF_snoc (f : Nat → Bool) (es : List E3) (e : E3) (s : Nat) : leftF f (es ++ [e]) s = (leftF f es s || (bothF f e && decide (e.1 = (s : Int)))) := by
  unfold leftF; rw [List.any_append]; simp
theorem enteredF_snoc (f : Nat → Bool) (es : List E3) (e : E3) (s : Nat) : enteredF f (es ++ [e]) s = (enteredF f es s || (bothF f e && decide (e.2.2 = (s : Int)))) := by
  unfold enteredF; rw [List.any_append]; simp
theorem take_snoc {α : Type} {l : List α} {i : Nat} {e : α} (h : l[i]? = some e) : l.take (i + 1) = l.take i ++ [e] := by rw [List.take_add_one, h]; rfl
structure TB (w : World) (n : Nat) (L S : Int) (v : Value) (p q : Nat) (f g : Nat → Bool) (W : World) : Prop where
  rp : BRow W p n f
  rq : BRow W q n g
  ne : p ≠ q
  lp : w.heap.size < p
  lq : w.heap.size < q
  box : BoxG W w.heap.size L S v
  b : Below w.heap.size w W
section
variable {w W W' : World} {n p q : Nat} {L S : Int} {v : Value} {f g : Nat → Bool}
theorem TB.keep (h : TB w n L S v p q f g W) (hb : Below W.heap.size W W') : TB w n L S v p q f g W' :=
  ⟨h.rp.keep hb, h.rq.keep hb, h.ne, h.lp, h.lq, h.box.keep hb, h.b.trans (hb.mono h.b.size)⟩
theorem boxG_other (h : BoxG W p L S v) {a : Addr} (ha : a.block ≠ p) (x : Value) : BoxG (W.setCell a x) p L S v := by
  unfold BoxG
  rw [World.cell?_setCell_far _ _ _ _ (by exact ha), World.cell?_setCell_far _ _ _ _ (by exact ha), World.cell?_setCell_far _ _ _ _ (by exact ha)]
  exact h
theorem TB.setP (h : TB w n L S v p q f g W) (i : Nat) (x : Bool) : TB w n L S v p q (fun j => if j = i then x else f j) g (W.setCell ⟨p, i, none⟩ (.bool x)) :=
  ⟨h.rp.set i x, h.rq.other (by exact Ne.symm h.ne) _, h.ne, h.lp, h.lq, boxG_other h.box (by have := h.lp; show p ≠ _; omega) _, h.b.setCell (by have := h.lp; show _ ≤ p; omega) _⟩
theorem TB.setQ (h : TB w n L S v p q f g W) (i : Nat) (x : Bool) : TB w n L S v p q f (fun j => if j = i then x else g j) (W.setCell ⟨q, i, none⟩ (.bool x)) :=
  ⟨h.rp.other (by exact h.ne) _, h.rq.set i x, h.ne, h.lp, h.lq, boxG_other h.box (by have := h.lq; show q ≠ _; omega) _, h.b.setCell (by have := h.lq; show _ ≤ q; omega) _⟩
theorem TB.far (h : TB w n L S v p q f g W) {a : Addr} (h1 : p ≠ a.block) (h2 : q ≠ a.block) (h3 : w.heap.size < a.block) (x : Value) : TB w n L S v p q f g (W.setCell a x) :=
  ⟨h.rp.other h1 _, h.rq.other h2 _, h.ne, h.lp, h.lq, boxG_other h.box (by omega) _, h.b.setCell (by omega) _⟩
theorem TB.congr {f' g' : Nat → Bool} (h : TB w n L S v p q f g W) (e1 : ∀ i, i < n → f i = f' i) (e2 : ∀ i, i < n → g i = g' i) : TB w n L S v p q f' g' W := { h with rp := h.rp.congr e1, rq := h.rq.congr e2 }
end
set_option maxRecDepth 100000 in
set_option maxHeartbeats 6400000 in
theorem passed_any (L : Int) (n : Nat) (es : List E3) (v vb : Value) (f : Nat → Bool) (w : World) (hrd : EdgesRd w v es) (hbr : BRd w vb n f) (hn : n ≤ 64) (hok : ∀ e ∈ es, okE L (n : Int) e = true) (hlen : es.length ≤ 1024) :
    Calls Tryd.prog 88 #[grV L (n : Int) v, vb] w fun e w' => ∃ r, e = .returned (.slice (some ⟨r, 0, none⟩) n n) ∧ BRow w' r n (passF f es) ∧ w.heap.size ≤ r ∧ Below w.heap.size w w' := by
  have hmx : Tryd.prog.follows .mixedOrders = true := by kernel_rfl
  have HMK := Lib.hid (fun W => make_bools n (by omega) W)
  have HRD := Lib.hid hrd
  have HBR := Lib.hid hbr
  have HOK := Lib.hid hok
  obtain ⟨a, c, rfl⟩ := hrd.form
  obtain ⟨bb, cb, rfl, -⟩ := hbr
  have hg := BoxG.new w L (n : Int) (.slice a es.length c) 41
  have hb0 := below1 w (.cells #[.int .i64 L, .int .i64 (n : Int), .slice a es.length c] 41)
  have hsz := World.size_alloc w (.cells #[.int .i64 L, .int .i64 (n : Int), .slice a es.length c] 41)
  clear hrd hok
  go_enter Tryd.func88, Tryd.ntmps88
  go_upto_region 1 with fail
  generalize w.alloc (.cells #[.int .i64 L, .int .i64 (n : Int), .slice a es.length c] 41) = W0 at *
  go_cut [5, 6] (fun s5 s6 wx => ∃ p q : Nat, s5 = .slice (some ⟨p, 0, none⟩) n n ∧ s6 = .slice (some ⟨q, 0, none⟩) n n ∧ TB w n L (n : Int) (.slice a es.length c) p q (fun _ => false) (fun _ => false) wx)
  case first =>
    obtain ⟨g1, g2, g3⟩ := id hg
    have hmk := HMK.out
    have gA : ∀ o, (W0.alloc o).cell? ⟨w.heap.size, 1, none⟩ = some (.int .i64 (n : Int)) := fun o => cell_keep g2 (below1 W0 o)
    have HSZ := Lib.hid hsz
    clear hsz
    have hW0 : w.heap.size + 1 = W0.heap.size := HSZ.out.symm
    have hW := Lib.hid hW0
    clear hW0
    have M1 := BRow.made W0 n
    have M2 := BRow.made (W0.alloc (.cells (madeCells #[.bool false] n) 4)) n
    rw [World.size_alloc] at M2
    have M1' := Lib.hid (M1.keep (below1 _ (.cells (madeCells #[.bool false] n) 4)))
    have M2' := Lib.hid M2
    have hG := Lib.hid ((hg.keep (below1 W0 (.cells (madeCells #[.bool false] n) 4))).keep (below1 _ (.cells (madeCells #[.bool false] n) 4)))
    have hB := Lib.hid ((hb0.alloc hb0.size (.cells (madeCells #[.bool false] n) 4)).alloc (by rw [World.size_alloc]; have := hb0.size; omega) (.cells (madeCells #[.bool false] n) 4))
    clear M1 M2
    go_region
    all_goals go_wp2_with fail
    all_goals go_meet
    all_goals first
      | exact ⟨_, _, rfl, rfl, ⟨M1'.out, M2'.out, by have := hW.out; omega, by have := hW.out; omega, by have := hW.out; omega, hG.out, hB.out.drew⟩⟩
      | exact ⟨_, _, rfl, rfl, ⟨M2'.out, M1'.out, by have := hW.out; omega, by have := hW.out; omega, by have := hW.out; omega, hG.out, hB.out.drew⟩⟩
  case rest =>
    obtain ⟨p, q, rfl, rfl, T0⟩ := hcut
    clear hg hb0 hsz
    obtain ⟨g1, g2, g3⟩ := id T0.box
    go_wp2_with fail
    have T0' := Lib.hid T0
    clear T0
    go_loopg [20] es.length (fun k s20 wx => ∃ i : Nat, i + k = es.length ∧ s20 = .int .i64 (i : Int) ∧ TB w n L (n : Int) (.slice a es.length c) p q (enteredF f (es.take i)) (leftF f (es.take i)) wx)
    case atStart => exact ⟨0, by omega, rfl, T0'.out.congr (fun _ _ => by rw [List.take_zero]; rfl) (fun _ _ => by rw [List.take_zero]; rfl)⟩
    case round =>
      clear T0' g1 g2 g3
      obtain ⟨i, hi, rfl, T⟩ := hrel
      rcases gk with _ | k
      · obtain rfl : i = es.length := by omega
        rw [List.take_length] at T
        obtain ⟨g1, g2, g3⟩ := id T.box
        have hmk := HMK.out
        have R2 := Lib.hid (BRow.made wr n)
        have T2 := Lib.hid (T.keep (below1 wr (.cells (madeCells #[.bool false] n) 4)))
        have hsz := Lib.hid (T.b.size)
        have hlq := Lib.hid (And.intro T.rp.lt T.rq.lt)
        obtain ⟨W2, hW2⟩ : ∃ W2, wr.alloc (.cells (madeCells #[.bool false] n) 4) = W2 := ⟨_, rfl⟩
        obtain ⟨R, hR⟩ : ∃ R, wr.heap.size = R := ⟨_, rfl⟩
        rw [hW2] at R2 T2
        rw [hR] at R2 hsz hlq
        have HW2 := Lib.hid hW2
        have HR := Lib.hid hR
        clear T hW2 hR
        go_wp2_with fail
        rw [HW2.out, HR.out]
        have hRp : p ≠ R := by have := hlq.out; omega
        have hRq : q ≠ R := by have := hlq.out; omega
        have hwR : w.heap.size < R := by have := hlq.out; have := T2.out.lp; omega
        go_loopg [50] n (fun k s50 wx => ∃ i : Nat, i + k = n ∧ s50 = .int .i64 (i : Int) ∧ TB w n L (n : Int) (.slice a es.length c) p q (enteredF f es) (leftF f es) wx ∧ BRow wx R n (fun j => if j < i then passF f es j else false))
        case atStart => exact ⟨0, by omega, rfl, T2.out, R2.out.congr (fun j _ => by rw [if_neg (by omega)])⟩
        case round =>
          clear T2 R2 HW2 HR g1 g2 g3
          obtain ⟨i, hi, rfl, T, Rw⟩ := hrel
          rcases gk with _ | k
          · obtain rfl : i = n := by omega
            have HRR := Lib.hid (Rw.congr (g := passF f es) (fun j hj => by rw [if_pos hj]))
            have hb := T.b
            clear T Rw
            go_wp2_with fail
            go_ret
            exact ⟨R, rfl, HRR.out, Nat.le_of_lt hwR, hb⟩
          · have cp := T.rp.cell (i := i) (by omega)
            have cq := T.rq.cell (i := i) (by omega)
            have cr := Rw.cell (i := i) (by omega)
            have fr := Rw.frozen i
            dsimp only at cr cp cq
            rw [if_neg (Nat.lt_irrefl i)] at cr
            have j1 : (i : Int) < (n : Int) := by omega
            have HP : passF f es i = (enteredF f es i && leftF f es i) := rfl
            have hset : ∀ x, x = passF f es i → BRow (wr.setCell ⟨R, i, none⟩ (.bool x)) R n (fun j => if j < i + 1 then passF f es j else false) := fun x hx => (Rw.set i x).congr (fun j _ => by
              by_cases e : j = i
              · subst e; rw [if_pos rfl, if_pos (by omega), hx]
              · rw [if_neg e]
                by_cases e2 : j < i
                · rw [if_pos e2, if_pos (by omega)]
                · rw [if_neg e2, if_neg (by omega)])
            have hT : ∀ x, TB w n L (n : Int) (.slice a es.length c) p q (enteredF f es) (leftF f es) (wr.setCell ⟨R, i, none⟩ (.bool x)) := fun x => T.far (a := ⟨R, i, none⟩) hRp hRq hwR _
            have HS := Lib.hid hset
            have HT := Lib.hid hT
            have HPP := Lib.hid HP
            obtain ⟨u1, hu1⟩ : ∃ u, enteredF f es i = u := ⟨_, rfl⟩
            obtain ⟨u2, hu2⟩ : ∃ u, leftF f es i = u := ⟨_, rfl⟩
            rw [hu1] at cp HPP
            rw [hu2] at cq HPP
            clear hset hT HP T Rw hu1 hu2
            cases u1 with
            | false =>
              go_wp2_with fail
              go_roundg k
              case measure => omega
              case rel => exact ⟨i + 1, by omega, by go_num, HT.out _, HS.out _ (by rw [HPP.out]; rfl)⟩
            | true =>
              cases u2 with
              | false =>
                go_wp2_with fail
                go_roundg k
                case measure => omega
                case rel => exact ⟨i + 1, by omega, by go_num, HT.out _, HS.out _ (by rw [HPP.out]; rfl)⟩
              | true =>
                go_wp2_with fail
                go_roundg k
                case measure => omega
                case rel => exact ⟨i + 1, by omega, by go_num, HT.out _, HS.out _ (by rw [HPP.out]; rfl)⟩
      · obtain ⟨e, he⟩ : ∃ e, es[i]? = some e := ⟨_, List.getElem?_eq_getElem (by omega)⟩
        have hek := HOK.out e (List.mem_of_getElem? he)
        obtain ⟨b, off, c', hv, k1, k2, k3⟩ := (HRD.out.keep T.b).at he
        injection hv with e1 e2 e3
        subst e1
        subst e3
        have HT := take_snoc he
        obtain ⟨x, y, z⟩ := e
        rw [okE_iff] at hek
        dsimp only at hek k1 k2 k3
        obtain ⟨hx0, hx1, -, -, hz0, hz1⟩ := hek
        obtain ⟨x, rfl⟩ : ∃ m : Nat, x = (m : Int) := ⟨x.toNat, by omega⟩
        obtain ⟨z, rfl⟩ : ∃ m : Nat, z = (m : Int) := ⟨z.toNat, by omega⟩
        obtain ⟨bb', cb', hv2, hcl⟩ := HBR.out.keep T.b
        injection hv2 with e1 e4 e5
        injection e1 with e1
        injection e1 with e1
        subst e1
        subst e5
        have cx := hcl x (by omega)
        have cz := hcl z (by omega)
        have hbo : bothF f ((x : Int), y, (z : Int)) = (f x && f z) := by unfold bothF; simp
        have T1 := T.keep (below1 wr (.cells #[.int .i64 (x : Int), .int .i64 y, .int .i64 (z : Int)] 45))
        have X1 := Box3.new wr (x : Int) y (z : Int) 45
        have cx1 := cell_keep cx (below1 wr (.cells #[.int .i64 (x : Int), .int .i64 y, .int .i64 (z : Int)] 45))
        have cz1 := cell_keep cz (below1 wr (.cells #[.int .i64 (x : Int), .int .i64 y, .int .i64 (z : Int)] 45))
        have j1 : (i : Int) < (es.length : Int) := by omega
        have j2 : (x : Int) < (n : Int) := by omega
        have j3 : (z : Int) < (n : Int) := by omega
        cases hfx : f x with
        | false =>
          have T2 := Lib.hid (show TB w n L (n : Int) (.slice (some ⟨b, off, none⟩) es.length c) p q (enteredF f (es.take (i + 1))) (leftF f (es.take (i + 1))) _ from
            T1.congr (fun s _ => by rw [HT, enteredF_snoc, hbo, hfx]; simp) (fun s _ => by rw [HT, leftF_snoc, hbo, hfx]; simp))
          rw [hfx] at cx cx1
          clear hcl hfx hbo T T1 HT e2 he hx0 hx1 hz0 hz1
          go_wp2_with fail
          go_roundg k
          case measure => omega
          case rel => exact ⟨i + 1, by omega, by go_num, T2.out⟩
        | true =>
          rw [hfx] at cx cx1
          cases hfz : f z with
          | false =>
            have T2 := Lib.hid (show TB w n L (n : Int) (.slice (some ⟨b, off, none⟩) es.length c) p q (enteredF f (es.take (i + 1))) (leftF f (es.take (i + 1))) _ from
              T1.congr (fun s _ => by rw [HT, enteredF_snoc, hbo, hfz]; simp) (fun s _ => by rw [HT, leftF_snoc, hbo, hfz]; simp))
            rw [hfz] at cz cz1
            clear hcl hfx hfz hbo T T1 HT e2 he hx0 hx1 hz0 hz1
            go_wp2_with fail
            go_roundg k
            case measure => omega
            case rel => exact ⟨i + 1, by omega, by go_num, T2.out⟩
          | true =>
            rw [hfz] at cz cz1
            have T2 := Lib.hid (((T1.setQ x true).setP z true).congr (f' := enteredF f (es.take (i + 1))) (g' := leftF f (es.take (i + 1)))
              (fun s _ => by
                rw [HT, enteredF_snoc, hbo, hfx, hfz]
                by_cases e : s = z
                · subst e; simp
                · rw [if_neg e]; simp; intro h; exact absurd h (by omega))
              (fun s _ => by
                rw [HT, leftF_snoc, hbo, hfx, hfz]
                by_cases e : s = x
                · subst e; simp
                · rw [if_neg e]; simp; intro h; exact absurd h (by omega)))
            have cp := T1.rp.cell (i := z) (by omega)
            have fp := T1.rp.frozen z
            have cq := T1.rq.cell (i := x) (by omega)
            have fq := T1.rq.frozen x
            have hpq := Lib.hid T1.ne
            have hqw := Lib.hid T.rq.lt
            clear hcl hfx hfz hbo T HT e2 he hx0 hx1 hz0 hz1
            go_upto_region 6 with fail
            obtain ⟨W1, hW1⟩ : ∃ W1, wr.alloc (.cells #[.int .i64 (x : Int), .int .i64 y, .int .i64 (z : Int)] 45) = W1 := ⟨_, rfl⟩
            obtain ⟨P0, hP0⟩ : ∃ P0, wr.heap.size = P0 := ⟨_, rfl⟩
            rw [hP0] at X1 hqw
            rw [hW1] at T1 X1 cx1 cz1 T2 cp fp cq fq ⊢
            rw [hP0]
            obtain ⟨x1, x2, x3, -, -, -⟩ := id X1
            have c5 := T1.box
            clear hW1 hP0 k1 k2 k3 cx cz X1 T1
            generalize enteredF f (es.take i) z = u1 at cp
            generalize leftF f (es.take i) x = u2 at cq
            have cpq : ∀ v, (W1.setCell ⟨q, x, none⟩ v).cell? ⟨p, z, none⟩ = some (.bool u1) := fun v => by
              rw [World.cell?_setCell_far _ _ _ _ (by exact Ne.symm hpq.out)]; exact cp
            have x3' : ∀ v, (W1.setCell ⟨q, x, none⟩ v).cell? ⟨P0, 2, none⟩ = some (.int .i64 (z : Int)) := fun v => by
              rw [World.cell?_setCell_far _ _ _ _ (by have := hqw.out; show q ≠ P0; omega)]; exact x3
            go_region
            all_goals go_wp2_with fail
            all_goals go_roundg k
            all_goals (first | (case measure => omega) | (case rel => exact ⟨i + 1, by omega, by go_num, T2.out.keep (Below.refl _ _).drew⟩))
end Go.Proofs.YtkpmapeapiodcaaDoor

namespace Go.Proofs.YtkpmapeapiodcaaDoor
open Go.RowKit
set_option linter.unusedSimpArgs false
set_option linter.unusedVariables false

def sameF (n : Nat) (f g : Nat → Bool) : Bool := (List.range n).all fun i => f i == g i
theorem sameF_true {n : Nat} {f g : Nat → Bool} : sameF n f g = true ↔ ∀ i, i < n → f i = g i := by
  unfold sameF
  rw [List.all_eq_true]
  constructor
  · intro h i hi; simpa using h i (List.mem_range.2 hi)
  · intro h i hi; simpa using h i (List.mem_range.1 hi)
theorem sameF_no {n i : Nat} {f g : Nat → Bool} (hi : i < n) (h : f i ≠ g i) : sameF n f g = false := by
  cases e : sameF n f g with
  | false => rfl
  | true => exact absurd (sameF_true.1 e i hi) h
set_option maxRecDepth 100000 in
set_option maxHeartbeats 3200000 in
theorem equalB_any (n : Nat) (f g : Nat → Bool) (v1 v2 : Value) (w : World) (h1 : BRd w v1 n f) (h2 : BRd w v2 n g) (hn : n ≤ 64) :
    Calls Tryd.prog 89 #[v1, v2] w fun e w' => e = .returned (.bool (sameF n f g)) ∧ Below w.heap.size w w' := by
  obtain ⟨b1, c1, rfl, k1⟩ := h1
  obtain ⟨b2, c2, rfl, k2⟩ := h2
  have H1 := Lib.hid k1
  have H2 := Lib.hid k2
  have hmx : Tryd.prog.follows .mixedOrders = true := by kernel_rfl
  clear k1 k2
  go_enter Tryd.func89, Tryd.ntmps89
  go_wp2_with fail
  go_loopg [13] n (fun k s13 wx => ∃ i : Nat, i + k = n ∧ s13 = .int .i64 (i : Int) ∧ Hid (∀ j, j < i → f j = g j) ∧ Below w.heap.size w wx)
  case atStart => exact ⟨0, by omega, rfl, Lib.hid (fun j hj => absurd hj (by omega)), Below.refl _ _⟩
  case round =>
    obtain ⟨i, hi, rfl, HI, hb⟩ := hrel
    rcases gk with _ | k
    · obtain rfl : i = n := by omega
      have HE := Lib.hid (sameF_true.2 HI.out)
      clear HI
      go_wp2_with fail
      go_ret
      exact ⟨by rw [HE.out]; rfl, hb⟩
    · have ca := cell_keep (H1.out i (by omega)) hb
      have cb := cell_keep (H2.out i (by omega)) hb
      have j1 : (i : Int) < (n : Int) := by omega
      by_cases h : f i = g i
      · have HI2 := Lib.hid (show ∀ j, j < i + 1 → f j = g j from fun j hj => by
          rcases (show j < i ∨ j = i by omega) with h1 | rfl
          · exact HI.out j h1
          · exact h)
        rw [h] at ca
        clear HI h
        generalize g i = x at ca cb
        cases x with
        | true =>
          go_wp2_with fail
          go_quiet (fail)
          go_wp2_with fail
          go_roundg k
          case measure => omega
          case rel => exact ⟨i + 1, by omega, by go_num, HI2, below_drewM hb _⟩
        | false =>
          go_wp2_with fail
          go_quiet (fail)
          go_wp2_with fail
          go_roundg k
          case measure => omega
          case rel => exact ⟨i + 1, by omega, by go_num, HI2, below_drewM hb _⟩
      · have HE := Lib.hid (sameF_no (show i < n by omega) h)
        clear HI
        cases hf : f i with
        | true =>
          have hg : g i = false := by cases e : g i with
            | true => exact absurd (hf.trans e.symm) h
            | false => rfl
          rw [hf] at ca
          rw [hg] at cb
          clear h hf hg
          go_wp2_with fail
          go_quiet (fail)
          go_wp2_with fail
          go_ret
          exact ⟨by rw [HE.out]; rfl, below_drewM hb _⟩
        | false =>
          have hg : g i = true := by cases e : g i with
            | true => rfl
            | false => exact absurd (hf.trans e.symm) h
          rw [hf] at ca
          rw [hg] at cb
          clear h hf hg
          go_wp2_with fail
          go_quiet (fail)
          go_wp2_with fail
          go_ret
          exact ⟨by rw [HE.out]; rfl, below_drewM hb _⟩
structure CB (w : World) (R n k : Nat) (W : World) : Prop where
  b : Below w.heap.size w W
  c : ∀ j, j < n → W.cell? ⟨R, j, none⟩ = some (.bool (decide (j < k)))
  f : ∀ j, j < n → W.frozen? ⟨R, j, none⟩ = false
theorem infoBools : (Tryd.prog.info? 4).map (·.size) = some 1 := by kernel_rfl
theorem sizeBool : ∀ w, (Go.sizeOf 4).run Tryd.prog w = .ok 1 w := fun w => by kernel_rfl
set_option maxRecDepth 100000 in
theorem copy_bools {w W : World} {R n k : Nat} (h : CB w R n k W) (hR : w.heap.size ≤ R) (hk : k ≤ n) (a : Addr) (sLen cap : Nat) (ty : TypeId) (m : Nat) (hm : m = Nat.min sLen (n - k)) (hc : ∀ j, j < m → W.cell? (a.add j) = some (.bool true)) :
    ∃ W', (Builtin.copy_ #[104, 104] ty #[.slice (some ⟨R, k, none⟩) (n - k) (n - k), .slice (some a) sLen cap]).run Tryd.prog W = .ok (.int .i64 (m : Int)) W' ∧ CB w R n (k + m) W' := by
  have hm2 : m ≤ n - k := by rw [hm]; exact Nat.min_le_right _ _
  have hr := run_copy_cells (P := Tryd.prog) W 104 104 ty 4 R k (n - k) (n - k) a sLen cap (List.replicate m (.bool true)) Tryd.underlying104 infoBools (by rw [List.length_replicate]; exact hm)
    (fun j u hj => by
      have hj2 : j < m := by have := (List.getElem?_eq_some_iff.1 hj).1; rwa [List.length_replicate] at this
      rw [List.getElem?_replicate, if_pos hj2] at hj
      injection hj with hj
      subst hj
      exact hc j hj2)
    (fun j hj => by rw [List.length_replicate] at hj; rw [h.c _ (by omega)]; rfl) (fun j hj => by rw [List.length_replicate] at hj; exact h.f _ (by omega))
    (fun u hu => by rw [List.eq_of_mem_replicate hu]; rfl)
  rw [List.length_replicate] at hr
  refine ⟨_, hr, ?_⟩
  have hin := World.cell?_setCells_in R (List.replicate m (Value.bool true)) k W (fun j hj => by rw [List.length_replicate] at hj; rw [h.c _ (by omega)]; rfl)
  have hout := World.cell?_setCells_out R (List.replicate m (Value.bool true)) k W
  refine ⟨Lib.below_setCells R hR _ _ h.b, fun j hj => ?_, fun j hj => ?_⟩
  · by_cases h1 : k ≤ j ∧ j < k + m
    · obtain ⟨d, rfl⟩ : ∃ d, j = k + d := ⟨j - k, by omega⟩
      refine (hin d (by rw [List.length_replicate]; omega)).trans ?_
      rw [show decide (k + d < k + m) = true from decide_eq_true (by omega), List.getElem_replicate]
    · rw [hout ⟨R, j, none⟩ (fun _ _ => by rw [List.length_replicate]; show j < _ ∨ _ ≤ j; omega), h.c j hj]
      congr 2
      rw [decide_eq_decide]
      omega
  · rw [World.frozen?_setCells]
    exact h.f j hj
theorem CB.drew {w W : World} {R n k : Nat} (h : CB w R n k W) : CB w R n k W.drew := ⟨h.b.drew, h.c, h.f⟩
theorem step_copy {P : Program} (w : World) {ops : Array Oper} {o : Oper} {a : Act} {K : Act → World → Prop} {Q : Exit → Act → World → Prop} {E : Prop} (hgd : o.guard = none) (d s : Operand) (t t' : TypeId)
    (ho : o.op = .call { callee := .builtin .copy, args := #[d, s], argTypes := #[t, t'] }) (v u : Value) (hd : a.eval d = v) (hs : a.eval s = u) {v' : Value} {w' : World}
    (hr : (Builtin.copy_ #[t, t'] o.type #[v, u]).run P w = .ok v' w') (h : K (a.put o.dst v') w') : if Region.wanted o (yielded ops a.tmps) = true then Oper.wp P o a w K Q else E := by
  have hw : Region.wanted o (yielded ops a.tmps) = true := by simp [Region.wanted, hgd]
  rw [if_pos hw]
  exact Lib.wp_copy_run w d s t t' ho v u hd hs hr h
set_option maxRecDepth 100000 in
set_option maxHeartbeats 6400000 in
theorem repeatB_any (n b cap : Nat) (w : World) (hn : n ≤ 64) (hcell : w.cell? ⟨b, 0, none⟩ = some (.bool true)) :
    Calls Tryd.prog 87 #[.slice (some ⟨b, 0, none⟩) 1 cap, .int .i64 (n : Int)] w fun e w' => ∃ v, e = .returned v ∧ BRd w' v n (fun _ => true) ∧ Below w.heap.size w w' := by
  have hM : ∀ W, Calls Tryd.prog 105 #[.int .u64 1, .int .u64 (n : Int)] W fun e w' => e = .returned (.tuple #[.int .u64 0, .int .u64 (n : Int)]) ∧ w' = W := fun W => by
    have k := Tryd.bits_Mul 1 n (by omega) (by omega) W
    rw [show 1 * n / 18446744073709551616 = 0 by omega, show 1 * n % 18446744073709551616 = n by omega] at k
    exact k
  have HM := Lib.hid hM
  clear hM
  have hmx : Tryd.prog.follows .mixedOrders = true := by kernel_rfl
  have hmk := make_bools n (by omega)
  have C0 : CB w w.heap.size n 0 (w.alloc (.cells (madeCells #[.bool false] n) 4)) :=
    ⟨below1 w _, fun j hj => by rw [(BRow.made w n).cell hj]; rfl, fun j _ => (BRow.made w n).frozen j⟩
  obtain ⟨m, hm⟩ : ∃ m, m = Nat.min 1 (n - 0) := ⟨_, rfl⟩
  obtain ⟨w1, hr1, C1⟩ := copy_bools C0 (Nat.le_refl _) (Nat.zero_le _) ⟨b, 0, none⟩ 1 cap 3 m hm (fun j hj => by
    have h1 : m ≤ 1 := by rw [hm]; exact Nat.min_le_left _ _
    obtain rfl : j = 0 := by omega
    exact cell_keep hcell (below1 w _))
  have hm2 : m ≤ n ∧ (n = m ∨ (1 ≤ m ∧ m ≤ n)) := by
    rcases Nat.eq_zero_or_pos n with h | h
    · subst h; have : m = 0 := hm; omega
    · have : m = 1 := by rw [hm, Nat.sub_zero]; exact Nat.min_eq_left h
      omega
  rw [Nat.sub_zero] at hr1
  rw [Nat.zero_add] at C1
  have HC1 := Lib.hid C1
  have d0 : decide ((9223372036854775807 : Int) < (n : Int)) = false := decide_eq_false (by omega)
  clear C0 C1 hcell hm
  go_enter Tryd.func87, Tryd.ntmps87
  go_wp2_with (first
    | (go_at_call 105; (with_reducible refine (HM.out _).mono ?_); rintro e W0 ⟨rfl, hW⟩; (rw [hW]); (clear hW))
    | (at_builtin; refine Lib.wpList_copy_run _ rfl _ _ 104 104 rfl _ _ rfl rfl hr1 ?_))
  clear hr1 HM hmk
  go_loopg [8] n (fun q s8 wx => ∃ k : Nat, k ≤ n ∧ n - k ≤ q ∧ (n = k ∨ 1 ≤ k) ∧ s8 = .int .i64 (k : Int) ∧ Hid (CB w w.heap.size n k wx))
  case atStart => exact ⟨m, hm2.1, by omega, by omega, rfl, HC1⟩
  case round =>
    clear HC1
    obtain ⟨k, hkn, hgk, hk1, rfl, HB⟩ := hrel
    by_cases hlt : k < n
    · have hmin : min (k : Int) (n : Int) = (k : Int) := by omega
      obtain ⟨m', hm'⟩ : ∃ m', m' = Nat.min k (n - k) := ⟨_, rfl⟩
      have hmk : m' ≤ k := by rw [hm']; exact Nat.min_le_left _ _
      have hmn : m' ≤ n - k := by rw [hm']; exact Nat.min_le_right _ _
      have hm1 : 1 ≤ m' := by
        rw [hm']
        exact Nat.le_min.2 ⟨by omega, by omega⟩
      obtain ⟨w2, hr2, C2⟩ := copy_bools HB.out.drew (Nat.le_refl _) hkn ⟨w.heap.size, 0, none⟩ k n 3 m' hm' (fun j hj => by
        rw [show (⟨w.heap.size, 0, none⟩ : Addr).add j = ⟨w.heap.size, j, none⟩ by unfold Addr.add; split <;> simp_all]
        rw [HB.out.drew.c j (by omega), decide_eq_true (by omega)])
      have hsl1 : ∀ W, (Instr.slice 104 (.slice (some ⟨w.heap.size, 0, none⟩) n n) (some (.int .i64 (k : Int))) none none).run Tryd.prog W = .ok (.slice (some ⟨w.heap.size, k, none⟩) (n - k) (n - k)) W := fun W => by
        have h := Lib.run_slice_tailV W 104 4 Tryd.underlying104 sizeBool w.heap.size n k (by omega)
        unfold Lib.tailV at h
        rw [if_neg (by omega)] at h
        exact h
      have hB2 := Lib.hid C2
      have dk : (0 : Int) ≤ (k : Int) := by omega
      have hw : IntKind.i64.wrap ((k : Int) + (m' : Int)) = (k : Int) + (m' : Int) := by clear hmin; rw [IntKind.wrap_i64]; omega
      have dkn : (k : Int) ≤ (n : Int) := by omega
      clear C2 HB hm'
      go_wp2_with fail
      go_region_law (refine step_copy _ rfl (.tmp 41) (.tmp 44) 104 104 rfl (.slice (some ⟨w.heap.size, k, none⟩) (n - k) (n - k)) (.slice (some ⟨w.heap.size, 0, none⟩) k n) (by simp [Act.eval, Act.put]) (by simp [Act.eval, Act.put]) hr2 ?_)
      clear hr2 hsl1 hmin
      go_wp2
      go_roundg (n - (k + m'))
      case measure => omega
      case rel => exact ⟨k + m', by omega, by omega, by omega, by go_num, hB2⟩
    · obtain rfl : k = n := by omega
      have HB2 := Lib.hid (show BRd wr (.slice (some ⟨w.heap.size, 0, none⟩) k k) k (fun _ => true) from ⟨_, _, rfl, fun i hi => by rw [HB.out.c i hi, decide_eq_true hi]⟩)
      have hb := HB.out.b
      clear HB
      go_wp2
      go_ret
      exact ⟨_, rfl, HB2.out, hb⟩
end Go.Proofs.YtkpmapeapiodcaaDoor
