/- What forbidden.Graph returns. Conditions: the words can be read, are at most 10^5, and have lengths of strings. What grooveref09.Same returns. Condition: at most a million edges each. What slices.Equal of words returns; that groovelaw14.awake returns true. Conditions: the words can be read, their number is that of a slice. -/
import Derived.Test.YtkpmapeapiodcaaDoorQ13
import Derived.Test.YtkpmapeapiodcaaDoorQ12
import Derived.BigQuiet

namespace Go.Proofs.YtkpmapeapiodcaaDoor
open Go.RowKit Go.Maps
set_option linter.unusedSimpArgs false
set_option linter.unusedVariables false

theorem letF (j : Nat) (h : j < 16) (w : World) : (Instr.slice 9 (.string ⟨#[48, 49, 50, 51, 52, 53, 54, 55, 56, 57, 97, 98, 99, 100, 101, 102]⟩) (some (.int .i64 (j : Int))) (some (.int .i64 ((j : Int) + 1))) none).run Tryd.prog w = .ok (.string ⟨[lt j].toArray⟩) w := by
  have h1 : j < lets.length := by show j < 16; exact h
  have h2 := cutF (x := lets) rfl j 1 (by show j + 1 ≤ 16; omega) w
  rw [List.drop_eq_getElem_cons h1, List.take_succ_cons, List.take_zero, ← lt_at h1] at h2
  exact h2
def KR (w W : World) : Prop := BoxF W w.heap.size 0 0 (.slice none 0 0) ∧ Below w.heap.size w W ∧ w.heap.size + 1 ≤ W.heap.size
theorem KR.start (w : World) (t : TypeId) : KR w (w.alloc (.cells #[.int .i64 0, .int .i64 0, .slice none 0 0] t)) := ⟨BoxF.new w 0 0 _ t, below1 w _, by rw [World.size_alloc]; exact Nat.le_refl _⟩
theorem KR.keep {w W W' : World} (h : KR w W) (hb : Below W.heap.size W W') : KR w W' := ⟨h.1.keep hb, h.2.1.trans (hb.mono h.2.1.size), Nat.le_trans h.2.2 hb.size⟩
theorem KR.bel {w W : World} (h : KR w W) : Below w.heap.size w W := h.2.1
structure GI (W0 : World) (q n : Nat) (v : Value) (es : List E3) (W : World) : Prop where
  b : Below W0.heap.size W0 W
  o : BoxF W W0.heap.size (q : Int) (n : Int) v
  e : EdgesAt W (W0.heap.size + 1) v es
section
variable {W0 W W' W4 : World} {q n : Nat} {v s s' : Value} {es es' : List E3}
theorem GI.start (W0 : World) (q n : Nat) (t : TypeId) : GI W0 q n (.slice none 0 0) [] (W0.alloc (.cells #[.int .i64 (q : Int), .int .i64 (n : Int), .slice none 0 0] t)) := ⟨below1 W0 _, BoxF.new W0 _ _ _ t, edges_nil _ _⟩
theorem GI.keep (h : GI W0 q n v es W) (hb : Below W.heap.size W W') : GI W0 q n v es W' := ⟨h.b.trans (hb.mono h.b.size), h.o.keep hb, h.e.keep hb⟩
theorem GI.app (T : GI W0 q n s es W) (o : Obj) (r2 : (W.alloc o).grownBy W4 s.ownBlock) (r1 : EdgesAt W4 (W0.heap.size + 1) s' es') :
    GI W0 q n s' es' (W4.setCell ⟨W0.heap.size, 2, none⟩ s') ∧ W4.cell? ⟨W0.heap.size, 2, none⟩ = some s ∧ W4.frozen? ⟨W0.heap.size, 2, none⟩ = false := by
  have hlt := World.ownsRow.lt T.e
  have hpb := T.o.lt
  have hk : W4.heap[W0.heap.size]? = W.heap[W0.heap.size]? := (r2.block _ (by rw [World.size_alloc]; omega) (fun e => by have := (hlt _ e.symm).1; omega)).trans (Below.heap_alloc _ _ _ (by omega))
  have b4 : Below W0.heap.size W0 W4 := (T.b.alloc T.b.size o).grown r2 (by rw [World.size_alloc]; have := T.b.size; omega) (fun k e => by have := (hlt k e).1; omega)
  have o4 := T.o.of_block hk
  exact ⟨⟨b4.setCell (by exact Nat.le_refl _) _, o4.set2 _, ownsRow_setCell_below r1 (by exact Nat.lt_succ_self _) _⟩, o4.1.2.2, o4.2.2.2⟩
theorem GI.app' {a9 : Option Addr} {m c9 g9 d9 : Nat} {x y z : Int} {o : Obj} (T : GI W0 q n (.slice a9 m c9) es W.drew) (hm : es.length = m) (r2 : ((W.drew).alloc o).grownBy W4 (Value.slice a9 m c9).ownBlock)
    (r1 : W4.ownsRow (W0.heap.size + 1) 45 3 (.slice (some ⟨g9, 0, none⟩) (m + 1) d9) (m + 1) (ecl es ++ [.int .i64 x, .int .i64 y, .int .i64 z])) :
    GI W0 q n (.slice (some ⟨g9, 0, none⟩) (m + 1) d9) (es ++ [(x, y, z)]) (W4.setCell ⟨W0.heap.size, 2, none⟩ (.slice (some ⟨g9, 0, none⟩) (m + 1) d9)) ∧ W4.cell? ⟨W0.heap.size, 2, none⟩ = some (.slice a9 m c9) ∧ W4.frozen? ⟨W0.heap.size, 2, none⟩ = false :=
  T.app o r2 (by unfold EdgesAt; rw [ecl_snoc, List.length_append, hm]; exact r1)
theorem GI.drew (h : GI W0 q n v es W) : GI W0 q n v es W.drew := ⟨h.b.drew, h.o, h.e⟩
end
def SG9 (p : Nat) (v : Value) (W : World) : Prop := W.cell? ⟨p, 2, none⟩ = some v
theorem SG9.keep {p : Nat} {v : Value} {W W' : World} (h : SG9 p v W) (hb : Below W.heap.size W W') : SG9 p v W' := cell_keep h hb
theorem GV.new {l : List Wd} {W : World} {b k : Nat} (h : W.ownsMap Tryd.prog 9 (plainElem Tryd.prog 4) b k (mapS l)) (t1 t2 : TypeId) :
    GV l W.heap.size ((W.alloc (.cells #[.map (some b)] t1)).alloc (.cells #[.int .i64 (longW l : Int)] t2)) := by
  have h1 := cell_one_new W (.map (some b)) t1 0 _ rfl
  have b1 := below1 W (.cells #[.map (some b)] t1)
  have s1 := World.size_alloc W (.cells #[.map (some b)] t1)
  have m1 := h.kept (grown_none b1) (by simp)
  generalize W.alloc (.cells #[.map (some b)] t1) = W1 at *
  have h2 := cell_one_new W1 (.int .i64 (longW l : Int)) t2 0 _ rfl
  have b2 := below1 W1 (.cells #[.int .i64 (longW l : Int)] t2)
  refine ⟨⟨b, k, cell_keep h1 b2, m1.kept (grown_none b2) (by simp)⟩, ?_⟩
  rw [← s1]
  exact h2
theorem st_len {l S : List Wd} (h : StL l S) (hl : ∀ u ∈ l, u.length ≤ 32) {x : Wd} (hx : x ∈ S) : x.length ≤ 32 := by
  rcases (h.2 x).1 hx with e | ⟨u, hu, h1, -, -⟩
  · rw [e]; exact Nat.zero_le _
  · exact Nat.le_trans h1.length_le (hl u hu)
theorem StL.nodup {l S : List Wd} (h : StL l S) : S.Nodup := h.1.imp (fun {a b} hab e => by subst e; exact ltW_irr _ hab)
theorem mapT_take {S : List Wd} {i : Nat} {x : Wd} (h : S[i]? = some x) : mapT (S.take (i + 1)) = (mapT (S.take i)).put (.string x) (.lit (.int .i64 (i : Int))) := by
  have hi : i < S.length := (List.getElem?_eq_some_iff.1 h).1
  rw [List.take_add_one, h, Option.toList_some, mapT_snoc, List.length_take, Nat.min_eq_left (by omega)]
theorem wfF {x : Nat} (h : x ≤ 100000) : (Lit.int .i64 (x : Int)).wf = true := by
  refine WalkArith.wf_i64 ?_
  omega
def GrOut (q : Nat) (l : List Wd) (w : World) (e : Ending) (w' : World) : Prop :=
  ∃ S, StL l S ∧ Below w.heap.size w w' ∧ ((64 < S.length ∧ e = .returned (.tuple #[grV 0 0 (.slice none 0 0), .int .i64 4])) ∨
    (S.length ≤ 64 ∧ ∃ f v, Ess S.length (edgW lt l S S.length q) f ∧ e = .returned (.tuple #[grV (q : Int) ((mems S.length f).length : Int) v, .int .i64 0]) ∧ EdgesAt w' w.heap.size v (partE (mems S.length f) (edgW lt l S S.length q))))
set_option maxRecDepth 100000 in
set_option maxHeartbeats 25600000 in
theorem graph_good (q : Nat) (l : List Wd) (v : Value) (w : World) (hrd : WdsRd w v l) (hc : clW (q : Int) true l = 0) :
    Calls Tryd.prog 22 #[.int .i64 (q : Int), v] w (GrOut q l w) := by
  obtain ⟨i0, hi, hz0, hz1, hz2⟩ := info_parts Tryd.infoEdge
  have hmx : Tryd.prog.follows .mixedOrders = true := by kernel_rfl
  have hmm := @run_makeMap Tryd.prog
  obtain ⟨hq, hl64, hxs, -⟩ := clW_ok hc
  have hls : ∀ x ∈ l, x.length ≤ 9223372036854775807 := fun x hx => by have := (hxs x hx).2; omega
  have K0 := Lib.hid (KR.start w 41)
  have HRD := Lib.hid hrd
  have HXS := Lib.hid hxs
  have HC := Lib.hid (checkF_any (q : Int) l v _ (hrd.keep (below1 w (.cells #[.int .i64 0, .int .i64 0, .slice none 0 0] 41))) (by omega) hls)
  rw [hc] at HC
  have HS := Lib.hid (fun W h => setOf_any l v W h (by omega) hls)
  have HL := Lib.hid (fun W h => longest_any l v W h (by omega))
  have HP := Lib.hid (fun W p h hg => prefixes_any l v p W h hl64 hxs hg)
  have HAL := Lib.hid (fun x p W (h : GV l p W) hx => allow1_any l x p W hxs h hx)
  have hq1 : 1 ≤ q := by omega
  have hq2 : q ≤ 16 := by omega
  obtain ⟨a, c, rfl⟩ := hrd.form
  clear hrd hc hls hxs hq
  go_enter Tryd.func22, Tryd.ntmps22
  go_upto_region 4 with (first
    | (go_at_call 11; (with_reducible refine HC.out.mono ?_); rintro e W1 ⟨rfl, b1⟩; (have K1 := Lib.hid (K0.out.keep b1)); clear b1)
    | (go_at_call 25; (with_reducible refine (HS.out _ (HRD.out.keep K1.out.bel)).mono ?_); rintro e W2 ⟨rfl, m2, b2⟩; (have M2 := Lib.hid m2); (have K2 := Lib.hid (K1.out.keep b2)); clear m2 b2)
    | (go_at_call 14; (with_reducible refine (HL.out _ (HRD.out.keep K2.out.bel)).mono ?_); rintro e W3 ⟨rfl, hw⟩; (try subst hw)))
  have G4 := Lib.hid (GV.new M2.out 48 3)
  have K4 := Lib.hid (K2.out.keep (below_more (below1 W3 (.cells #[.map (some W1.heap.size)] 48)) (Nat.le_refl _) (below1 (W3.alloc (.cells #[.map (some W1.heap.size)] 48)) (.cells #[.int .i64 (longW l : Int)] 3))))
  obtain ⟨p, hp⟩ : ∃ p, W3.heap.size = p := ⟨_, rfl⟩
  rw [hp] at G4 ⊢
  clear hp M2 K2 K1 K0 HC HS HL
  generalize ((W3.alloc (.cells #[.map (some W1.heap.size)] 48)).alloc (.cells #[.int .i64 (longW l : Int)] 3)) = X4 at *
  go_upto_region 6 with (go_at_call 42; (with_reducible refine (HP.out _ _ (HRD.out.keep K4.out.bel) G4.out).mono ?_); rintro e W5 ⟨u, S, rfl, i5, hst, hsl, b5⟩; (have I5 := Lib.hid i5); (have K5 := Lib.hid (K4.out.keep b5)); (have G5 := Lib.hid (G4.out.keep b5)); (have HST := Lib.hid hst); clear i5 b5 hst)
  clear K4 G4 HP X4
  obtain ⟨a2, c2, rfl⟩ := I5.out.form
  obtain ⟨n, hn⟩ : ∃ n, S.length = n := ⟨_, rfl⟩
  have HN := Lib.hid hn
  rw [hn] at hsl I5 ⊢
  clear hn
  by_cases h64 : n ≤ 64
  · have j0 : ¬ ((64 : Int) < (n : Int)) := by omega
    have M6 := Lib.hid (World.ownsMap_made (H := Unit) W5 Tryd.prog 9 (plainElem Tryd.prog 3))
    have B6 := Lib.hid (below1 W5 (.map #[] 0))
    obtain ⟨R, hR⟩ : ∃ R, W5.heap.size = R := ⟨_, rfl⟩
    have HR := Lib.hid hR
    rw [hR] at M6
    go_upto_region 9 with fail
    clear hmm hR
    generalize (W5.alloc (.map #[] 0)) = X6 at *
    go_wp2_with fail
    go_loopg [11, 12, 41] n (fun g s11 s12 s41 wx => ∃ i : Nat, i + g = n ∧ s41 = .int .i64 (i : Int) ∧ Hid (wx.ownsMap Tryd.prog 9 (plainElem Tryd.prog 3) R i (mapT (S.take i))) ∧ Hid (Below W5.heap.size W5 wx))
    case atStart => exact ⟨0, by omega, rfl, M6, B6⟩
    case round =>
      clear M6 B6
      obtain ⟨i, hin, rfl, HM, HB⟩ := hrel
      rcases gk with _ | g
      · obtain rfl : i = n := by omega
        have j2 : ¬ ((i : Int) < (i : Int)) := by omega
        have M7 := Lib.hid (show wr.ownsMap Tryd.prog 9 (plainElem Tryd.prog 3) R i (mapT S) by have := HM.out; rwa [← HN.out, List.take_length, HN.out] at this)
        have K7 := Lib.hid (K5.out.keep HB.out)
        have G7 := Lib.hid (G5.out.keep HB.out)
        have I7 := Lib.hid (WdsRd.keep (l := S) (by rw [HN.out]; exact I5.out : WdsRd W5 (.slice a2 S.length c2) S) HB.out)
        clear HM HB I5 K5 G5
        obtain ⟨n, rfl⟩ : ∃ n, n = i := ⟨_, rfl⟩
        obtain ⟨W0, rfl⟩ : ∃ W0, W0 = wr := ⟨_, rfl⟩
        have T0 := Lib.hid (GI.start W0 q n 41)
        go_upto_region 15 with fail
        generalize (W0.alloc (.cells #[.int .i64 (q : Int), .int .i64 (n : Int), .slice none 0 0] 41)) = X7 at *
        go_wp2_with fail
        go_loopg [14, 15, 16, 17, 56] n (fun g s14 s15 s16 s17 s56 wx => ∃ i : Nat, i + g = n ∧ s56 = .int .i64 (i : Int) ∧ ∃ v, Hid (GI W0 q n v (edgW lt l S i q) wx))
        case atStart => exact ⟨0, by omega, rfl, _, T0⟩
        case round =>
          clear T0
          obtain ⟨i, hin, rfl, v, HT⟩ := hrel
          obtain ⟨X, rfl⟩ : ∃ X, X = wr := ⟨_, rfl⟩
          rcases gk with _ | g
          · obtain rfl : i = n := by omega
            have j3 : ¬ ((i : Int) < (i : Int)) := by omega
            have HVG := Lib.hid (show VG (q : Int) (i : Int) (edgW lt l S i q) by have h := edgW_vg (lt := lt) (l := l) HST.out.nil hq1 hq2 (by rw [HN.out]; exact h64); rw [HN.out] at h; exact h)
            obtain ⟨es, hes⟩ : ∃ es, edgW lt l S i q = es := ⟨_, rfl⟩
            have HES := Lib.hid hes
            rw [hes] at HT HVG
            have K8 := Lib.hid (K7.out.keep HT.out.b)
            have HE := Lib.hid (essential_good (q : Int) i es v X HT.out.e.rd HVG.out)
            obtain ⟨⟨g1, g2, g3⟩, -, -, -⟩ := id HT.out.o
            obtain ⟨a9, c9, rfl⟩ := HT.out.e.slice
            have hlt : w.heap.size < X.heap.size := by have h1 := HT.out.o.lt; have h2 := K7.out.2.2; omega
            clear hes M7 G7 I7 K7
            go_upto_region 27 with (go_at_call 44; (with_reducible refine HE.out.mono ?_); rintro e W9 ⟨f, v9, u9, hf, rfl, e9, i9, b9⟩; (obtain ⟨a10, c10, rfl⟩ := e9.slice); (obtain ⟨a11, c11, rfl⟩ := i9.slice); (have HF := Lib.hid hf); (have E9 := Lib.hid e9); (have K9 := Lib.hid (K8.out.keep b9)); clear hf e9 i9 b9)
            obtain ⟨y, hy⟩ : ∃ y, (mems i f).length = y := ⟨_, rfl⟩
            have HY := Lib.hid hy
            rw [hy]
            clear hy
            have G9 := Lib.hid (BoxG.new W9 (q : Int) (y : Int) (.slice a10 (partE (mems i f) es).length c10) 41)
            have b10 := below1 W9 (.cells #[.int .i64 (q : Int), .int .i64 (y : Int), (.slice a10 (partE (mems i f) es).length c10)] 41)
            have K10 := Lib.hid (K9.out.keep b10)
            have E10 := Lib.hid (E9.out.keep b10)
            obtain ⟨P, hP⟩ : ∃ P, W9.heap.size = P := ⟨_, rfl⟩
            rw [hP] at G9 ⊢
            clear b10 hP K9 E9 K8
            generalize (W9.alloc (.cells #[.int .i64 (q : Int), .int .i64 (y : Int), (.slice a10 (partE (mems i f) es).length c10)] 41)) = X10 at *
            obtain ⟨x1, x2, x3⟩ := id G9.out
            obtain ⟨⟨⟨r1, r2, r3⟩, r4, r5, r6⟩, -, -⟩ := id K10.out
            go_wp2_with fail
            exact bodyPost_ret (v := .tuple #[grV (q : Int) (y : Int) (.slice a10 (partE (mems i f) es).length c10), .int .i64 0]) (by simp [results, Tryd.results22, go_sem, r1, r2, r3]) rfl
              ⟨S, HST.out, below_over K10.out.bel (Nat.le_refl _) _ _ _, .inr ⟨by rw [HN.out]; exact h64, f, _, by rw [HN.out, HES.out]; exact HF.out, by rw [HN.out, HY.out], by
                rw [HN.out, HES.out]
                exact edges_over E10.out hlt _ _ _ (Nat.le_of_lt hlt)⟩⟩
          · obtain ⟨x, hxx⟩ : ∃ x, S[i]? = some x := ⟨_, List.getElem?_eq_getElem (by rw [HN.out]; omega)⟩
            have hx32 : x.length ≤ 32 := st_len HST.out (fun u hu => (HXS.out u hu).2) (List.mem_of_getElem? hxx)
            have HXX := Lib.hid (show S.getD i [] = x by rw [List.getD_eq_getElem?_getD, hxx]; rfl)
            have hI := I7.out.keep HT.out.b
            obtain ⟨b, off, c', hv, k1⟩ := hI.at hxx
            injection hv with e1 e2 e3
            subst e1
            subst e3
            have j1 : (i : Int) < (n : Int) := by omega
            clear hxx e2 hI
            go_wp2_with fail
            clear k1
            go_loopg [16, 17, 62] q (fun g2 s16 s17 s62 wx => ∃ j : Nat, j + g2 = q ∧ s62 = .int .i64 (j : Int) ∧ ∃ v, Hid (GI W0 q n v (edgW lt l S i q ++ rowW lt l S i j) wx))
            case atStart => exact ⟨0, by omega, rfl, v, Lib.hid (by rw [show rowW lt l S i 0 = [] from rfl, List.append_nil]; exact HT.out)⟩
            case round =>
              clear HT
              obtain ⟨j, hjq, rfl, v, HT⟩ := hrel
              obtain ⟨X, rfl⟩ : ∃ X, X = wr := ⟨_, rfl⟩
              rcases gk with _ | g2
              · obtain ⟨q, rfl⟩ : ∃ q', q' = q := ⟨_, rfl⟩
                obtain rfl : j = q := by omega
                have j3 : ¬ ((j : Int) < (j : Int)) := by omega
                go_wp2_with fail
                go_roundg g
                case measure => omega
                case rel => exact ⟨i + 1, by omega, by go_num, v, Lib.hid (by rw [edgW_succ]; exact HT.out)⟩
              · have j4 : (j : Int) < (q : Int) := by omega
                have hcut := fun W => letF j (by omega) W
                have hs1 : ∀ W, (Op.stringOp .add ⟨x.toArray⟩ ⟨[lt j].toArray⟩).run Tryd.prog W = .ok (.string ⟨(x ++ [lt j]).toArray⟩) W := fun W => run_string_add_lists W x [lt j] (by omega) (by simp)
                have hxl : (x ++ [lt j]).length ≤ 100000 := by rw [List.length_append, List.length_singleton]; omega
                have HW := Lib.hid (show edW lt l S i j = if alwB l (x ++ [lt j]) = true then some ((i : Int), (j : Int), ((S.idxOf (sufW S (x ++ [lt j])) : Nat) : Int)) else none by unfold edW; rw [HXX.out])
                obtain ⟨y, hy⟩ : ∃ y, x ++ [lt j] = y := ⟨_, rfl⟩
                rw [hy] at hs1 hxl HW
                obtain ⟨z, hz⟩ : ∃ z, lt j = z := ⟨_, rfl⟩
                rw [hz] at hcut hs1
                clear hy hz
                have HAX := Lib.hid (HAL.out y p X (G7.out.keep HT.out.b) hxl)
                obtain ⟨M, hM⟩ : ∃ M, alwB l y = M := ⟨_, rfl⟩
                rw [hM] at HAX HW
                clear hM
                cases M with
                | false =>
                  have HR2 := Lib.hid (show rowW lt l S i (j + 1) = rowW lt l S i j by rw [rowW_succ, HW.out]; simp)
                  clear HW
                  go_wp2_with (go_at_call 41; (with_reducible refine HAX.out.mono ?_); rintro e W3 ⟨rfl, b3⟩; (have T3 := Lib.hid (HT.out.keep b3)); clear b3)
                  go_roundg g2
                  case measure => omega
                  case rel => exact ⟨j + 1, by omega, by go_num, v, Lib.hid (by rw [HR2.out]; exact T3.out)⟩
                | true =>
                  obtain ⟨d, hd⟩ : ∃ d, S.idxOf (sufW S y) = d := ⟨_, rfl⟩
                  rw [hd, if_pos rfl] at HW
                  have HR2 := Lib.hid (show edgW lt l S i q ++ rowW lt l S i (j + 1) = edgW lt l S i q ++ rowW lt l S i j ++ [((i : Int), (j : Int), (d : Int))] by rw [rowW_succ, HW.out, List.append_assoc]; rfl)
                  have hel : (edgW lt l S i q ++ rowW lt l S i j).length ≤ 2000 := by
                    have h1 := edgW_len lt l S q i
                    have h2 := rowW_len lt l S i j
                    have h3 : i * q ≤ 64 * 16 := Nat.mul_le_mul (by omega) hq2
                    rw [List.length_append]
                    omega
                  obtain ⟨es, hes⟩ : ∃ es, edgW lt l S i q ++ rowW lt l S i j = es := ⟨_, rfl⟩
                  rw [hes] at HT HR2 hel
                  obtain ⟨m, hm⟩ : ∃ m, es.length = m := ⟨_, rfl⟩
                  have HM := Lib.hid hm
                  rw [hm] at hel
                  obtain ⟨a9, c9, rfl⟩ := HT.out.e.slice
                  rw [hm] at HT
                  have HSF := Lib.hid (fun W hmp => by have h := suffix_any S y R n W HST.out.nil HST.out.nodup hmp hxl; rw [hd] at h; exact h)
                  clear hd hes hm HW
                  go_wp2_with (go_at_call 41; (with_reducible refine HAX.out.mono ?_); rintro e W3 ⟨rfl, b3⟩; (have T3 := Lib.hid (HT.out.keep b3)); clear b3)
                  have TD := Lib.hid T3.out.drew
                  have M8 := Lib.hid (M7.out.kept (grown_none TD.out.b) (by simp))
                  have HSX := Lib.hid (HSF.out _ M8.out)
                  have hown : W3.drew.ownsRow (W0.heap.size + 1) 45 3 (.slice a9 m c9) m (ecl es) := by have h0 := TD.out.e; unfold EdgesAt at h0; rw [HM.out] at h0; exact h0
                  have hsz := TD.out.b.size
                  have hR0 : SG9 W0.heap.size (.slice a9 m c9) W3.drew := TD.out.o.1.2.2
                  clear HAX HSF
                  refine regionT (T := T2 11 11 (SG9 W0.heap.size (.slice a9 m c9)) (SG9 W0.heap.size (.slice a9 m c9))) hmx ?_
                  have hR := hR0
                  refine take1 (i := 0) (v := ?_) rfl (by kernel_rfl) (by kernel_rfl) (by kernel_rfl) (by kernel_rfl) (by kernel_rfl) (by decide) (by decide) (fun _ _ _ h => h) (Or.inl ⟨by rfl, ?_⟩) hR hR ?_
                  rotate_left
                  · intro w hSw
                    (try unfold SG9 at hSw)
                    go_simp
                    all_goals with_reducible rfl
                  (try simp only [Act.put, List.setIfInBounds_toArray, List.set_cons_zero, List.set_cons_succ])
                  refine take1 (i := 1) (v := ?_) rfl (by kernel_rfl) (by kernel_rfl) (by kernel_rfl) (by kernel_rfl) (by kernel_rfl) (by decide) (by decide) (fun _ _ _ h => h) (Or.inl ⟨by rfl, ?_⟩) hR hR ?_
                  rotate_left
                  · intro w hSw
                    (try unfold SG9 at hSw)
                    go_simp
                    all_goals with_reducible rfl
                  (try simp only [Act.put, List.setIfInBounds_toArray, List.set_cons_zero, List.set_cons_succ])
                  refine take1 (i := 2) (v := ?_) rfl (by kernel_rfl) (by kernel_rfl) (by kernel_rfl) (by kernel_rfl) (by kernel_rfl) (by decide) (by decide) (fun _ _ _ h => h) (Or.inl ⟨by rfl, ?_⟩) hR hR ?_
                  rotate_left
                  · intro w hSw
                    (try unfold SG9 at hSw)
                    go_simp
                    all_goals with_reducible rfl
                  (try simp only [Act.put, List.setIfInBounds_toArray, List.set_cons_zero, List.set_cons_succ])
                  refine take1 (i := 3) (v := ?_) rfl (by kernel_rfl) (by kernel_rfl) (by kernel_rfl) (by kernel_rfl) (by kernel_rfl) (by decide) (by decide) (fun _ _ _ h => h) (Or.inl ⟨by rfl, ?_⟩) hR hR ?_
                  rotate_left
                  · intro w hSw
                    (try unfold SG9 at hSw)
                    go_simp
                    all_goals with_reducible rfl
                  (try simp only [Act.put, List.setIfInBounds_toArray, List.set_cons_zero, List.set_cons_succ])
                  refine take1 (i := 4) (v := ?_) rfl (by kernel_rfl) (by kernel_rfl) (by kernel_rfl) (by kernel_rfl) (by kernel_rfl) (by decide) (by decide) (fun _ _ _ h => h) (Or.inl ⟨by rfl, ?_⟩) hR hR ?_
                  rotate_left
                  · intro w hSw
                    (try unfold SG9 at hSw)
                    go_simp
                    all_goals with_reducible rfl
                  (try simp only [Act.put, List.setIfInBounds_toArray, List.set_cons_zero, List.set_cons_succ])
                  refine take1 (i := 5) (v := ?_) rfl (by kernel_rfl) (by kernel_rfl) (by kernel_rfl) (by kernel_rfl) (by kernel_rfl) (by decide) (by decide) (fun _ _ _ h => h) (Or.inl ⟨by rfl, ?_⟩) hR hR ?_
                  rotate_left
                  · intro w hSw
                    (try unfold SG9 at hSw)
                    go_simp
                    all_goals with_reducible rfl
                  (try simp only [Act.put, List.setIfInBounds_toArray, List.set_cons_zero, List.set_cons_succ])
                  refine stepT (i := 6) (by kernel_rfl) rfl (fun K hK => ?_)
                  go_simp
                  go_at_call 43
                  (with_reducible refine HSX.out.mono ?_)
                  rintro e0 W5 ⟨rfl, hw5⟩
                  subst hw5
                  go_wp2_with fail
                  have hR5 := hR
                  refine hK.out _ _ ⟨fun _ => hR5, fun _ => hR5⟩ ?_
                  clear hK K hR
                  have hR := hR5
                  (try simp only [Act.put, List.setIfInBounds_toArray, List.set_cons_zero, List.set_cons_succ])
                  refine take1 (i := 7) (v := ?_) rfl (by kernel_rfl) (by kernel_rfl) (by kernel_rfl) (by kernel_rfl) (by kernel_rfl) (by decide) (by decide) (fun _ _ _ h => h) (Or.inl ⟨by rfl, ?_⟩) hR hR ?_
                  rotate_left
                  · intro w hSw
                    (try unfold SG9 at hSw)
                    go_simp
                    all_goals with_reducible rfl
                  (try simp only [Act.put, List.setIfInBounds_toArray, List.set_cons_zero, List.set_cons_succ])
                  refine stepT (i := 8) (by kernel_rfl) rfl (fun K hK => ?_)
                  go_simp
                  have hR6 := hR5.keep (below1 _ (.cells #[.int .i64 (i : Int), .int .i64 (j : Int), .int .i64 (d : Int)] 45))
                  refine hK.out _ _ ⟨fun _ => hR6, fun _ => hR6⟩ ?_
                  clear hK K hR
                  have hR := hR6
                  (try simp only [Act.put, List.setIfInBounds_toArray, List.set_cons_zero, List.set_cons_succ])
                  refine stepT (i := 9) (by kernel_rfl) rfl (fun K hK => ?_)
                  refine step_append_lies _ (by rfl) (.tmp 75) (.tmp 82) 39 (by rfl) (W0.heap.size + 1) 45 i0 (.agg #[.int .i64 0, .int .i64 0, .int .i64 0]) 3 24 Tryd.underlying39 hi hz0 hz1 hz2 rfl (by decide) (.slice a9 m c9) m (ecl es) (by rfl) (hown.alloc _) ⟨W3.drew.heap.size, 0, none⟩ 1 1 [.int .i64 (i : Int), .int .i64 (j : Int), .int .i64 (d : Int)] (by rfl) (by rfl) (cell_three_new _ _ _ _ _) (by intro u hu; simp at hu; rcases hu with rfl | rfl | rfl <;> rfl) (by decide) (by unfold maxLen; omega) (by omega) (by show W0.heap.size + 1 ≤ (W3.alloc _).heap.size; rw [World.size_alloc]; have h8 := TD.out.o.lt; have h9 : W3.drew.heap.size = W3.heap.size := rfl; omega) _ rfl ?_
                  intro g9 d9 W4 r1 r2 r3 r4
                  obtain ⟨hA1, hA2, hA3⟩ := GI.app' TD.out HM.out r2 r1
                  have hA4 := Lib.hid hA1
                  have hR4 : SG9 W0.heap.size (.slice a9 m c9) W4 := hA2
                  clear hA1 r1 r2 r3 r4
                  refine hK.out _ _ ⟨fun _ => hR4, fun _ => hR4⟩ ?_
                  clear hK K hR
                  have hR := hR4
                  (try simp only [Act.put, List.setIfInBounds_toArray, List.set_cons_zero, List.set_cons_succ])
                  refine take1 (i := 10) (v := ?_) rfl (by kernel_rfl) (by kernel_rfl) (by kernel_rfl) (by kernel_rfl) (by kernel_rfl) (by decide) (by decide) (fun _ _ _ h => h) (Or.inl ⟨by rfl, ?_⟩) hR hR ?_
                  rotate_left
                  · intro w hSw
                    (try unfold SG9 at hSw)
                    go_simp
                    all_goals with_reducible rfl
                  (try simp only [Act.put, List.setIfInBounds_toArray, List.set_cons_zero, List.set_cons_succ])
                  refine stepT (i := 11) (by kernel_rfl) rfl (fun K hK => ?_)
                  go_simp
                  refine hK.out _ _ ⟨fun h => absurd h (by decide), fun h => absurd h (by decide)⟩ ?_
                  clear hK K
                  (try simp only [Act.put, List.setIfInBounds_toArray, List.set_cons_zero, List.set_cons_succ])
                  refine doneT (by kernel_rfl) ?_ _
                  go_wp2_with fail
                  go_roundg g2
                  case measure => omega
                  case rel => exact ⟨j + 1, by omega, by go_num, _, Lib.hid (by rw [HR2.out]; exact hA4.out)⟩
      · obtain ⟨x, hxx⟩ : ∃ x, S[i]? = some x := ⟨_, List.getElem?_eq_getElem (by rw [HN.out]; omega)⟩
        have hx32 : x.length ≤ 32 := st_len HST.out (fun u hu => (HXS.out u hu).2) (List.mem_of_getElem? hxx)
        have hI := WdsRd.keep (l := S) (by rw [HN.out]; exact I5.out : WdsRd W5 (.slice a2 S.length c2) S) HB.out
        obtain ⟨b, off, c', hv, k1⟩ := hI.at hxx
        injection hv with e1 e2 e3
        subst e1
        subst e3
        have j1 : (i : Int) < (n : Int) := by omega
        have hkey := keyS_of (x := x) (by omega)
        have hmp := HM.out
        have HT := Lib.hid (mapT_take hxx)
        have hin2 : i < 5000 := by omega
        have hwf := wfF (x := i) (by omega)
        clear hxx e2 hI
        go_wp2_with (at_mapUpdate; refine wpList_mapUpdate_own _ rfl _ _ _ 60 rfl 9 3 Tryd.keyedS Tryd.underlying60 _ R i _ rfl hmp (by unfold maxLen; omega) _ _ _ rfl rfl hkey _ [] (plainElem_int Tryd.underlying3 hwf) ?_; intro w1 hown1 hgrow1)
        go_roundg g
        case measure => omega
        case rel => exact ⟨i + 1, by omega, by go_num, Lib.hid (by rw [HT.out]; exact hown1), Lib.hid (HB.out.grown hgrow1 HB.out.size (fun k e => by injection e with e; rw [← HR.out] at e; omega))⟩
  · have j0 : (64 : Int) < (n : Int) := by omega
    obtain ⟨⟨⟨r1, r2, r3⟩, r4, r5, r6⟩, -, -⟩ := id K5.out
    clear hmm
    go_wp2_with fail
    exact bodyPost_ret (v := .tuple #[grV 0 0 (.slice none 0 0), .int .i64 4]) (by simp [results, Tryd.results22, go_sem, r1, r2, r3]) rfl ⟨S, HST.out, below_over K5.out.bel (Nat.le_refl _) _ _ _, .inl ⟨by rw [HN.out]; omega, rfl⟩⟩
end Go.Proofs.YtkpmapeapiodcaaDoor

namespace Go.Proofs.YtkpmapeapiodcaaDoor
open Go.RowKit Go.Shelf
set_option linter.unusedSimpArgs false
set_option linter.unusedVariables false

theorem sameG_of {L S : Int} {es fs : List E3} : sameG L S es L S fs = decide (es = fs) := by
  unfold sameG
  rw [decide_eq_decide]
  exact ⟨fun h => h.2.2, fun h => ⟨rfl, rfl, h⟩⟩
set_option maxRecDepth 100000 in
set_option maxHeartbeats 3200000 in
theorem rsame_any (L S L' S' : Int) (es fs : List E3) (v1 v2 : Value) (w : World) (h1 : EdgesRd w v1 es) (h2 : EdgesRd w v2 fs) (hn : es.length ≤ 1000000) (hm : fs.length ≤ 1000000) :
    Calls Tryd.prog 23 #[grV L S v1, grV L' S' v2] w fun e w' => e = .returned (.bool (sameG L S es L' S' fs)) ∧ Below w.heap.size w w' := by
  have b0 := below_more (below1 w (.cells #[.int .i64 L, .int .i64 S, v1] 41)) (Nat.le_refl _) (below1 _ (.cells #[.int .i64 L', .int .i64 S', v2] 41))
  have HA := Lib.hid (h1.keep b0)
  have HB := Lib.hid (h2.keep b0)
  have B0 := Lib.hid b0
  have K1 := Lib.hid ((BoxG.new w L S v1 41).keep (below1 _ (.cells #[.int .i64 L', .int .i64 S', v2] 41)))
  have K2 := Lib.hid (BoxG.new (w.alloc (.cells #[.int .i64 L, .int .i64 S, v1] 41)) L' S' v2 41)
  obtain ⟨a1, c1, rfl⟩ := h1.form
  obtain ⟨a2, c2, rfl⟩ := h2.form
  clear h1 h2 b0
  by_cases hL : L = L'
  · subst hL
    by_cases hS : S = S'
    · subst hS
      by_cases hl : es.length = fs.length
      · have HE := Lib.hid (sameG_of (L := L) (S := S) (es := es) (fs := fs))
        obtain ⟨n, hn'⟩ : ∃ n, fs.length = n := ⟨_, rfl⟩
        have HN := Lib.hid hn'
        have HM := Lib.hid (hl.trans hn')
        rw [hn'] at hl hm HB K1 K2 B0 HA ⊢
        rw [hl] at hn HA HB K1 K2 B0 ⊢
        clear hl hn'
        obtain ⟨W0, hW0⟩ : ∃ W0, (w.alloc (.cells #[.int .i64 L, .int .i64 S, .slice a1 n c1] 41)).alloc (.cells #[.int .i64 L, .int .i64 S, .slice a2 n c2] 41) = W0 := ⟨_, rfl⟩
        rw [hW0] at HA HB K1 K2 B0
        rw [World.size_alloc] at K2
        obtain ⟨g1, g2, g3⟩ := id K1.out
        obtain ⟨g4, g5, g6⟩ := id K2.out
        have HW := Lib.hid hW0
        clear hW0
        go_enter Tryd.func23, Tryd.ntmps23
        go_wp2_with fail
        rw [HW.out]
        clear HW
        go_loopg [5] n (fun q s5 wx => ∃ (i nq : Nat), i + q = n ∧ s5 = .int .i64 (i : Int) ∧ wx = W0.drewN nq ∧ Hid (∀ j, j < i → es[j]? = fs[j]?))
        case atStart => exact ⟨0, 0, by omega, rfl, rfl, Lib.hid (fun j hj => by omega)⟩
        case round =>
          obtain ⟨i, nq, hiq, rfl, rfl, HQ⟩ := hrel
          rcases gk with _ | q
          · obtain rfl : i = n := by omega
            have HR := Lib.hid (show decide (es = fs) = true from decide_eq_true (List.ext_getElem? (fun j => by
              rcases Nat.lt_or_ge j i with h | h
              · exact HQ.out j h
              · rw [List.getElem?_eq_none (by have := HM.out; omega), List.getElem?_eq_none (by have := HN.out; omega)])))
            clear HQ
            go_wp2_with fail
            go_ret
            exact ⟨by rw [HE.out, HR.out]; rfl, below_drewM B0.out _⟩
          · obtain ⟨x, hx⟩ : ∃ x, es[i]? = some x := ⟨_, List.getElem?_eq_getElem (by have := HM.out; omega)⟩
            obtain ⟨y, hy⟩ : ∃ y, fs[i]? = some y := ⟨_, List.getElem?_eq_getElem (by have := HN.out; omega)⟩
            have HX := Lib.hid hx
            have HY := Lib.hid hy
            obtain ⟨b, off, c', hv, k1, k2, k3⟩ := HA.out.at hx
            injection hv with e1 e2 e3
            subst e1
            subst e3
            obtain ⟨b', off', c'', hv, k4, k5, k6⟩ := HB.out.at hy
            injection hv with e4 e5 e6
            subst e4
            subst e6
            obtain ⟨x1, x2, x3⟩ := x
            obtain ⟨y1, y2, y3⟩ := y
            dsimp only at k1 k2 k3 k4 k5 k6
            have hgd := fun (op : BinOp) (a b : Operand) (w : World) => neqE.2 op a b (x1, x2, x3) (y1, y2, y3) w
            have heq := fun (w : World) => neqE.1 (x1, x2, x3) (y1, y2, y3) w
            simp only [encE] at hgd heq
            have j1 : (i : Int) < (n : Int) := by omega
            have j1' : i < n := by omega
            clear hx hy e2 e5
            cases hq : eqE (x1, x2, x3) (y1, y2, y3) with
            | true =>
              rw [hq] at heq
              have HQ2 := Lib.hid (show ∀ j, j < i + 1 → es[j]? = fs[j]? from fun j hj => by
                rcases Nat.lt_or_ge j i with h | h
                · exact HQ.out j h
                · obtain rfl : j = i := by omega
                  rw [HX.out, HY.out, eqE_iff.1 hq])
              clear hq HQ HX HY
              go_upto_region 6 with fail
              go_quiet (fail)
              go_wp2_with fail
              go_roundg q
              case measure => omega
              case rel => exact ⟨i + 1, _, by omega, by go_num, rfl, HQ2⟩
            | false =>
              rw [hq] at heq
              have HR := Lib.hid (show decide (es = fs) = false from decide_eq_false (fun h => by
                have h1 := HX.out
                rw [h, HY.out] at h1
                injection h1 with h1
                rw [eqE_iff.2 h1.symm] at hq
                cases hq))
              clear hq HQ HX HY
              go_upto_region 6 with fail
              go_quiet (fail)
              go_wp2_with fail
              go_ret
              exact ⟨by rw [HE.out, HR.out]; rfl, below_drewM (below_drewM B0.out _) _⟩
      · have HE := Lib.hid (show sameG L S es L S fs = false from decide_eq_false (fun h => hl (by rw [h.2.2])))
        have d3 : ((es.length : Int) != (fs.length : Int)) = true := by simp; omega
        have d4 : (es.length != fs.length) = true := by simp; omega
        clear hl
        go_enter Tryd.func23, Tryd.ntmps23
        go_wp2_with fail
        go_ret
        exact ⟨by rw [HE.out]; rfl, B0.out⟩
    · have d2 : (S != S') = true := by simpa using hS
      have HE := Lib.hid (show sameG L S es L S' fs = false from decide_eq_false (fun h => hS h.2.1))
      clear hS
      go_enter Tryd.func23, Tryd.ntmps23
      go_wp2_with fail
      go_ret
      exact ⟨by rw [HE.out]; rfl, B0.out⟩
  · have d1 : (L != L') = true := by simpa using hL
    have HE := Lib.hid (show sameG L S es L' S' fs = false from decide_eq_false (fun h => hL h.1))
    clear hL
    go_enter Tryd.func23, Tryd.ntmps23
    go_wp2_with fail
    go_ret
    exact ⟨by rw [HE.out]; rfl, B0.out⟩
end Go.Proofs.YtkpmapeapiodcaaDoor

namespace Go.Proofs.YtkpmapeapiodcaaDoor
open Go.RowKit Go.Shelf
set_option linter.unusedSimpArgs false
set_option linter.unusedVariables false

def bsW (x : Wd) : ByteArray := ⟨x.toArray⟩
theorem bsW_inj {x y : Wd} (h : bsW x = bsW y) : x = y := by
  have h1 := congrArg (fun b : ByteArray => b.data.toList) h
  simpa [bsW] using h1
theorem bsW_map {l m : List Wd} : l.map bsW = m.map bsW ↔ l = m := by
  constructor
  · intro h
    induction l generalizing m with
    | nil => cases m with
      | nil => rfl
      | cons b m => cases h
    | cons a l ih => cases m with
      | nil => cases h
      | cons b m =>
        rw [List.map_cons, List.map_cons] at h
        injection h with h1 h2
        rw [bsW_inj h1, ih h2]
  · intro h; rw [h]
theorem WdsRd.cells {W : World} {v : Value} {l : List Wd} (h : WdsRd W v l) (h0 : 0 < l.length) : ∃ b off c, v = .slice (some ⟨b, off, none⟩) l.length c ∧ ∀ j, j < (l.map bsW).length → W.cell? ⟨b, off + j, none⟩ = some (.string ((l.map bsW).getD j ByteArray.empty)) := by
  obtain ⟨b, off, c, hv, -⟩ := h.at (List.getElem?_eq_getElem h0)
  refine ⟨b, off, c, hv, fun j hj => ?_⟩
  rw [List.length_map] at hj
  obtain ⟨b2, off2, c2, hv2, k⟩ := h.at (List.getElem?_eq_getElem hj)
  rw [hv] at hv2
  injection hv2 with e1 e2 e3
  injection e1 with e1
  injection e1 with e1 e4
  subst e1
  subst e4
  rw [k, List.getD_eq_getElem?_getD, List.getElem?_map, List.getElem?_eq_getElem hj]
  rfl
set_option maxRecDepth 100000 in
set_option maxHeartbeats 3200000 in
theorem eqW_len (n m : Nat) (a1 a2 : Option Addr) (c d : Nat) (w : World) (hn : n ≤ 100000) (hm : m ≤ 100000) (h : n ≠ m) :
    Calls Tryd.prog 13 #[.slice a1 n c, .slice a2 m d] w fun e w' => e = .returned (.bool false) ∧ w' = w := by
  have hb : ((n : Int) == (m : Int)) = false := by rw [beq_eq_false_iff_ne]; omega
  go_enter Tryd.func13, Tryd.ntmps13
  go_wp2_with fail
  go_ret
  exact ⟨rfl, rfl⟩
theorem eqW_any (l m : List Wd) (v1 v2 : Value) (w : World) (h1 : WdsRd w v1 l) (h2 : WdsRd w v2 m) (hl : l.length ≤ 100000) (hm : m.length ≤ 100000) :
    Calls Tryd.prog 13 #[v1, v2] w fun e w' => e = .returned (.bool (decide (l = m))) ∧ Below w.heap.size w w' := by
  by_cases h : l.length = m.length
  · by_cases h0 : l.length = 0
    · obtain ⟨a1, c1, rfl⟩ := h1.form
      obtain ⟨a2, c2, rfl⟩ := h2.form
      have k := Tryd.slices_Equal_string_empty a1 a2 c1 m.length c2 w (by omega)
      rw [← h, h0] at k ⊢
      refine k.mono ?_
      rintro e w' ⟨rfl, rfl⟩
      have e1 := List.eq_nil_of_length_eq_zero h0
      have e2 := List.eq_nil_of_length_eq_zero (h.symm.trans h0)
      subst e1
      subst e2
      exact ⟨by simp, Below.refl _ _⟩
    · obtain ⟨b1, o1, c1, rfl, k1⟩ := h1.cells (by omega)
      obtain ⟨b2, o2, c2, rfl, k2⟩ := h2.cells (by omega)
      refine (Tryd.slices_Equal_string b1 o1 l.length c1 b2 o2 m.length c2 (l.map bsW) (m.map bsW) w (by rw [List.length_map]; exact Nat.le_refl _) (by rw [List.length_map]; exact Nat.le_refl _) (by omega) (by omega) k1 k2).mono ?_
      rintro e w' ⟨rfl, q, rfl⟩
      refine ⟨?_, below_drewM (Below.refl _ _) q⟩
      rw [List.take_of_length_le (by rw [List.length_map]; exact Nat.le_refl _), List.take_of_length_le (by rw [List.length_map]; exact Nat.le_refl _)]
      rw [show decide (l.map bsW = m.map bsW) = decide (l = m) from decide_eq_decide.2 bsW_map]
  · obtain ⟨a1, c1, rfl⟩ := h1.form
    obtain ⟨a2, c2, rfl⟩ := h2.form
    refine (eqW_len l.length m.length a1 a2 c1 c2 w hl hm h).mono ?_
    rintro e w' ⟨rfl, rfl⟩
    exact ⟨by rw [decide_eq_false (fun e => h (by rw [e]))], Below.refl _ _⟩
/-! ### The words that awake tries -/
theorem wds_lit1 (W : World) (x : Wd) (t : TypeId) : WdsRd (W.alloc (.cells #[.string ⟨x.toArray⟩] t)) (.slice (some ⟨W.heap.size, 0, none⟩) 1 1) [x] := by
  refine ⟨_, _, rfl, fun i y hy => ⟨_, _, rfl, ?_⟩⟩
  cases i with
  | zero =>
    obtain rfl : x = y := by simpa using hy
    have h := cell_one_new W (.string ⟨x.toArray⟩) t 0 _ rfl
    exact h
  | succ i => simp at hy
theorem wds_lit2 (W : World) (x y : Wd) (t : TypeId) : WdsRd (W.alloc (.cells #[.string ⟨x.toArray⟩, .string ⟨y.toArray⟩] t)) (.slice (some ⟨W.heap.size, 0, none⟩) 2 2) [x, y] := by
  refine ⟨_, _, rfl, fun i z hz => ⟨_, _, rfl, ?_⟩⟩
  rcases i with _ | _ | i
  · obtain rfl : x = z := by simpa using hz
    simp [go_sem]
  · obtain rfl : y = z := by simpa using hz
    simp [go_sem]
  · simp at hz
theorem edgesLitF (W : World) (es : List E3) (h0 : 0 < es.length) (hl : es.length ≤ 1000) : EdgesAt (W.alloc (.cells (ecl es).toArray 45)) W.heap.size (.slice (some ⟨W.heap.size, 0, none⟩) es.length es.length) es :=
  ⟨by rw [ecl_len], .inr ⟨W.heap.size, es.length, (ecl es).toArray, rfl, Nat.le_refl _, heap_alloc_new W _, Nat.le_refl _, by unfold maxLen; omega, by rw [List.size_toArray, ecl_len], by
    show (ecl es).take (es.length * 3) = _; rw [← ecl_len, List.take_length]⟩⟩
abbrev gF : List E3 := [(0, 0, 0), (0, 1, 1), (1, 0, 0)]
theorem pre_take {x u : Wd} (hp : x <+: u) (hne : x ≠ u) : ∃ n, n < u.length ∧ x = u.take n := by
  refine ⟨x.length, ?_, List.prefix_iff_eq_take.1 hp⟩
  have h := hp.length_le
  rcases Nat.lt_or_ge x.length u.length with h1 | h1
  · exact h1
  · exact absurd (hp.eq_of_length (by omega)) hne
theorem st11 : StL [[49, 49]] [[], [49]] := by
  refine ⟨by simp [ltW], fun x => ?_⟩
  unfold IsSt
  constructor
  · intro hx
    simp at hx
    rcases hx with rfl | rfl
    · exact .inl rfl
    · exact .inr ⟨[49, 49], by simp, ⟨[49], rfl⟩, by decide, by decide⟩
  · rintro (rfl | ⟨u, hu, hp, hne, -⟩)
    · simp
    · simp at hu
      subst hu
      rcases pre_take hp hne with ⟨n, hn, rfl⟩
      have : n = 0 ∨ n = 1 := by simp at hn; omega
      rcases this with rfl | rfl <;> simp
theorem st01 : StL [[48], [49]] [[]] := by
  refine ⟨List.pairwise_singleton _ _, fun x => ?_⟩
  unfold IsSt
  constructor
  · intro hx
    simp at hx
    exact .inl hx
  · rintro (rfl | ⟨u, hu, hp, hne, -⟩)
    · simp
    · simp at hu
      rcases pre_take hp hne with ⟨n, hn, rfl⟩
      rcases hu with rfl | rfl
      · obtain rfl : n = 0 := by simp at hn; omega
        simp
      · obtain rfl : n = 0 := by simp at hn; omega
        simp
theorem red101 : RedW [[49, 48, 49], [49]] [[49]] := by
  refine ⟨List.pairwise_singleton _ _, fun x => ?_⟩
  constructor
  · intro hx
    simp at hx
    subst hx
    exact ⟨by simp, by decide⟩
  · rintro ⟨hx, hm⟩
    simp at hx
    rcases hx with rfl | rfl
    · exact absurd hm (by decide)
    · simp
theorem essF {f : Nat → Bool} (h : Ess 2 gF f) : mems 2 f = [0, 1] := by
  have hT : Closed 2 gF (fun _ => true) := fun i hi h => by
    have : i = 0 ∨ i = 1 := by omega
    rcases this with rfl | rfl <;> decide
  have h0 := h.most _ hT 0 (by decide) rfl
  have h1 := h.most _ hT 1 (by decide) rfl
  unfold mems
  rw [show List.range 2 = [0, 1] from rfl, List.filter_cons, h0, List.filter_cons, h1]
  rfl
theorem essN {f : Nat → Bool} (h : Ess 1 [] f) : mems 1 f = [] := by
  have h0 : f 0 = false := by
    rw [← h.fix 0 (by decide)]
    rfl
  unfold mems
  rw [show List.range 1 = [0] from rfl, List.filter_cons, h0]
  rfl
theorem edg11 : edgW lt [[49, 49]] [[], [49]] 2 2 = gF := by decide
theorem edg01 : edgW lt [[48], [49]] [[]] 1 2 = [] := by decide
theorem awkF_gr1 (W : World) : Calls Tryd.prog 22 #[.int .i64 2, .slice (some ⟨W.heap.size, 0, none⟩) 1 1] (W.alloc (.cells #[.string ⟨#[49, 49]⟩] 9)) fun e w' => ∃ a c, e = .returned (.tuple #[grV 2 2 (.slice a 3 c), .int .i64 0]) ∧ EdgesRd w' (.slice a 3 c) gF ∧ Below W.heap.size W w' := by
  refine (graph_good 2 [[49, 49]] _ _ (wds_lit1 W [49, 49] 9) (by decide)).mono ?_
  rintro e w' ⟨S, hS, hb, h⟩
  obtain rfl := hS.uniq st11
  rcases h with ⟨h, -⟩ | ⟨-, f, v, hf, rfl, he⟩
  · exact absurd h (by decide)
  · have hf2 : Ess 2 gF f := by rw [← edg11]; exact hf
    have e1 : mems ([[], [49]] : List Wd).length f = [0, 1] := essF hf2
    have e2 : edgW lt [[49, 49]] [[], [49]] ([[], [49]] : List Wd).length 2 = gF := edg11
    rw [e1, e2, show partE [0, 1] gF = gF by decide] at he
    rw [e1]
    obtain ⟨a, c, rfl⟩ := he.slice
    exact ⟨a, c, rfl, he.rd, below_more (below1 W _) (Nat.le_refl _) hb⟩
theorem awkF_gr2 (W : World) : Calls Tryd.prog 22 #[.int .i64 2, .slice (some ⟨W.heap.size, 0, none⟩) 2 2] (W.alloc (.cells #[.string ⟨#[48]⟩, .string ⟨#[49]⟩] 9)) fun e w' => ∃ a n c, e = .returned (.tuple #[grV 2 0 (.slice a n c), .int .i64 0]) ∧ Below W.heap.size W w' := by
  refine (graph_good 2 [[48], [49]] _ _ (wds_lit2 W [48] [49] 9) (by decide)).mono ?_
  rintro e w' ⟨S, hS, hb, h⟩
  obtain rfl := hS.uniq st01
  rcases h with ⟨h, -⟩ | ⟨-, f, v, hf, rfl, he⟩
  · exact absurd h (by decide)
  · have hf2 : Ess 1 [] f := by rw [← edg01]; exact hf
    have e1 : mems ([[]] : List Wd).length f = [] := essN hf2
    rw [e1]
    obtain ⟨a, c, rfl⟩ := he.slice
    exact ⟨a, _, c, rfl, below_more (below1 W _) (Nat.le_refl _) hb⟩
theorem awkF_red (W : World) : Calls Tryd.prog 7 #[.int .i64 2, .slice (some ⟨W.heap.size, 0, none⟩) 2 2] (W.alloc (.cells #[.string ⟨#[49, 48, 49]⟩, .string ⟨#[49]⟩] 9)) fun e w' => ∃ a c, e = .returned (.tuple #[.slice a 1 c, .int .i64 0]) ∧ WdsRd w' (.slice a 1 c) [[49]] ∧ Below W.heap.size W w' := by
  refine (reduce_yes 2 [[49, 48, 49], [49]] _ _ (wds_lit2 W [49, 48, 49] [49] 9) (by decide)).mono ?_
  rintro e w' ⟨u, r, rfl, hu, hr, hb⟩
  obtain rfl := hr.uniq red101
  obtain ⟨a, c, rfl⟩ := hu.slice
  exact ⟨a, c, rfl, hu.rd, below_more (below1 W _) (Nat.le_refl _) hb⟩
theorem awkF_same (W : World) (v1 v2 : Value) (h1 : EdgesRd W v1 gF) (h2 : EdgesRd W v2 gF) : Calls Tryd.prog 23 #[grV 2 2 v1, grV 2 2 v2] W fun e w' => e = .returned (.bool true) ∧ Below W.heap.size W w' := by
  have k := rsame_any 2 2 2 2 gF gF v1 v2 W h1 h2 (by decide) (by decide)
  rw [show sameG 2 2 gF 2 2 gF = true by decide] at k
  exact k
theorem awkF_eq (W : World) (v1 : Value) (h1 : WdsRd W v1 [[49]]) : Calls Tryd.prog 13 #[v1, .slice (some ⟨W.heap.size, 0, none⟩) 1 1] (W.alloc (.cells #[.string ⟨#[49]⟩] 9)) fun e w' => e = .returned (.bool true) ∧ Below W.heap.size W w' := by
  refine (eqW_any [[49]] [[49]] v1 _ _ (h1.keep (below1 W _)) (wds_lit1 W [49] 9) (by decide) (by decide)).mono ?_
  rintro e w' ⟨rfl, hb⟩
  exact ⟨rfl, below_more (below1 W _) (Nat.le_refl _) hb⟩
set_option maxRecDepth 100000 in
set_option maxHeartbeats 6400000 in
theorem awakeF_any (w : World) : Calls Tryd.prog 6 #[] w fun e w' => e = .returned (.bool true) ∧ Below w.heap.size w w' := by
  go_enter Tryd.func6, Tryd.ntmps6
  go_upto_region 2 with (go_at_call 22; (with_reducible refine (awkF_gr1 _).mono ?_); rintro e1 W1 ⟨a1, c1, rfl, i1, b1⟩)
  have X1 := Lib.hid (BoxG.new W1 2 2 (.slice a1 3 c1) 41)
  have I1 := Lib.hid (i1.keep (below1 W1 (.cells #[.int .i64 2, .int .i64 2, .slice a1 3 c1] 41)))
  have B1 := Lib.hid (below_more b1 (Nat.le_refl _) (below1 W1 (.cells #[.int .i64 2, .int .i64 2, .slice a1 3 c1] 41)))
  clear i1 b1
  obtain ⟨p1, hp1⟩ : ∃ p1, W1.heap.size = p1 := ⟨_, rfl⟩
  rw [hp1] at X1 ⊢
  clear hp1
  generalize W1.alloc (.cells #[.int .i64 2, .int .i64 2, .slice a1 3 c1] 41) = Y1 at *
  go_upto_region 4 with (first
    | (go_at_call 7; (with_reducible refine (awkF_red _).mono ?_); rintro e2 W2 ⟨a2, c2, rfl, i2, b2⟩; (have X2 := Lib.hid (X1.out.keep b2)); (have I2 := Lib.hid (I1.out.keep b2)); (have R2 := Lib.hid i2); (have B2 := Lib.hid (below_more B1.out (Nat.le_refl _) b2)); clear i2 b2)
    | (go_at_call 22; (with_reducible refine (awkF_gr2 _).mono ?_); rintro e3 W3 ⟨a3, n3, c3, rfl, b3⟩; (have X3 := Lib.hid (X2.out.keep b3)); (have I3 := Lib.hid (I2.out.keep b3)); (have R3 := Lib.hid (R2.out.keep b3)); (have B3 := Lib.hid (below_more B2.out (Nat.le_refl _) b3)); clear b3))
  have b4 := below1 W3 (.cells #[.int .i64 2, .int .i64 0, .slice a3 n3 c3] 41)
  have X4 := Lib.hid (X3.out.keep b4)
  have Z4 := Lib.hid (BoxG.new W3 2 0 (.slice a3 n3 c3) 41)
  have I4 := Lib.hid (I3.out.keep b4)
  have R4 := Lib.hid (R3.out.keep b4)
  have B4 := Lib.hid (below_more B3.out (Nat.le_refl _) b4)
  clear b4 X1 X2 X3 I1 I2 I3 R2 R3 B1 B2 B3
  obtain ⟨p3, hp3⟩ : ∃ p3, W3.heap.size = p3 := ⟨_, rfl⟩
  rw [hp3] at Z4 ⊢
  clear hp3
  generalize W3.alloc (.cells #[.int .i64 2, .int .i64 0, .slice a3 n3 c3] 41) = Y4 at *
  go_upto_region 5 with fail
  have L5 := Lib.hid (EdgesAt.rd (show EdgesAt (Y4.alloc (.cells #[.int .i64 0, .int .i64 0, .int .i64 0, .int .i64 0, .int .i64 1, .int .i64 1, .int .i64 1, .int .i64 0, .int .i64 0] 45)) Y4.heap.size (.slice (some ⟨Y4.heap.size, 0, none⟩) 3 3) gF from edgesLitF Y4 gF (by decide) (by decide)))
  have b5 := below1 Y4 (.cells #[.int .i64 0, .int .i64 0, .int .i64 0, .int .i64 0, .int .i64 1, .int .i64 1, .int .i64 1, .int .i64 0, .int .i64 0] 45)
  have s5 := World.size_alloc Y4 (.cells #[.int .i64 0, .int .i64 0, .int .i64 0, .int .i64 0, .int .i64 1, .int .i64 1, .int .i64 1, .int .i64 0, .int .i64 0] 45)
  obtain ⟨g5, hg5⟩ : ∃ g5, Y4.heap.size = g5 := ⟨_, rfl⟩
  have X5 := Lib.hid (X4.out.keep b5)
  have Z5 := Lib.hid (Z4.out.keep b5)
  have I5 := Lib.hid (I4.out.keep b5)
  have R5 := Lib.hid (R4.out.keep b5)
  have B5 := Lib.hid (below_more B4.out (Nat.le_refl _) b5)
  rw [hg5] at L5 s5 ⊢
  clear b5 X4 Z4 I4 R4 B4 hg5
  generalize (Y4.alloc (.cells #[.int .i64 0, .int .i64 0, .int .i64 0, .int .i64 0, .int .i64 1, .int .i64 1, .int .i64 1, .int .i64 0, .int .i64 0] 45)) = Y5 at *
  have b6 := below1 Y5 (.cells #[.int .i64 2, .int .i64 2, .slice (some ⟨g5, 0, none⟩) 3 3] 41)
  have N6 := Lib.hid (BoxG.new Y5 2 2 (.slice (some ⟨g5, 0, none⟩) 3 3) 41)
  rw [s5] at N6
  have X6 := Lib.hid (X5.out.keep b6)
  have Z6 := Lib.hid (Z5.out.keep b6)
  have I6 := Lib.hid (I5.out.keep b6)
  have L6 := Lib.hid (L5.out.keep b6)
  have R6 := Lib.hid (R5.out.keep b6)
  have B6 := Lib.hid (below_more B5.out (Nat.le_refl _) b6)
  clear b6 X5 Z5 I5 R5 B5 L5 s5
  generalize (Y5.alloc (.cells #[.int .i64 2, .int .i64 2, .slice (some ⟨g5, 0, none⟩) 3 3] 41)) = Y6 at *
  obtain ⟨x1, x2, x3⟩ := id X6.out
  obtain ⟨n1, n2, n3⟩ := id N6.out
  go_wp2_with (first
    | (go_at_call 23; (with_reducible refine (awkF_same _ _ _ I6.out L6.out).mono ?_); rintro e7 W7 ⟨rfl, b7⟩; (have R7 := Lib.hid (R6.out.keep b7)); (have Z7 := Lib.hid (Z6.out.keep b7)); (have B7 := Lib.hid (below_more B6.out (Nat.le_refl _) b7)); clear b7 x1 x2 x3 n1 n2 n3)
    | (go_at_call 13; (with_reducible refine (awkF_eq _ _ R7.out).mono ?_); rintro e8 W8 ⟨rfl, b8⟩; (have Z8 := Lib.hid (Z7.out.keep b8)); (have B8 := Lib.hid (below_more B7.out (Nat.le_refl _) b8)); (obtain ⟨z1, z2, z3⟩ := id Z8.out); clear b8))
  go_ret
  exact ⟨rfl, B8.out⟩
end Go.Proofs.YtkpmapeapiodcaaDoor
