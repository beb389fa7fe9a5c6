/- A map from words to their places; what forbidden.longestSuffix returns: the place of the longest suffix that is a state. Conditions: the words are different, the empty one is among them; the lengths are those of strings. What forbidden.Graph returns. Conditions: the words can be read, are at most 10^5, and have lengths of strings. What grooveref09.Same returns. Condition: at most a million edges each. -/
import Derived.Test.YtkpmapeapiodcaaDoorQ13
import Derived.Test.YtkpmapeapiodcaaDoorQ12
import Derived.BigQuiet

namespace Go.Proofs.YtkpmapeapiodcaaDoor
open Go.RowKit Go.Maps
set_option linter.unusedSimpArgs false
set_option linter.unusedVariables false

def stpT (p : MapS × Nat) (x : Wd) : MapS × Nat := (p.1.put (.string x) (.lit (.int .i64 (p.2 : Int))), p.2 + 1)
def mapT (l : List Wd) : MapS := (l.foldl stpT (.map [], 0)).1
theorem mapT_len : ∀ (l : List Wd) (p : MapS × Nat), (l.foldl stpT p).2 = p.2 + l.length
  | [], p => rfl
  | x :: r, p => by rw [List.foldl_cons, mapT_len r, List.length_cons]; show p.2 + 1 + r.length = _; omega
theorem mapT_snoc (l : List Wd) (x : Wd) : mapT (l ++ [x]) = (mapT l).put (.string x) (.lit (.int .i64 ((l.length : Nat) : Int))) := by
  unfold mapT
  rw [List.foldl_append]
  show ((l.foldl stpT (.map [], 0)).1.put _ _) = _
  rw [mapT_len l (.map [], 0), Nat.zero_add]
theorem mapT_is : ∀ (l : List Wd), IsMap (mapT l) :=
  snocS isMap_empty (fun l x ih => by rw [mapT_snoc]; exact ih.put _ _)
theorem mapT_has (x : Wd) : ∀ (l : List Wd), Maps.has (mapT l) (.string x) = decide (x ∈ l) :=
  snocS (by simp [mapT, Maps.has]) (fun l y ih => by
    rw [mapT_snoc]
    by_cases h : x = y
    · subst h
      rw [has_put_same (mapT_is l) (keyS_key _)]; simp
    · rw [has_put_other (keyS_ne h), ih]; simp [h])
theorem mapT_at (x : Wd) (z : MapS) : ∀ (l : List Wd), l.Nodup → x ∈ l → (mapT l).atKey (.string x) z = .lit (.int .i64 ((l.idxOf x : Nat) : Int)) :=
  snocS (fun _ h => by cases h) (fun l y ih hn h => by
    rw [mapT_snoc]
    rw [List.nodup_append] at hn
    by_cases e : x = y
    · subst e
      have hx : x ∉ l := fun h2 => hn.2.2 x h2 x (by simp) rfl
      rw [atKey_put_same (mapT_is l) (keyS_key _), List.idxOf_append, if_neg hx]; simp
    · have hl : x ∈ l := by
        rw [List.mem_append, List.mem_singleton] at h
        exact h.resolve_right e
      rw [atKey_put_other (keyS_ne e), ih hn.1 hl, List.idxOf_append, if_pos hl])
theorem Tryd.zeroIF (w : World) : (zeroValue 3).run Tryd.prog w = .ok (.int .i64 0) w := by kernel_rfl
set_option maxRecDepth 100000 in
theorem tail_of (c : UInt8) (r : Wd) (w : World) : (Instr.slice 9 (.string ⟨(c :: r).toArray⟩) (some (.int .i64 1)) none none).run Tryd.prog w = .ok (.string ⟨r.toArray⟩) w := by
  rw [run_slice_string_l w 9 ⟨(c :: r).toArray⟩ Tryd.underlying9 .i64 1 (by omega) (by simp [ByteArray.size]; omega)]
  simp [ByteArray.extract_mk, ByteArray.size]
set_option maxRecDepth 100000 in
set_option maxHeartbeats 6400000 in
theorem suffix_any (S : List Wd) (x : Wd) (b k : Nat) (w : World) (hn : [] ∈ S) (hd : S.Nodup) (hm : w.ownsMap Tryd.prog 9 (plainElem Tryd.prog 3) b k (mapT S)) (hx : x.length ≤ 100000) :
    Calls Tryd.prog 43 #[.map (some b), .string ⟨x.toArray⟩] w fun e w' => e = .returned (.int .i64 ((S.idxOf (sufW S x) : Nat) : Int)) ∧ w' = w := by
  have HD := Lib.hid hd
  have HN := Lib.hid hn
  obtain ⟨R, hR⟩ : ∃ R, S.idxOf (sufW S x) = R := ⟨_, rfl⟩
  have H0 := Lib.hid hR
  rw [hR]
  obtain ⟨L, hL⟩ : ∃ L, x.length = L := ⟨_, rfl⟩
  have H1 := Lib.hid hL
  rw [hL] at hx
  clear hd hn hR hL
  go_enter Tryd.func43, Tryd.ntmps43
  go_wp2_with fail
  go_loopg [1, 5, 6, 7] L (fun q s1 s5 s6 s7 wx => ∃ y : Wd, s1 = .string ⟨y.toArray⟩ ∧ Hid (y.length = q) ∧ Hid (y.length ≤ L) ∧ Hid (S.idxOf (sufW S y) = R) ∧ wx = w)
  case atStart => exact ⟨x, rfl, H1, Lib.hid (Nat.le_of_eq H1.out), H0, rfl⟩
  case round =>
    clear H0 H1
    obtain ⟨y, rfl, HL, HLe, HR, rfl⟩ := hrel
    obtain ⟨q, rfl⟩ : ∃ q, q = gk := ⟨_, rfl⟩
    have hyl : y.length ≤ 100000 := Nat.le_trans HLe.out hx
    have hkey := keyS_of (x := y) (by omega)
    have hhas := mapT_has y S
    by_cases hin : y ∈ S
    · rw [decide_eq_true hin] at hhas
      have HAT := Lib.hid (fun z => mapT_at y z S HD.out hin)
      have HE := Lib.hid (show S.idxOf y = R by
        have h := HR.out
        cases y with
        | nil => unfold sufW at h; exact h
        | cons c r => unfold sufW at h; rw [if_pos hin] at h; exact h)
      clear hin hyl
      go_wp2_with (at_lookup; refine wpList_lookup_own_ok_int _ rfl _ _ 60 rfl 9 3 .i64 Tryd.keyedS Tryd.underlying60 Tryd.underlying3 (Tryd.zeroIF _) b k (mapT S) rfl hm _ _ rfl hkey ?_; intro z hat hwz; rw [hhas])
      go_ret
      have hz := hat.symm.trans (HAT.out _)
      injection hz with hz
      injection hz with _ hz
      exact ⟨by rw [hz, HE.out]; rfl, rfl⟩
    · rw [decide_eq_false hin] at hhas
      cases y with
      | nil => exact absurd HN.out hin
      | cons c r =>
        have HE := Lib.hid (show S.idxOf (sufW S r) = R by
          have h := HR.out
          unfold sufW at h
          rw [if_neg hin] at h
          exact h)
        have hl9 := HL.out
        rw [List.length_cons] at hl9
        obtain ⟨q, rfl⟩ : ∃ q', q = q' + 1 := ⟨q - 1, by omega⟩
        have HRL := Lib.hid (show r.length = q by omega)
        have HRE := Lib.hid (show r.length ≤ L by have := HLe.out; rw [List.length_cons] at this; omega)
        have htl := fun W => tail_of c r W
        obtain ⟨B, hB⟩ : ∃ B : ByteArray, (⟨(c :: r).toArray⟩ : ByteArray) = B := ⟨_, rfl⟩
        rw [hB] at htl hkey ⊢
        clear hin hyl hl9 hB
        go_wp2_with (at_lookup; refine wpList_lookup_own_ok_int _ rfl _ _ 60 rfl 9 3 .i64 Tryd.keyedS Tryd.underlying60 Tryd.underlying3 (Tryd.zeroIF _) b k (mapT S) rfl hm _ _ rfl hkey ?_; intro z hat hwz; rw [hhas])
        go_roundg q
        case measure => omega
        case rel => exact ⟨r, rfl, HRL, HRE, HE, rfl⟩
end Go.Proofs.YtkpmapeapiodcaaDoor

namespace Go.Proofs.YtkpmapeapiodcaaDoor
open Go.RowKit Go.Maps
set_option linter.unusedSimpArgs false
set_option linter.unusedVariables false

theorem letF (j : Nat) (h : j < 16) (w : World) : (Instr.slice 9 (.string ⟨#[48, 49, 50, 51, 52, 53, 54, 55, 56, 57, 97, 98, 99, 100, 101, 102]⟩) (some (.int .i64 (j : Int))) (some (.int .i64 ((j : Int) + 1))) none).run Tryd.prog w = .ok (.string ⟨[lt j].toArray⟩) w := by
  have h1 : j < lets.length := by show j < 16; exact h
  have h2 := cutF (x := lets) rfl j 1 (by show j + 1 ≤ 16; omega) w
  rw [List.drop_eq_getElem_cons h1, List.take_succ_cons, List.take_zero, ← lt_at h1] at h2
  exact h2
def KR (w W : World) : Prop := BoxF W w.heap.size 0 0 (.slice none 0 0) ∧ Below w.heap.size w W ∧ w.heap.size + 1 ≤ W.heap.size
theorem KR.start (w : World) (t : TypeId) : KR w (w.alloc (.cells #[.int .i64 0, .int .i64 0, .slice none 0 0] t)) := ⟨BoxF.new w 0 0 _ t, below1 w _, by rw [World.size_alloc]; exact Nat.le_refl _⟩
theorem KR.keep {w W W' : World} (h : KR w W) (hb : Below W.heap.size W W') : KR w W' := ⟨h.1.keep hb, h.2.1.trans (hb.mono h.2.1.size), Nat.le_trans h.2.2 hb.size⟩
theorem KR.bel {w W : World} (h : KR w W) : Below w.heap.size w W := h.2.1
structure GI (W0 : World) (q n : Nat) (v : Value) (es : List E3) (W : World) : Prop where
  b : Below W0.heap.size W0 W
  o : BoxF W W0.heap.size (q : Int) (n : Int) v
  e : EdgesAt W (W0.heap.size + 1) v es
section
variable {W0 W W' W4 : World} {q n : Nat} {v s s' : Value} {es es' : List E3}
theorem GI.start (W0 : World) (q n : Nat) (t : TypeId) : GI W0 q n (.slice none 0 0) [] (W0.alloc (.cells #[.int .i64 (q : Int), .int .i64 (n : Int), .slice none 0 0] t)) := ⟨below1 W0 _, BoxF.new W0 _ _ _ t, edges_nil _ _⟩
theorem GI.keep (h : GI W0 q n v es W) (hb : Below W.heap.size W W') : GI W0 q n v es W' := ⟨h.b.trans (hb.mono h.b.size), h.o.keep hb, h.e.keep hb⟩
theorem GI.app (T : GI W0 q n s es W) (o : Obj) (r2 : (W.alloc o).grownBy W4 s.ownBlock) (r1 : EdgesAt W4 (W0.heap.size + 1) s' es') :
    GI W0 q n s' es' (W4.setCell ⟨W0.heap.size, 2, none⟩ s') ∧ W4.cell? ⟨W0.heap.size, 2, none⟩ = some s ∧ W4.frozen? ⟨W0.heap.size, 2, none⟩ = false := by
  have hlt := World.ownsRow.lt T.e
  have hpb := T.o.lt
  have hk : W4.heap[W0.heap.size]? = W.heap[W0.heap.size]? := (r2.block _ (by rw [World.size_alloc]; omega) (fun e => by have := (hlt _ e.symm).1; omega)).trans (Below.heap_alloc _ _ _ (by omega))
  have b4 : Below W0.heap.size W0 W4 := (T.b.alloc T.b.size o).grown r2 (by rw [World.size_alloc]; have := T.b.size; omega) (fun k e => by have := (hlt k e).1; omega)
  have o4 := T.o.of_block hk
  exact ⟨⟨b4.setCell (by exact Nat.le_refl _) _, o4.set2 _, ownsRow_setCell_below r1 (by exact Nat.lt_succ_self _) _⟩, o4.1.2.2, o4.2.2.2⟩
theorem GI.app' {a9 : Option Addr} {m c9 g9 d9 : Nat} {x y z : Int} {o : Obj} (T : GI W0 q n (.slice a9 m c9) es W.drew) (hm : es.length = m) (r2 : ((W.drew).alloc o).grownBy W4 (Value.slice a9 m c9).ownBlock)
    (r1 : W4.ownsRow (W0.heap.size + 1) 45 3 (.slice (some ⟨g9, 0, none⟩) (m + 1) d9) (m + 1) (ecl es ++ [.int .i64 x, .int .i64 y, .int .i64 z])) :
    GI W0 q n (.slice (some ⟨g9, 0, none⟩) (m + 1) d9) (es ++ [(x, y, z)]) (W4.setCell ⟨W0.heap.size, 2, none⟩ (.slice (some ⟨g9, 0, none⟩) (m + 1) d9)) ∧ W4.cell? ⟨W0.heap.size, 2, none⟩ = some (.slice a9 m c9) ∧ W4.frozen? ⟨W0.heap.size, 2, none⟩ = false :=
  T.app o r2 (by unfold EdgesAt; rw [ecl_snoc, List.length_append, hm]; exact r1)
theorem GI.drew (h : GI W0 q n v es W) : GI W0 q n v es W.drew := ⟨h.b.drew, h.o, h.e⟩
end
def SG9 (p : Nat) (v : Value) (W : World) : Prop := W.cell? ⟨p, 2, none⟩ = some v
theorem SG9.keep {p : Nat} {v : Value} {W W' : World} (h : SG9 p v W) (hb : Below W.heap.size W W') : SG9 p v W' := cell_keep h hb
theorem GV.new {l : List Wd} {W : World} {b k : Nat} (h : W.ownsMap Tryd.prog 9 (plainElem Tryd.prog 4) b k (mapS l)) (t1 t2 : TypeId) :
    GV l W.heap.size ((W.alloc (.cells #[.map (some b)] t1)).alloc (.cells #[.int .i64 (longW l : Int)] t2)) := by
  have h1 := cell_one_new W (.map (some b)) t1 0 _ rfl
  have b1 := below1 W (.cells #[.map (some b)] t1)
  have s1 := World.size_alloc W (.cells #[.map (some b)] t1)
  have m1 := h.kept (grown_none b1) (by simp)
  generalize W.alloc (.cells #[.map (some b)] t1) = W1 at *
  have h2 := cell_one_new W1 (.int .i64 (longW l : Int)) t2 0 _ rfl
  have b2 := below1 W1 (.cells #[.int .i64 (longW l : Int)] t2)
  refine ⟨⟨b, k, cell_keep h1 b2, m1.kept (grown_none b2) (by simp)⟩, ?_⟩
  rw [← s1]
  exact h2
theorem st_len {l S : List Wd} (h : StL l S) (hl : ∀ u ∈ l, u.length ≤ 32) {x : Wd} (hx : x ∈ S) : x.length ≤ 32 := by
  rcases (h.2 x).1 hx with e | ⟨u, hu, h1, -, -⟩
  · rw [e]; exact Nat.zero_le _
  · exact Nat.le_trans h1.length_le (hl u hu)
theorem StL.nodup {l S : List Wd} (h : StL l S) : S.Nodup := h.1.imp (fun {a b} hab e => by subst e; exact ltW_irr _ hab)
theorem mapT_take {S : List Wd} {i : Nat} {x : Wd} (h : S[i]? = some x) : mapT (S.take (i + 1)) = (mapT (S.take i)).put (.string x) (.lit (.int .i64 (i : Int))) := by
  have hi : i < S.length := (List.getElem?_eq_some_iff.1 h).1
  rw [List.take_add_one, h, Option.toList_some, mapT_snoc, List.length_take, Nat.min_eq_left (by omega)]
theorem wfF {x : Nat} (h : x ≤ 100000) : (Lit.int .i64 (x : Int)).wf = true := by
  refine WalkArith.wf_i64 ?_
  omega
def GrOut (q : Nat) (l : List Wd) (w : World) (e : Ending) (w' : World) : Prop :=
  ∃ S, StL l S ∧ Below w.heap.size w w' ∧ ((64 < S.length ∧ e = .returned (.tuple #[grV 0 0 (.slice none 0 0), .int .i64 4])) ∨
    (S.length ≤ 64 ∧ ∃ f v, Ess S.length (edgW lt l S S.length q) f ∧ e = .returned (.tuple #[grV (q : Int) ((mems S.length f).length : Int) v, .int .i64 0]) ∧ EdgesAt w' w.heap.size v (partE (mems S.length f) (edgW lt l S S.length q))))
set_option maxRecDepth 100000 in
set_option maxHeartbeats 25600000 in
theorem graph_good (q : Nat) (l : List Wd) (v : Value) (w : World) (hrd : WdsRd w v l) (hc : clW (q : Int) true l = 0) :
    Calls Tryd.prog 22 #[.int .i64 (q : Int), v] w (GrOut q l w) := by
  obtain ⟨i0, hi, hz0, hz1, hz2⟩ := info_parts Tryd.infoEdge
  have hmx : Tryd.prog.follows .mixedOrders = true := by kernel_rfl
  have hmm := @run_makeMap Tryd.prog
  obtain ⟨hq, hl64, hxs, -⟩ := clW_ok hc
  have hls : ∀ x ∈ l, x.length ≤ 9223372036854775807 := fun x hx => by have := (hxs x hx).2; omega
  have K0 := Lib.hid (KR.start w 41)
  have HRD := Lib.hid hrd
  have HXS := Lib.hid hxs
  have HC := Lib.hid (checkF_any (q : Int) l v _ (hrd.keep (below1 w (.cells #[.int .i64 0, .int .i64 0, .slice none 0 0] 41))) (by omega) hls)
  rw [hc] at HC
  have HS := Lib.hid (fun W h => setOf_any l v W h (by omega) hls)
  have HL := Lib.hid (fun W h => longest_any l v W h (by omega))
  have HP := Lib.hid (fun W p h hg => prefixes_any l v p W h hl64 hxs hg)
  have HAL := Lib.hid (fun x p W (h : GV l p W) hx => allow1_any l x p W hxs h hx)
  have hq1 : 1 ≤ q := by omega
  have hq2 : q ≤ 16 := by omega
  obtain ⟨a, c, rfl⟩ := hrd.form
  clear hrd hc hls hxs hq
  go_enter Tryd.func22, Tryd.ntmps22
  go_upto_region 4 with (first
    | (go_at_call 11; (with_reducible refine HC.out.mono ?_); rintro e W1 ⟨rfl, b1⟩; (have K1 := Lib.hid (K0.out.keep b1)); clear b1)
    | (go_at_call 25; (with_reducible refine (HS.out _ (HRD.out.keep K1.out.bel)).mono ?_); rintro e W2 ⟨rfl, m2, b2⟩; (have M2 := Lib.hid m2); (have K2 := Lib.hid (K1.out.keep b2)); clear m2 b2)
    | (go_at_call 14; (with_reducible refine (HL.out _ (HRD.out.keep K2.out.bel)).mono ?_); rintro e W3 ⟨rfl, hw⟩; (try subst hw)))
  have G4 := Lib.hid (GV.new M2.out 48 3)
  have K4 := Lib.hid (K2.out.keep (below_more (below1 W3 (.cells #[.map (some W1.heap.size)] 48)) (Nat.le_refl _) (below1 (W3.alloc (.cells #[.map (some W1.heap.size)] 48)) (.cells #[.int .i64 (longW l : Int)] 3))))
  obtain ⟨p, hp⟩ : ∃ p, W3.heap.size = p := ⟨_, rfl⟩
  rw [hp] at G4 ⊢
  clear hp M2 K2 K1 K0 HC HS HL
  generalize ((W3.alloc (.cells #[.map (some W1.heap.size)] 48)).alloc (.cells #[.int .i64 (longW l : Int)] 3)) = X4 at *
  go_upto_region 6 with (go_at_call 42; (with_reducible refine (HP.out _ _ (HRD.out.keep K4.out.bel) G4.out).mono ?_); rintro e W5 ⟨u, S, rfl, i5, hst, hsl, b5⟩; (have I5 := Lib.hid i5); (have K5 := Lib.hid (K4.out.keep b5)); (have G5 := Lib.hid (G4.out.keep b5)); (have HST := Lib.hid hst); clear i5 b5 hst)
  clear K4 G4 HP X4
  obtain ⟨a2, c2, rfl⟩ := I5.out.form
  obtain ⟨n, hn⟩ : ∃ n, S.length = n := ⟨_, rfl⟩
  have HN := Lib.hid hn
  rw [hn] at hsl I5 ⊢
  clear hn
  by_cases h64 : n ≤ 64
  · have j0 : ¬ ((64 : Int) < (n : Int)) := by omega
    have M6 := Lib.hid (World.ownsMap_made (H := Unit) W5 Tryd.prog 9 (plainElem Tryd.prog 3))
    have B6 := Lib.hid (below1 W5 (.map #[] 0))
    obtain ⟨R, hR⟩ : ∃ R, W5.heap.size = R := ⟨_, rfl⟩
    have HR := Lib.hid hR
    rw [hR] at M6
    go_upto_region 9 with fail
    clear hmm hR
    generalize (W5.alloc (.map #[] 0)) = X6 at *
    go_wp2_with fail
    go_loopg [11, 12, 41] n (fun g s11 s12 s41 wx => ∃ i : Nat, i + g = n ∧ s41 = .int .i64 (i : Int) ∧ Hid (wx.ownsMap Tryd.prog 9 (plainElem Tryd.prog 3) R i (mapT (S.take i))) ∧ Hid (Below W5.heap.size W5 wx))
    case atStart => exact ⟨0, by omega, rfl, M6, B6⟩
    case round =>
      clear M6 B6
      obtain ⟨i, hin, rfl, HM, HB⟩ := hrel
      rcases gk with _ | g
      · obtain rfl : i = n := by omega
        have j2 : ¬ ((i : Int) < (i : Int)) := by omega
        have M7 := Lib.hid (show wr.ownsMap Tryd.prog 9 (plainElem Tryd.prog 3) R i (mapT S) by have := HM.out; rwa [← HN.out, List.take_length, HN.out] at this)
        have K7 := Lib.hid (K5.out.keep HB.out)
        have G7 := Lib.hid (G5.out.keep HB.out)
        have I7 := Lib.hid (WdsRd.keep (l := S) (by rw [HN.out]; exact I5.out : WdsRd W5 (.slice a2 S.length c2) S) HB.out)
        clear HM HB I5 K5 G5
        obtain ⟨n, rfl⟩ : ∃ n, n = i := ⟨_, rfl⟩
        obtain ⟨W0, rfl⟩ : ∃ W0, W0 = wr := ⟨_, rfl⟩
        have T0 := Lib.hid (GI.start W0 q n 41)
        go_upto_region 15 with fail
        generalize (W0.alloc (.cells #[.int .i64 (q : Int), .int .i64 (n : Int), .slice none 0 0] 41)) = X7 at *
        go_wp2_with fail
        go_loopg [14, 15, 16, 17, 56] n (fun g s14 s15 s16 s17 s56 wx => ∃ i : Nat, i + g = n ∧ s56 = .int .i64 (i : Int) ∧ ∃ v, Hid (GI W0 q n v (edgW lt l S i q) wx))
        case atStart => exact ⟨0, by omega, rfl, _, T0⟩
        case round =>
          clear T0
          obtain ⟨i, hin, rfl, v, HT⟩ := hrel
          obtain ⟨X, rfl⟩ : ∃ X, X = wr := ⟨_, rfl⟩
          rcases gk with _ | g
          · obtain rfl : i = n := by omega
            have j3 : ¬ ((i : Int) < (i : Int)) := by omega
            have HVG := Lib.hid (show VG (q : Int) (i : Int) (edgW lt l S i q) by have h := edgW_vg (lt := lt) (l := l) HST.out.nil hq1 hq2 (by rw [HN.out]; exact h64); rw [HN.out] at h; exact h)
            obtain ⟨es, hes⟩ : ∃ es, edgW lt l S i q = es := ⟨_, rfl⟩
            have HES := Lib.hid hes
            rw [hes] at HT HVG
            have K8 := Lib.hid (K7.out.keep HT.out.b)
            have HE := Lib.hid (essential_good (q : Int) i es v X HT.out.e.rd HVG.out)
            obtain ⟨⟨g1, g2, g3⟩, -, -, -⟩ := id HT.out.o
            obtain ⟨a9, c9, rfl⟩ := HT.out.e.slice
            have hlt : w.heap.size < X.heap.size := by have h1 := HT.out.o.lt; have h2 := K7.out.2.2; omega
            clear hes M7 G7 I7 K7
            go_upto_region 27 with (go_at_call 44; (with_reducible refine HE.out.mono ?_); rintro e W9 ⟨f, v9, u9, hf, rfl, e9, i9, b9⟩; (obtain ⟨a10, c10, rfl⟩ := e9.slice); (obtain ⟨a11, c11, rfl⟩ := i9.slice); (have HF := Lib.hid hf); (have E9 := Lib.hid e9); (have K9 := Lib.hid (K8.out.keep b9)); clear hf e9 i9 b9)
            obtain ⟨y, hy⟩ : ∃ y, (mems i f).length = y := ⟨_, rfl⟩
            have HY := Lib.hid hy
            rw [hy]
            clear hy
            have G9 := Lib.hid (BoxG.new W9 (q : Int) (y : Int) (.slice a10 (partE (mems i f) es).length c10) 41)
            have b10 := below1 W9 (.cells #[.int .i64 (q : Int), .int .i64 (y : Int), (.slice a10 (partE (mems i f) es).length c10)] 41)
            have K10 := Lib.hid (K9.out.keep b10)
            have E10 := Lib.hid (E9.out.keep b10)
            obtain ⟨P, hP⟩ : ∃ P, W9.heap.size = P := ⟨_, rfl⟩
            rw [hP] at G9 ⊢
            clear b10 hP K9 E9 K8
            generalize (W9.alloc (.cells #[.int .i64 (q : Int), .int .i64 (y : Int), (.slice a10 (partE (mems i f) es).length c10)] 41)) = X10 at *
            obtain ⟨x1, x2, x3⟩ := id G9.out
            obtain ⟨⟨⟨r1, r2, r3⟩, r4, r5, r6⟩, -, -⟩ := id K10.out
            go_wp2_with fail
            exact bodyPost_ret (v := .tuple #[grV (q : Int) (y : Int) (.slice a10 (partE (mems i f) es).length c10), .int .i64 0]) (by simp [results, Tryd.results22, go_sem, r1, r2, r3]) rfl
              ⟨S, HST.out, below_over K10.out.bel (Nat.le_refl _) _ _ _, .inr ⟨by rw [HN.out]; exact h64, f, _, by rw [HN.out, HES.out]; exact HF.out, by rw [HN.out, HY.out], by
                rw [HN.out, HES.out]
                exact edges_over E10.out hlt _ _ _ (Nat.le_of_lt hlt)⟩⟩
          · obtain ⟨x, hxx⟩ : ∃ x, S[i]? = some x := ⟨_, List.getElem?_eq_getElem (by rw [HN.out]; omega)⟩
            have hx32 : x.length ≤ 32 := st_len HST.out (fun u hu => (HXS.out u hu).2) (List.mem_of_getElem? hxx)
            have HXX := Lib.hid (show S.getD i [] = x by rw [List.getD_eq_getElem?_getD, hxx]; rfl)
            have hI := I7.out.keep HT.out.b
            obtain ⟨b, off, c', hv, k1⟩ := hI.at hxx
            injection hv with e1 e2 e3
            subst e1
            subst e3
            have j1 : (i : Int) < (n : Int) := by omega
            clear hxx e2 hI
            go_wp2_with fail
            clear k1
            go_loopg [16, 17, 62] q (fun g2 s16 s17 s62 wx => ∃ j : Nat, j + g2 = q ∧ s62 = .int .i64 (j : Int) ∧ ∃ v, Hid (GI W0 q n v (edgW lt l S i q ++ rowW lt l S i j) wx))
            case atStart => exact ⟨0, by omega, rfl, v, Lib.hid (by rw [show rowW lt l S i 0 = [] from rfl, List.append_nil]; exact HT.out)⟩
            case round =>
              clear HT
              obtain ⟨j, hjq, rfl, v, HT⟩ := hrel
              obtain ⟨X, rfl⟩ : ∃ X, X = wr := ⟨_, rfl⟩
              rcases gk with _ | g2
              · obtain ⟨q, rfl⟩ : ∃ q', q' = q := ⟨_, rfl⟩
                obtain rfl : j = q := by omega
                have j3 : ¬ ((j : Int) < (j : Int)) := by omega
                go_wp2_with fail
                go_roundg g
                case measure => omega
                case rel => exact ⟨i + 1, by omega, by go_num, v, Lib.hid (by rw [edgW_succ]; exact HT.out)⟩
              · have j4 : (j : Int) < (q : Int) := by omega
                have hcut := fun W => letF j (by omega) W
                have hs1 : ∀ W, (Op.stringOp .add ⟨x.toArray⟩ ⟨[lt j].toArray⟩).run Tryd.prog W = .ok (.string ⟨(x ++ [lt j]).toArray⟩) W := fun W => run_string_add_lists W x [lt j] (by omega) (by simp)
                have hxl : (x ++ [lt j]).length ≤ 100000 := by rw [List.length_append, List.length_singleton]; omega
                have HW := Lib.hid (show edW lt l S i j = if alwB l (x ++ [lt j]) = true then some ((i : Int), (j : Int), ((S.idxOf (sufW S (x ++ [lt j])) : Nat) : Int)) else none by unfold edW; rw [HXX.out])
                obtain ⟨y, hy⟩ : ∃ y, x ++ [lt j] = y := ⟨_, rfl⟩
                rw [hy] at hs1 hxl HW
                obtain ⟨z, hz⟩ : ∃ z, lt j = z := ⟨_, rfl⟩
                rw [hz] at hcut hs1
                clear hy hz
                have HAX := Lib.hid (HAL.out y p X (G7.out.keep HT.out.b) hxl)
                obtain ⟨M, hM⟩ : ∃ M, alwB l y = M := ⟨_, rfl⟩
                rw [hM] at HAX HW
                clear hM
                cases M with
                | false =>
                  have HR2 := Lib.hid (show rowW lt l S i (j + 1) = rowW lt l S i j by rw [rowW_succ, HW.out]; simp)
                  clear HW
                  go_wp2_with (go_at_call 41; (with_reducible refine HAX.out.mono ?_); rintro e W3 ⟨rfl, b3⟩; (have T3 := Lib.hid (HT.out.keep b3)); clear b3)
                  go_roundg g2
                  case measure => omega
                  case rel => exact ⟨j + 1, by omega, by go_num, v, Lib.hid (by rw [HR2.out]; exact T3.out)⟩
                | true =>
                  obtain ⟨d, hd⟩ : ∃ d, S.idxOf (sufW S y) = d := ⟨_, rfl⟩
                  rw [hd, if_pos rfl] at HW
                  have HR2 := Lib.hid (show edgW lt l S i q ++ rowW lt l S i (j + 1) = edgW lt l S i q ++ rowW lt l S i j ++ [((i : Int), (j : Int), (d : Int))] by rw [rowW_succ, HW.out, List.append_assoc]; rfl)
                  have hel : (edgW lt l S i q ++ rowW lt l S i j).length ≤ 2000 := by
                    have h1 := edgW_len lt l S q i
                    have h2 := rowW_len lt l S i j
                    have h3 : i * q ≤ 64 * 16 := Nat.mul_le_mul (by omega) hq2
                    rw [List.length_append]
                    omega
                  obtain ⟨es, hes⟩ : ∃ es, edgW lt l S i q ++ rowW lt l S i j = es := ⟨_, rfl⟩
                  rw [hes] at HT HR2 hel
                  obtain ⟨m, hm⟩ : ∃ m, es.length = m := ⟨_, rfl⟩
                  have HM := Lib.hid hm
                  rw [hm] at hel
                  obtain ⟨a9, c9, rfl⟩ := HT.out.e.slice
                  rw [hm] at HT
                  have HSF := Lib.hid (fun W hmp => by have h := suffix_any S y R n W HST.out.nil HST.out.nodup hmp hxl; rw [hd] at h; exact h)
                  clear hd hes hm HW
                  go_wp2_with (go_at_call 41; (with_reducible refine HAX.out.mono ?_); rintro e W3 ⟨rfl, b3⟩; (have T3 := Lib.hid (HT.out.keep b3)); clear b3)
                  have TD := Lib.hid T3.out.drew
                  have M8 := Lib.hid (M7.out.kept (grown_none TD.out.b) (by simp))
                  have HSX := Lib.hid (HSF.out _ M8.out)
                  have hown : W3.drew.ownsRow (W0.heap.size + 1) 45 3 (.slice a9 m c9) m (ecl es) := by have h0 := TD.out.e; unfold EdgesAt at h0; rw [HM.out] at h0; exact h0
                  have hsz := TD.out.b.size
                  have hR0 : SG9 W0.heap.size (.slice a9 m c9) W3.drew := TD.out.o.1.2.2
                  clear HAX HSF
                  refine regionT (T := T2 11 11 (SG9 W0.heap.size (.slice a9 m c9)) (SG9 W0.heap.size (.slice a9 m c9))) hmx ?_
                  have hR := hR0
                  refine take1 (i := 0) (v := ?_) rfl (by kernel_rfl) (by kernel_rfl) (by kernel_rfl) (by kernel_rfl) (by kernel_rfl) (by decide) (by decide) (fun _ _ _ h => h) (Or.inl ⟨by rfl, ?_⟩) hR hR ?_
                  rotate_left
                  · intro w hSw
                    (try unfold SG9 at hSw)
                    go_simp
                    all_goals with_reducible rfl
                  (try simp only [Act.put, List.setIfInBounds_toArray, List.set_cons_zero, List.set_cons_succ])
                  refine take1 (i := 1) (v := ?_) rfl (by kernel_rfl) (by kernel_rfl) (by kernel_rfl) (by kernel_rfl) (by kernel_rfl) (by decide) (by decide) (fun _ _ _ h => h) (Or.inl ⟨by rfl, ?_⟩) hR hR ?_
                  rotate_left
                  · intro w hSw
                    (try unfold SG9 at hSw)
                    go_simp
                    all_goals with_reducible rfl
                  (try simp only [Act.put, List.setIfInBounds_toArray, List.set_cons_zero, List.set_cons_succ])
                  refine take1 (i := 2) (v := ?_) rfl (by kernel_rfl) (by kernel_rfl) (by kernel_rfl) (by kernel_rfl) (by kernel_rfl) (by decide) (by decide) (fun _ _ _ h => h) (Or.inl ⟨by rfl, ?_⟩) hR hR ?_
                  rotate_left
                  · intro w hSw
                    (try unfold SG9 at hSw)
                    go_simp
                    all_goals with_reducible rfl
                  (try simp only [Act.put, List.setIfInBounds_toArray, List.set_cons_zero, List.set_cons_succ])
                  refine take1 (i := 3) (v := ?_) rfl (by kernel_rfl) (by kernel_rfl) (by kernel_rfl) (by kernel_rfl) (by kernel_rfl) (by decide) (by decide) (fun _ _ _ h => h) (Or.inl ⟨by rfl, ?_⟩) hR hR ?_
                  rotate_left
                  · intro w hSw
                    (try unfold SG9 at hSw)
                    go_simp
                    all_goals with_reducible rfl
                  (try simp only [Act.put, List.setIfInBounds_toArray, List.set_cons_zero, List.set_cons_succ])
                  refine take1 (i := 4) (v := ?_) rfl (by kernel_rfl) (by kernel_rfl) (by kernel_rfl) (by kernel_rfl) (by kernel_rfl) (by decide) (by decide) (fun _ _ _ h => h) (Or.inl ⟨by rfl, ?_⟩) hR hR ?_
                  rotate_left
                  · intro w hSw
                    (try unfold SG9 at hSw)
                    go_simp
                    all_goals with_reducible rfl
                  (try simp only [Act.put, List.setIfInBounds_toArray, List.set_cons_zero, List.set_cons_succ])
                  refine take1 (i := 5) (v := ?_) rfl (by kernel_rfl) (by kernel_rfl) (by kernel_rfl) (by kernel_rfl) (by kernel_rfl) (by decide) (by decide) (fun _ _ _ h => h) (Or.inl ⟨by rfl, ?_⟩) hR hR ?_
                  rotate_left
                  · intro w hSw
                    (try unfold SG9 at hSw)
                    go_simp
                    all_goals with_reducible rfl
                  (try simp only [Act.put, List.setIfInBounds_toArray, List.set_cons_zero, List.set_cons_succ])
                  refine stepT (i := 6) (by kernel_rfl) rfl (fun K hK => ?_)
                  go_simp
                  go_at_call 43
                  (with_reducible refine HSX.out.mono ?_)
                  rintro e0 W5 ⟨rfl, hw5⟩
                  subst hw5
                  go_wp2_with fail
                  have hR5 := hR
                  refine hK.out _ _ ⟨fun _ => hR5, fun _ => hR5⟩ ?_
                  clear hK K hR
                  have hR := hR5
                  (try simp only [Act.put, List.setIfInBounds_toArray, List.set_cons_zero, List.set_cons_succ])
                  refine take1 (i := 7) (v := ?_) rfl (by kernel_rfl) (by kernel_rfl) (by kernel_rfl) (by kernel_rfl) (by kernel_rfl) (by decide) (by decide) (fun _ _ _ h => h) (Or.inl ⟨by rfl, ?_⟩) hR hR ?_
                  rotate_left
                  · intro w hSw
                    (try unfold SG9 at hSw)
                    go_simp
                    all_goals with_reducible rfl
                  (try simp only [Act.put, List.setIfInBounds_toArray, List.set_cons_zero, List.set_cons_succ])
                  refine stepT (i := 8) (by kernel_rfl) rfl (fun K hK => ?_)
                  go_simp
                  have hR6 := hR5.keep (below1 _ (.cells #[.int .i64 (i : Int), .int .i64 (j : Int), .int .i64 (d : Int)] 45))
                  refine hK.out _ _ ⟨fun _ => hR6, fun _ => hR6⟩ ?_
                  clear hK K hR
                  have hR := hR6
                  (try simp only [Act.put, List.setIfInBounds_toArray, List.set_cons_zero, List.set_cons_succ])
                  refine stepT (i := 9) (by kernel_rfl) rfl (fun K hK => ?_)
                  refine step_append_lies _ (by rfl) (.tmp 75) (.tmp 82) 39 (by rfl) (W0.heap.size + 1) 45 i0 (.agg #[.int .i64 0, .int .i64 0, .int .i64 0]) 3 24 Tryd.underlying39 hi hz0 hz1 hz2 rfl (by decide) (.slice a9 m c9) m (ecl es) (by rfl) (hown.alloc _) ⟨W3.drew.heap.size, 0, none⟩ 1 1 [.int .i64 (i : Int), .int .i64 (j : Int), .int .i64 (d : Int)] (by rfl) (by rfl) (cell_three_new _ _ _ _ _) (by intro u hu; simp at hu; rcases hu with rfl | rfl | rfl <;> rfl) (by decide) (by unfold maxLen; omega) (by omega) (by show W0.heap.size + 1 ≤ (W3.alloc _).heap.size; rw [World.size_alloc]; have h8 := TD.out.o.lt; have h9 : W3.drew.heap.size = W3.heap.size := rfl; omega) _ rfl ?_
                  intro g9 d9 W4 r1 r2 r3 r4
                  obtain ⟨hA1, hA2, hA3⟩ := GI.app' TD.out HM.out r2 r1
                  have hA4 := Lib.hid hA1
                  have hR4 : SG9 W0.heap.size (.slice a9 m c9) W4 := hA2
                  clear hA1 r1 r2 r3 r4
                  refine hK.out _ _ ⟨fun _ => hR4, fun _ => hR4⟩ ?_
                  clear hK K hR
                  have hR := hR4
                  (try simp only [Act.put, List.setIfInBounds_toArray, List.set_cons_zero, List.set_cons_succ])
                  refine take1 (i := 10) (v := ?_) rfl (by kernel_rfl) (by kernel_rfl) (by kernel_rfl) (by kernel_rfl) (by kernel_rfl) (by decide) (by decide) (fun _ _ _ h => h) (Or.inl ⟨by rfl, ?_⟩) hR hR ?_
                  rotate_left
                  · intro w hSw
                    (try unfold SG9 at hSw)
                    go_simp
                    all_goals with_reducible rfl
                  (try simp only [Act.put, List.setIfInBounds_toArray, List.set_cons_zero, List.set_cons_succ])
                  refine stepT (i := 11) (by kernel_rfl) rfl (fun K hK => ?_)
                  go_simp
                  refine hK.out _ _ ⟨fun h => absurd h (by decide), fun h => absurd h (by decide)⟩ ?_
                  clear hK K
                  (try simp only [Act.put, List.setIfInBounds_toArray, List.set_cons_zero, List.set_cons_succ])
                  refine doneT (by kernel_rfl) ?_ _
                  go_wp2_with fail
                  go_roundg g2
                  case measure => omega
                  case rel => exact ⟨j + 1, by omega, by go_num, _, Lib.hid (by rw [HR2.out]; exact hA4.out)⟩
      · obtain ⟨x, hxx⟩ : ∃ x, S[i]? = some x := ⟨_, List.getElem?_eq_getElem (by rw [HN.out]; omega)⟩
        have hx32 : x.length ≤ 32 := st_len HST.out (fun u hu => (HXS.out u hu).2) (List.mem_of_getElem? hxx)
        have hI := WdsRd.keep (l := S) (by rw [HN.out]; exact I5.out : WdsRd W5 (.slice a2 S.length c2) S) HB.out
        obtain ⟨b, off, c', hv, k1⟩ := hI.at hxx
        injection hv with e1 e2 e3
        subst e1
        subst e3
        have j1 : (i : Int) < (n : Int) := by omega
        have hkey := keyS_of (x := x) (by omega)
        have hmp := HM.out
        have HT := Lib.hid (mapT_take hxx)
        have hin2 : i < 5000 := by omega
        have hwf := wfF (x := i) (by omega)
        clear hxx e2 hI
        go_wp2_with (at_mapUpdate; refine wpList_mapUpdate_own _ rfl _ _ _ 60 rfl 9 3 Tryd.keyedS Tryd.underlying60 _ R i _ rfl hmp (by unfold maxLen; omega) _ _ _ rfl rfl hkey _ [] (plainElem_int Tryd.underlying3 hwf) ?_; intro w1 hown1 hgrow1)
        go_roundg g
        case measure => omega
        case rel => exact ⟨i + 1, by omega, by go_num, Lib.hid (by rw [HT.out]; exact hown1), Lib.hid (HB.out.grown hgrow1 HB.out.size (fun k e => by injection e with e; rw [← HR.out] at e; omega))⟩
  · have j0 : (64 : Int) < (n : Int) := by omega
    obtain ⟨⟨⟨r1, r2, r3⟩, r4, r5, r6⟩, -, -⟩ := id K5.out
    clear hmm
    go_wp2_with fail
    exact bodyPost_ret (v := .tuple #[grV 0 0 (.slice none 0 0), .int .i64 4]) (by simp [results, Tryd.results22, go_sem, r1, r2, r3]) rfl ⟨S, HST.out, below_over K5.out.bel (Nat.le_refl _) _ _ _, .inl ⟨by rw [HN.out]; omega, rfl⟩⟩
end Go.Proofs.YtkpmapeapiodcaaDoor

namespace Go.Proofs.YtkpmapeapiodcaaDoor
open Go.RowKit Go.Shelf
set_option linter.unusedSimpArgs false
set_option linter.unusedVariables false

theorem sameG_of {L S : Int} {es fs : List E3} : sameG L S es L S fs = decide (es = fs) := by
  unfold sameG
  rw [decide_eq_decide]
  exact ⟨fun h => h.2.2, fun h => ⟨rfl, rfl, h⟩⟩
set_option maxRecDepth 100000 in
set_option maxHeartbeats 3200000 in
theorem rsame_any (L S L' S' : Int) (es fs : List E3) (v1 v2 : Value) (w : World) (h1 : EdgesRd w v1 es) (h2 : EdgesRd w v2 fs) (hn : es.length ≤ 1000000) (hm : fs.length ≤ 1000000) :
    Calls Tryd.prog 23 #[grV L S v1, grV L' S' v2] w fun e w' => e = .returned (.bool (sameG L S es L' S' fs)) ∧ Below w.heap.size w w' := by
  have b0 := below_more (below1 w (.cells #[.int .i64 L, .int .i64 S, v1] 41)) (Nat.le_refl _) (below1 _ (.cells #[.int .i64 L', .int .i64 S', v2] 41))
  have HA := Lib.hid (h1.keep b0)
  have HB := Lib.hid (h2.keep b0)
  have B0 := Lib.hid b0
  have K1 := Lib.hid ((BoxG.new w L S v1 41).keep (below1 _ (.cells #[.int .i64 L', .int .i64 S', v2] 41)))
  have K2 := Lib.hid (BoxG.new (w.alloc (.cells #[.int .i64 L, .int .i64 S, v1] 41)) L' S' v2 41)
  obtain ⟨a1, c1, rfl⟩ := h1.form
  obtain ⟨a2, c2, rfl⟩ := h2.form
  clear h1 h2 b0
  by_cases hL : L = L'
  · subst hL
    by_cases hS : S = S'
    · subst hS
      by_cases hl : es.length = fs.length
      · have HE := Lib.hid (sameG_of (L := L) (S := S) (es := es) (fs := fs))
        obtain ⟨n, hn'⟩ : ∃ n, fs.length = n := ⟨_, rfl⟩
        have HN := Lib.hid hn'
        have HM := Lib.hid (hl.trans hn')
        rw [hn'] at hl hm HB K1 K2 B0 HA ⊢
        rw [hl] at hn HA HB K1 K2 B0 ⊢
        clear hl hn'
        obtain ⟨W0, hW0⟩ : ∃ W0, (w.alloc (.cells #[.int .i64 L, .int .i64 S, .slice a1 n c1] 41)).alloc (.cells #[.int .i64 L, .int .i64 S, .slice a2 n c2] 41) = W0 := ⟨_, rfl⟩
        rw [hW0] at HA HB K1 K2 B0
        rw [World.size_alloc] at K2
        obtain ⟨g1, g2, g3⟩ := id K1.out
        obtain ⟨g4, g5, g6⟩ := id K2.out
        have HW := Lib.hid hW0
        clear hW0
        go_enter Tryd.func23, Tryd.ntmps23
        go_wp2_with fail
        rw [HW.out]
        clear HW
        go_loopg [5] n (fun q s5 wx => ∃ (i nq : Nat), i + q = n ∧ s5 = .int .i64 (i : Int) ∧ wx = W0.drewN nq ∧ Hid (∀ j, j < i → es[j]? = fs[j]?))
        case atStart => exact ⟨0, 0, by omega, rfl, rfl, Lib.hid (fun j hj => by omega)⟩
        case round =>
          obtain ⟨i, nq, hiq, rfl, rfl, HQ⟩ := hrel
          rcases gk with _ | q
          · obtain rfl : i = n := by omega
            have HR := Lib.hid (show decide (es = fs) = true from decide_eq_true (List.ext_getElem? (fun j => by
              rcases Nat.lt_or_ge j i with h | h
              · exact HQ.out j h
              · rw [List.getElem?_eq_none (by have := HM.out; omega), List.getElem?_eq_none (by have := HN.out; omega)])))
            clear HQ
            go_wp2_with fail
            go_ret
            exact ⟨by rw [HE.out, HR.out]; rfl, below_drewM B0.out _⟩
          · obtain ⟨x, hx⟩ : ∃ x, es[i]? = some x := ⟨_, List.getElem?_eq_getElem (by have := HM.out; omega)⟩
            obtain ⟨y, hy⟩ : ∃ y, fs[i]? = some y := ⟨_, List.getElem?_eq_getElem (by have := HN.out; omega)⟩
            have HX := Lib.hid hx
            have HY := Lib.hid hy
            obtain ⟨b, off, c', hv, k1, k2, k3⟩ := HA.out.at hx
            injection hv with e1 e2 e3
            subst e1
            subst e3
            obtain ⟨b', off', c'', hv, k4, k5, k6⟩ := HB.out.at hy
            injection hv with e4 e5 e6
            subst e4
            subst e6
            obtain ⟨x1, x2, x3⟩ := x
            obtain ⟨y1, y2, y3⟩ := y
            dsimp only at k1 k2 k3 k4 k5 k6
            have hgd := fun (op : BinOp) (a b : Operand) (w : World) => neqE.2 op a b (x1, x2, x3) (y1, y2, y3) w
            have heq := fun (w : World) => neqE.1 (x1, x2, x3) (y1, y2, y3) w
            simp only [encE] at hgd heq
            have j1 : (i : Int) < (n : Int) := by omega
            have j1' : i < n := by omega
            clear hx hy e2 e5
            cases hq : eqE (x1, x2, x3) (y1, y2, y3) with
            | true =>
              rw [hq] at heq
              have HQ2 := Lib.hid (show ∀ j, j < i + 1 → es[j]? = fs[j]? from fun j hj => by
                rcases Nat.lt_or_ge j i with h | h
                · exact HQ.out j h
                · obtain rfl : j = i := by omega
                  rw [HX.out, HY.out, eqE_iff.1 hq])
              clear hq HQ HX HY
              go_upto_region 6 with fail
              go_quiet (fail)
              go_wp2_with fail
              go_roundg q
              case measure => omega
              case rel => exact ⟨i + 1, _, by omega, by go_num, rfl, HQ2⟩
            | false =>
              rw [hq] at heq
              have HR := Lib.hid (show decide (es = fs) = false from decide_eq_false (fun h => by
                have h1 := HX.out
                rw [h, HY.out] at h1
                injection h1 with h1
                rw [eqE_iff.2 h1.symm] at hq
                cases hq))
              clear hq HQ HX HY
              go_upto_region 6 with fail
              go_quiet (fail)
              go_wp2_with fail
              go_ret
              exact ⟨by rw [HE.out, HR.out]; rfl, below_drewM (below_drewM B0.out _) _⟩
      · have HE := Lib.hid (show sameG L S es L S fs = false from decide_eq_false (fun h => hl (by rw [h.2.2])))
        have d3 : ((es.length : Int) != (fs.length : Int)) = true := by simp; omega
        have d4 : (es.length != fs.length) = true := by simp; omega
        clear hl
        go_enter Tryd.func23, Tryd.ntmps23
        go_wp2_with fail
        go_ret
        exact ⟨by rw [HE.out]; rfl, B0.out⟩
    · have d2 : (S != S') = true := by simpa using hS
      have HE := Lib.hid (show sameG L S es L S' fs = false from decide_eq_false (fun h => hS h.2.1))
      clear hS
      go_enter Tryd.func23, Tryd.ntmps23
      go_wp2_with fail
      go_ret
      exact ⟨by rw [HE.out]; rfl, B0.out⟩
  · have d1 : (L != L') = true := by simpa using hL
    have HE := Lib.hid (show sameG L S es L' S' fs = false from decide_eq_false (fun h => hL h.1))
    clear hL
    go_enter Tryd.func23, Tryd.ntmps23
    go_wp2_with fail
    go_ret
    exact ⟨by rw [HE.out]; rfl, B0.out⟩
end Go.Proofs.YtkpmapeapiodcaaDoor
