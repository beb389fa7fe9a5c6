/- What grooveref09.index and Part return. Conditions: the edges and the list can be read; at most 1024 edges, at most 1000 numbers. -/
import Derived.Test.YtiockphjnkehnaaGreatDoorQ15
import Derived.BigQuiet

namespace Go.Proofs.YtiockphjnkehnaaGreatDoor
open Go.RowKit
set_option linter.unusedSimpArgs false
set_option linter.unusedVariables false

theorem idxOf_at {l : List Int} {i : Nat} {x : Int} (hx : l[i]? = some x) (h : x ∉ l.take i) : l.idxOf x = i := by
  obtain ⟨hi, he⟩ := List.getElem?_eq_some_iff.1 hx
  have e1 : l = l.take i ++ x :: l.drop (i + 1) := by
    rw [← he, List.getElem_cons_drop, List.take_append_drop]
  rw [e1, List.idxOf_append, if_neg h, List.idxOf_cons_self, List.length_take]
  omega
def idxN (l : List Int) (n : Int) : Int := if n ∈ l then (l.idxOf n : Int) else -1
set_option maxRecDepth 100000 in
theorem rindex_any (vs : Value) (l : List Int) (n : Int) (w : World) (hrd : IntsRd w vs l) (hl : l.length ≤ 9223372036854775807) :
    Calls Tryz.prog 63 #[vs, .int .i64 n] w fun e w' => e = .returned (.int .i64 (idxN l n)) ∧ w' = w := by
  have HRD := Lib.hid hrd
  obtain ⟨a, c, rfl⟩ := hrd.form
  clear hrd
  go_enter Tryz.func63, Tryz.ntmps63
  go_wp2_with fail
  go_loopg [5] l.length (fun q s5 wx => ∃ i : Nat, i + q = l.length ∧ s5 = .int .i64 (i : Int) ∧ Hid (n ∉ l.take i) ∧ wx = w)
  case atStart => exact ⟨0, by omega, rfl, Lib.hid (by simp), rfl⟩
  case round =>
    obtain ⟨i, hi, rfl, HI, rfl⟩ := hrel
    rcases gk with _ | q
    · obtain rfl : i = l.length := by omega
      have HE := Lib.hid (show idxN l n = -1 from if_neg (by have h := HI.out; rwa [List.take_length] at h))
      clear HI
      go_wp2_with fail
      go_ret
      exact ⟨by rw [HE.out]; rfl, rfl⟩
    · obtain ⟨x, hx⟩ : ∃ x, l[i]? = some x := ⟨_, List.getElem?_eq_getElem (by omega)⟩
      obtain ⟨b, off, c', hv, k1⟩ := HRD.out.at hx
      injection hv with e1 e2 e3
      subst e1
      subst e3
      have j1 : (i : Int) < (l.length : Int) := by omega
      by_cases hxn : x = n
      · subst hxn
        have HE := Lib.hid (show idxN l x = (i : Int) by unfold idxN; rw [if_pos (List.mem_of_getElem? hx), idxOf_at hx HI.out])
        clear HI hx e2
        go_wp2_with fail
        go_ret
        exact ⟨by rw [HE.out]; rfl, rfl⟩
      · have HI2 := Lib.hid (mem_take_succI hx HI.out hxn)
        have d1 : (x == n) = false := by simpa using hxn
        clear HI hx e2 hxn
        go_wp2_with fail
        go_roundg q
        case measure => omega
        case rel => exact ⟨i + 1, by omega, by go_num, HI2, rfl⟩
structure PT (w : World) (La S : Int) (k : Nat) (v u : Value) (W : World) : Prop where
  g : BoxG W w.heap.size La S v
  r : BoxF W (w.heap.size + 1) 0 0 (.slice none 0 0)
  o : BoxF W (w.heap.size + 2) La (k : Int) u
  b : Below w.heap.size w W
  z : w.heap.size + 3 ≤ W.heap.size
section
variable {w W W' : World} {La S : Int} {k : Nat} {v u : Value}
theorem boxG_low {M p : Nat} {L S : Int} {v : Value} (h : BoxG W p L S v) (hp : p < M) (hb : Below M W W') : BoxG W' p L S v :=
  ⟨(hb.cell (p := ⟨p, 0, none⟩) hp).trans h.1, (hb.cell (p := ⟨p, 1, none⟩) hp).trans h.2.1, (hb.cell (p := ⟨p, 2, none⟩) hp).trans h.2.2⟩
theorem boxF_low {M p : Nat} {L S : Int} {v : Value} (h : BoxF W p L S v) (hp : p < M) (hb : Below M W W') : BoxF W' p L S v :=
  ⟨boxG_low h.1 hp hb, (World.frozen?_of_block (hb.block _ hp)).trans h.2.1, (World.frozen?_of_block (hb.block _ hp)).trans h.2.2.1, (World.frozen?_of_block (hb.block _ hp)).trans h.2.2.2⟩
theorem PT.low (h : PT w La S k v u W) (hb : Below (w.heap.size + 3) W W') : PT w La S k v u W' :=
  ⟨boxG_low h.g (by omega) hb, boxF_low h.r (by omega) hb, boxF_low h.o (by omega) hb, h.b.trans (hb.mono (by omega)), Nat.le_trans h.z hb.size⟩
theorem PT.keep (h : PT w La S k v u W) (hb : Below W.heap.size W W') : PT w La S k v u W' := h.low (hb.mono h.z)
theorem PT.start (w : World) (La S : Int) (k : Nat) (v : Value) (t : TypeId) :
    PT w La S k v (.slice none 0 0) (((w.alloc (.cells #[.int .i64 La, .int .i64 S, v] t)).alloc (.cells #[.int .i64 0, .int .i64 0, .slice none 0 0] t)).alloc (.cells #[.int .i64 La, .int .i64 (k : Int), .slice none 0 0] t)) := by
  have g1 := BoxG.new w La S v t
  have b1 := below1 w (.cells #[.int .i64 La, .int .i64 S, v] t)
  have s1 := World.size_alloc w (.cells #[.int .i64 La, .int .i64 S, v] t)
  generalize w.alloc (.cells #[.int .i64 La, .int .i64 S, v] t) = W1 at *
  have g2 := BoxF.new W1 0 0 (.slice none 0 0) t
  have b2 := below1 W1 (.cells #[.int .i64 0, .int .i64 0, .slice none 0 0] t)
  have s2 := World.size_alloc W1 (.cells #[.int .i64 0, .int .i64 0, .slice none 0 0] t)
  generalize W1.alloc (.cells #[.int .i64 0, .int .i64 0, .slice none 0 0] t) = W2 at *
  have g3 := BoxF.new W2 La (k : Int) (.slice none 0 0) t
  have b3 := below1 W2 (.cells #[.int .i64 La, .int .i64 (k : Int), .slice none 0 0] t)
  rw [s1] at g2
  rw [s2, s1] at g3
  exact ⟨(g1.keep b2).keep b3, g2.keep b3, g3, below_more (below_more b1 (Nat.le_refl _) b2) (Nat.le_refl _) b3, by rw [World.size_alloc, s2, s1]; omega⟩
theorem boxG_set {p q : Nat} {L S : Int} {v : Value} (h : BoxG W p L S v) (hne : q ≠ p) (x : Value) : BoxG (W.setCell ⟨q, 2, none⟩ x) p L S v :=
  ⟨(World.cell?_setCell_far _ _ _ _ (by exact hne)).trans h.1, (World.cell?_setCell_far _ _ _ _ (by exact hne)).trans h.2.1, (World.cell?_setCell_far _ _ _ _ (by exact hne)).trans h.2.2⟩
theorem PT.set (h : PT w La S k v u W) (u' : Value) : PT w La S k v u' (W.setCell ⟨w.heap.size + 2, 2, none⟩ u') :=
  ⟨boxG_set h.g (by omega) _, h.r.other (by show w.heap.size + 2 ≠ _; omega) _, h.o.set2 _, h.b.setCell (p := ⟨w.heap.size + 2, 2, none⟩) (by show _ ≤ w.heap.size + 2; omega) _, by have := (KeepsWalks.setCell W ⟨w.heap.size + 2, 2, none⟩ u').size; exact Nat.le_trans h.z this⟩
end
theorem partE_take {st : List Int} {es : List E3} {i : Nat} {e : E3} (h : es[i]? = some e) : partE st (es.take (i + 1)) = partE st (es.take i) ++ (if e.1 ∈ st ∧ e.2.2 ∈ st then [((st.idxOf e.1 : Int), e.2.1, (st.idxOf e.2.2 : Int))] else []) := by
  rw [List.take_add_one, h]; exact partE_snoc _ _ _
theorem idxN_in {l : List Int} {n : Int} (h : n ∈ l) : idxN l n = ((l.idxOf n : Nat) : Int) := if_pos h
theorem idxN_out {l : List Int} {n : Int} (h : n ∉ l) : idxN l n = -1 := if_neg h
set_option maxRecDepth 100000 in
set_option maxHeartbeats 6400000 in
theorem rpart_any (La S : Int) (es : List E3) (v vs : Value) (st : List Int) (w : World) (hrd : EdgesRd w v es) (hst : IntsRd w vs st) (hlen : es.length ≤ 1024) (hsl : st.length ≤ 1000) :
    Calls Tryz.prog 29 #[grV La S v, vs] w fun e w' => ∃ u, e = .returned (grV La (st.length : Int) u) ∧ EdgesAt w' w.heap.size u (partE st es) ∧ Below w.heap.size w w' := by
  obtain ⟨i0, hi, hz0, hz1, hz2⟩ := info_parts Tryz.infoEdge
  have HRD := Lib.hid hrd
  have HST := Lib.hid hst
  have HX := Lib.hid (fun x W h => rindex_any vs st x W h (by omega))
  have P0 := Lib.hid (PT.start w La S st.length v 24)
  obtain ⟨a, c, rfl⟩ := hrd.form
  obtain ⟨a2, c2, rfl⟩ := hst.form
  have HL := Lib.hid (show ∀ x, st.idxOf x ≤ st.length from fun x => List.idxOf_le_length)
  obtain ⟨k, hk⟩ : ∃ k, st.length = k := ⟨_, rfl⟩
  rw [hk] at P0 HST HX hsl HL ⊢
  clear hrd hst hk
  go_enter Tryz.func29, Tryz.ntmps29
  go_wp2_with fail
  go_loopg [6, 7, 8, 9] es.length (fun q s6 s7 s8 s9 wx => ∃ (i : Nat) (u : Value), i + q = es.length ∧ s6 = .int .i64 (i : Int) ∧ PT w La S k (.slice a es.length c) u wx ∧ EdgesAt wx (w.heap.size + 3) u (partE st (es.take i)))
  case atStart => exact ⟨0, _, by omega, rfl, P0.out, edges_nil _ _⟩
  case round =>
    clear P0
    obtain ⟨i, u, hin, rfl, hP, hown⟩ := hrel
    obtain ⟨g1, g2, g3⟩ := id hP.g
    obtain ⟨au, cu, rfl⟩ := hown.slice
    have HP := Lib.hid hP
    have hz := hP.z
    rcases gk with _ | q
    · obtain rfl : i = es.length := by omega
      rw [List.take_length] at hown HP
      obtain ⟨m, hm⟩ : ∃ m, (partE st es).length = m := ⟨_, rfl⟩
      have HO := Lib.hid hown
      rw [hm] at HO HP
      obtain ⟨⟨r1, r2, r3⟩, r4, r5, r6⟩ := id HP.out.r
      obtain ⟨⟨o1, o2, o3⟩, -⟩ := id HP.out.o
      clear hown hP hm
      go_wp2_with fail
      exact bodyPost_ret (v := grV La (k : Int) (.slice au m cu)) (by simp [results, Tryz.results29, go_sem, r1, r2, r3]) rfl
        ⟨_, rfl, edges_over HO.out (show w.heap.size + 1 < w.heap.size + 3 by omega) _ _ _ (by omega), below_over HP.out.b (Nat.le_succ _) _ _ _⟩
    · obtain ⟨e, he⟩ : ∃ e, es[i]? = some e := ⟨_, List.getElem?_eq_getElem (by omega)⟩
      obtain ⟨b, off, c', hv, k1, k2, k3⟩ := (HRD.out.keep hP.b).at he
      injection hv with e1 e2 e3
      subst e1
      subst e3
      have HPT := Lib.hid (partE_take (st := st) he)
      have hml := partE_len st (es.take i)
      rw [List.length_take] at hml
      obtain ⟨x, y, z⟩ := e
      dsimp only at k1 k2 k3
      have j1 : (i : Int) < (es.length : Int) := by omega
      have hb1 := below1 wr (.cells #[.int .i64 x, .int .i64 y, .int .i64 z] 39)
      have P1 := Lib.hid (HP.out.keep hb1)
      have E1 := Lib.hid (hown.keep hb1)
      have X1 := Lib.hid (Box3.new wr x y z 39)
      have S1 := Lib.hid (HST.out.keep (HP.out.keep hb1).b)
      clear hP hown he e2 hb1 HP
      go_upto_region 6 with fail
      obtain ⟨W1, hW1⟩ : ∃ W1, wr.alloc (.cells #[.int .i64 x, .int .i64 y, .int .i64 z] 39) = W1 := ⟨_, rfl⟩
      obtain ⟨p, hp⟩ : ∃ p, wr.heap.size = p := ⟨_, rfl⟩
      rw [hW1] at P1 E1 X1 S1 ⊢
      rw [hp] at X1 hz ⊢
      clear hW1 hp k1 k2 k3 g1 g2 g3
      obtain ⟨x1, x2, x3, -⟩ := id X1.out
      dsimp only at x1 x2 x3
      obtain ⟨ix, hix⟩ : ∃ ix, idxN st x = ix := ⟨_, rfl⟩
      obtain ⟨iz, hiz⟩ : ∃ iz, idxN st z = iz := ⟨_, rfl⟩
      have HX1 := Lib.hid (fun W (b : Below W1.heap.size W1 W) => hix ▸ HX.out x W (S1.out.keep b))
      have HX2 := Lib.hid (fun W (b : Below W1.heap.size W1 W) => hiz ▸ HX.out z W (S1.out.keep b))
      have KX := Lib.hid (fun W (b : Below W1.heap.size W1 W) => show W.cell? ⟨p, 0, none⟩ = some (.int .i64 x) ∧ W.cell? ⟨p, 1, none⟩ = some (.int .i64 y) ∧ W.cell? ⟨p, 2, none⟩ = some (.int .i64 z) from ⟨cell_keep x1 b, cell_keep x2 b, cell_keep x3 b⟩)
      go_cut [8, 9] (fun s8 s9 wx => s8 = .int .i64 ix ∧ s9 = .int .i64 iz ∧ Below W1.heap.size W1 wx)
      case first =>
        have BB := (Below.refl W1.heap.size W1).drew
        go_region_held3 (fun W => W.cell? ⟨p, 0, none⟩ = some (.int .i64 x) ∧ W.cell? ⟨p, 1, none⟩ = some (.int .i64 y) ∧ W.cell? ⟨p, 2, none⟩ = some (.int .i64 z)) (first | exact KX.out _ BB | exact KX.out _ (by assumption) | go_keep)
          (first
            | (go_at_call 63; (with_reducible refine (HX1.out _ BB).mono ?_); rintro e0 W5 ⟨rfl, rfl⟩)
            | (go_at_call 63; (with_reducible refine (HX2.out _ BB).mono ?_); rintro e0 W5 ⟨rfl, rfl⟩))
        all_goals
          go_wp2_with fail
          go_meet
          exact ⟨rfl, rfl, BB⟩
      case rest =>
        clear x1 x2 x3
        obtain ⟨rfl, rfl, bc⟩ := hcut
        have P2 := Lib.hid (P1.out.keep bc)
        have E2 := Lib.hid (E1.out.keep bc)
        obtain ⟨x1, x2, x3⟩ := KX.out _ bc
        obtain ⟨⟨o1, o2, o3⟩, o4, o5, o6⟩ := id P2.out.o
        have hzp := P2.out.z
        clear P1 E1 S1 HX1 HX2 KX bc
        by_cases hx : x ∈ st
        · have q1 := idxN_in hx
          rw [hix] at q1
          obtain ⟨jx, hjx⟩ : ∃ jx : Nat, st.idxOf x = jx := ⟨_, rfl⟩
          rw [hjx] at q1
          subst q1
          by_cases hzz : z ∈ st
          · have q2 := idxN_in hzz
            rw [hiz] at q2
            obtain ⟨jz, hjz⟩ : ∃ jz : Nat, st.idxOf z = jz := ⟨_, rfl⟩
            rw [hjz] at q2
            subst q2
            have HS := Lib.hid (show partE st (es.take (i + 1)) = partE st (es.take i) ++ [((jx : Int), y, (jz : Int))] by rw [HPT.out, if_pos ⟨hx, hzz⟩, ← hjx, ← hjz])
            have hown0 := E2.out
            have hlt := hown0.lt
            unfold EdgesAt at hown0
            obtain ⟨m, hm⟩ : ∃ m, (partE st (es.take i)).length = m := ⟨_, rfl⟩
            rw [hm] at hown0 hml o3 P2 hlt
            have HM := Lib.hid hm
            clear hx hzz hjx hjz hix hiz hm E2 HPT
            go_wp2_with (at_builtin; refine wpList_append_own_at _ rfl _ _ 22 rfl (w.heap.size + 3) 39 i0 (.agg #[.int .i64 0, .int .i64 0, .int .i64 0]) 3 24 Tryz.underlying22 hi hz0 hz1 hz2 rfl (by decide) _ _ _ rfl (hown0.alloc _) ⟨wc.heap.size, 0, none⟩ 1 1 [.int .i64 (jx : Int), .int .i64 y, .int .i64 (jz : Int)] rfl rfl (cell_three_new _ _ _ _ _) ?c2 ?c3 ?c4 ?c5 ?_)
            case c2 => intro u hu; simp at hu; rcases hu with rfl | rfl | rfl <;> rfl
            case c3 => unfold maxLen; omega
            case c4 => omega
            case c5 => rw [World.size_alloc]; omega
            intro v' W2 hown2 hgrow _ hv'
            have hbM : Below (w.heap.size + 3) wc W2 := ((Below.refl (w.heap.size + 3) wc).alloc hzp _).grown hgrow (by rw [World.size_alloc]; omega) (fun k hk => (hlt k hk).1)
            have P3 := Lib.hid (P2.out.low hbM)
            have EI := Lib.hid (show EdgesAt W2 (w.heap.size + 3) v' (partE st (es.take (i + 1))) by unfold EdgesAt; rw [HS.out, List.length_append, HM.out, ecl_snoc]; exact hown2)
            obtain ⟨a', c', rfl⟩ := own_slice hown2
            have P4 := Lib.hid (P3.out.set (.slice a' (m + 1) c'))
            have E4 := Lib.hid (ownsRow_setCell_below EI.out (a := ⟨w.heap.size + 2, 2, none⟩) (by show w.heap.size + 2 < w.heap.size + 3; omega) (.slice a' (m + 1) c'))
            clear o1 o2 o3 o4 o5 o6
            obtain ⟨⟨o1, o2, o3⟩, o4, o5, o6⟩ := id P3.out.o
            clear hown0 hown2 hgrow hlt hv' hbM P2
            go_wp2_with fail
            go_roundg q
            case measure => omega
            case rel => exact ⟨i + 1, _, by omega, by go_num, P4.out, E4.out⟩
          · have q2 := idxN_out hzz
            rw [hiz] at q2
            subst q2
            have HS := Lib.hid (show partE st (es.take (i + 1)) = partE st (es.take i) by rw [HPT.out, if_neg (fun h => hzz h.2), List.append_nil])
            clear hx hzz hjx hix hiz HPT
            go_wp2_with fail
            go_roundg q
            case measure => omega
            case rel => exact ⟨i + 1, _, by omega, by go_num, P2.out, by rw [HS.out]; exact E2.out⟩
        · have q1 := idxN_out hx
          rw [hix] at q1
          subst q1
          have HS := Lib.hid (show partE st (es.take (i + 1)) = partE st (es.take i) by rw [HPT.out, if_neg (fun h => hx h.1), List.append_nil])
          clear hx hix hiz HPT
          go_wp2_with fail
          go_roundg q
          case measure => omega
          case rel => exact ⟨i + 1, _, by omega, by go_num, P2.out, by rw [HS.out]; exact E2.out⟩
end Go.Proofs.YtiockphjnkehnaaGreatDoor
