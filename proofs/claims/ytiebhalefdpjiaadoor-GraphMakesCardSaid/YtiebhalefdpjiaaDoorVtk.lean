/- GraphMakes: the walk of graphs that have edges and are not too large. Conditions: the edges can be read; a slice's length is at most its capacity. -/
import Derived.Test.YtiebhalefdpjiaaDoorVtj
import Derived.Test.YtiebhalefdpjiaaDoorVu
import Derived.Test.YtiebhalefdpjiaaDoorVr
import Derived.Test.YtiebhalefdpjiaaDoorVyk
import Derived.Test.YtiebhalefdpjiaaDoorJnvw
namespace Go.Proofs.YtiebhalefdpjiaaDoor
open Go.RowKit Go.Shelf
set_option linter.unusedSimpArgs false
set_option linter.unusedVariables false

theorem hasE_any {es : List E3} {x : E3} (hx : x ∈ es) (hn : es.length ≤ 9223372036854775807) (v : Value) (w : World) (hrd : EdgesRd w v es) :
    Calls Tryd.prog 27 #[v, edgV x] w fun e w' => e = .returned (.bool true) ∧ Below w.heap.size w w' := by
  have h0 : 0 < es.length := List.length_pos_of_mem hx
  obtain ⟨b, o, c, rfl, k⟩ := hrd.cells h0
  have h := AnyQ.slices_Contains Tryd.containsE 3 Tryd.isAgg43 Tryd.sizeOf43 encE (fun _ => rfl) eqE eqlE b o es.length c es x w (Nat.le_refl _) hn k
  rw [List.take_length, show (es.any fun y => eqE x y) = true from List.any_eq_true.2 ⟨x, hx, eqE_iff.2 rfl⟩] at h
  exact h
/-- What Make returns, by its parts. -/
theorem make_sl {L S : Int} {es : List E3} {r : Int × Int × List E3 × Int} {m : Nat} (hr : makeR L S es = r) (hm : r.2.2.1.length = m) (hlen : es.length ≤ 100000) (v : Value) (W : World) (h : EdgesRd W v es) :
    Calls Tryd.prog 11 #[.int .i64 L, .int .i64 S, v] W fun e w' => ∃ a c, e = .returned (.tuple #[grV r.1 r.2.1 (.slice a m c), .int .i64 r.2.2.2]) ∧ EdgesAt w' W.heap.size (.slice a m c) r.2.2.1 ∧ Below W.heap.size W w' := by
  refine (make_any L S es v W h hlen).mono ?_
  rintro e w' ⟨v', rfl, h1, h2⟩
  rw [hr] at h1 ⊢
  obtain ⟨a, c, rfl⟩ := h1.slice
  rw [hm] at h1 ⊢
  exact ⟨a, c, rfl, h1, h2⟩
theorem makeR_same {L S : Int} {es fs : List E3} (h : ∀ x, x ∈ es ↔ x ∈ fs) : makeR L S es = makeR L S fs := by unfold makeR; rw [mkE_same h]
/-- The law's list: the edges turned, and one of them again. -/
def lawL (es : List E3) (k : Nat) (e : E3) : List E3 := es.drop k ++ (es.take k ++ [e])
theorem lawL_mem {es : List E3} {k : Nat} {e : E3} (he : e ∈ es) (x : E3) : x ∈ lawL es k e ↔ x ∈ es := by
  unfold lawL
  rw [List.mem_append, List.mem_append, List.mem_singleton]
  constructor
  · rintro (h | h | rfl)
    · exact List.mem_of_mem_drop h
    · exact List.mem_of_mem_take h
    · exact he
  · intro h
    rw [← List.take_append_drop k es, List.mem_append] at h
    rcases h with h | h
    · exact .inr (.inl h)
    · exact .inl h
theorem lawL_len {es : List E3} {k : Nat} {e : E3} : (lawL es k e).length = es.length + 1 := by
  unfold lawL
  rw [List.length_append, List.length_append, List.length_singleton, List.length_drop, List.length_take]
  omega
/-- The graph's variable, the made one's. -/
structure GM (w : World) (L S : Int) (v : Value) (p : Nat) (rL rS : Int) (vr : Value) (rm : List E3) (W : World) : Prop where
  g : BoxG W w.heap.size L S v
  r : BoxG W p rL rS vr
  re : EdgesAt W w.heap.size vr rm
  b : Below w.heap.size w W
theorem GM.keep {w W W' : World} {L S : Int} {v : Value} {p : Nat} {rL rS : Int} {vr : Value} {rm : List E3} (h : GM w L S v p rL rS vr rm W) (hb : Below W.heap.size W W') : GM w L S v p rL rS vr rm W' :=
  ⟨h.g.keep hb, h.r.keep hb, EdgesAt.keep h.re hb, h.b.trans (hb.mono h.b.size)⟩
/-- A row of one edge. -/
def BsE (N : Nat) (x : E3) (u : Value) (W : World) : Prop := ∃ p, u = .slice (some ⟨p, 0, none⟩) 1 1 ∧ N ≤ p ∧ Box3 W p x
theorem BsE.keep {N : Nat} {x : E3} {u : Value} {W W' : World} (h : BsE N x u W) (hb : Below W.heap.size W W') : BsE N x u W' := by
  obtain ⟨p, h1, h2, h3⟩ := h
  exact ⟨p, h1, h2, h3.keep hb⟩
theorem BsE.new {N : Nat} {W : World} {a b c : Int} {t : TypeId} (hb : N ≤ W.heap.size) : BsE N (a, b, c) (.slice (some ⟨W.heap.size, 0, none⟩) 1 1) (W.alloc (.cells #[.int .i64 a, .int .i64 b, .int .i64 c] t)) := ⟨_, rfl, hb, Box3.new _ _ _ _ _⟩
theorem Box3.src {W : World} {p : Nat} {x : E3} (h : Box3 W p x) : ESrc W (.slice (some ⟨p, 0, none⟩) 1 1) [x] :=
  ⟨p, 0, 1, rfl, fun i e he => by
    match i, he with
    | 0, he => simp at he; subst he; exact ⟨h.1, h.2.1, h.2.2.1⟩⟩
/-- A row of three rows. -/
def SL3 (N : Nat) (v1 : Value) (l1 : List E3) (v2 : Value) (l2 : List E3) (l3 : List E3) (u : Value) (W : World) : Prop := ∃ p, u = .slice (some ⟨p, 0, none⟩) 3 3 ∧ N ≤ p ∧ ∃ v3, SlR W p [(v1, l1), (v2, l2), (v3, l3)]
theorem SL3.keep {N : Nat} {v1 v2 : Value} {l1 l2 l3 : List E3} {u : Value} {W W' : World} (h : SL3 N v1 l1 v2 l2 l3 u W) (hb : Below W.heap.size W W') : SL3 N v1 l1 v2 l2 l3 u W' := by
  obtain ⟨p, h1, h2, v3, h3⟩ := h
  exact ⟨p, h1, h2, v3, h3.keep hb⟩
theorem SL3.new {N : Nat} {v1 v2 v3 : Value} {l1 l2 l3 : List E3} {W : World} {t : TypeId} (hb : N ≤ W.heap.size) (h1 : ESrc W v1 l1) (h2 : ESrc W v2 l2) (h3 : ESrc W v3 l3) : SL3 N v1 l1 v2 l2 l3 (.slice (some ⟨W.heap.size, 0, none⟩) 3 3) (W.alloc (.cells #[v1, v2, v3] t)) := by
  refine ⟨_, rfl, hb, v3, fun i p hp => ?_⟩
  have hk := below1 W (.cells #[v1, v2, v3] t)
  match i, hp with
  | 0, hp => simp at hp; subst hp; exact ⟨by simp [go_sem], h1.keep hk⟩
  | 1, hp => simp at hp; subst hp; exact ⟨by simp [go_sem], h2.keep hk⟩
  | 2, hp => simp at hp; subst hp; exact ⟨by simp [go_sem], h3.keep hk⟩
/-- Edges of one's own, by the slice's length. -/
def ESl (B m : Nat) (l : List E3) (u : Value) (W : World) : Prop := ∃ a c, u = .slice a m c ∧ EdgesAt W B u l
theorem ESl.keep {B m : Nat} {l : List E3} {u : Value} {W W' : World} (h : ESl B m l u W) (hb : Below W.heap.size W W') : ESl B m l u W' := by
  obtain ⟨a, c, h1, h2⟩ := h
  exact ⟨a, c, h1, EdgesAt.keep h2 hb⟩
theorem concat_law {W : World} {b' k : Nat} {v1 v2 v3 : Value} {es : List E3} {x : E3} (h : SlR W b' [(v1, es.drop k), (v2, es.take k), (v3, [x])]) (hlen : es.length ≤ 1000) :
    Calls Tryd.prog 26 #[.slice (some ⟨b', 0, none⟩) 3 3] W fun e w' => ∃ a c, e = .returned (.slice a (es.length + 1) c) ∧ EdgesAt w' W.heap.size (.slice a (es.length + 1) c) (lawL es k x) ∧ Below W.heap.size W w' := by
  have hc : catE [(v1, es.drop k), (v2, es.take k), (v3, [x])] = lawL es k x := by
    unfold catE lawL
    simp
  have hl := lawL_len (es := es) (k := k) (e := x)
  have h1 := concat_any b' _ 3 rfl W h (by rw [hc, hl]; omega) (by rw [hc, hl]; omega) (by decide)
  rw [hc] at h1
  refine h1.mono ?_
  rintro e w' ⟨v', rfl, k1, k2⟩
  obtain ⟨a, c, rfl⟩ := k1.slice
  rw [hl] at k1 ⊢
  exact ⟨a, c, rfl, k1, k2⟩
set_option maxRecDepth 100000 in
set_option maxHeartbeats 12800000 in
theorem gmakes_small (L S : Int) (es : List E3) (a : Option Addr) (c : Nat) (s t : Nat) (w : World) (hs : s < 256) (ht : t < 256) (hc : es.length ≤ c) (hcm : c ≤ 9223372036854775807) (h0 : 0 < es.length) (hgr : greatB S es.length = false) (hrd : EdgesRd w (.slice a es.length c) es) :
    Calls Tryd.prog 5 #[grV L S (.slice a es.length c), .int .u8 (s : Int), .int .u8 (t : Int)] w fun e w' => e = .returned (.bool true) ∧ Below w.heap.size w w' := by
  have hmx : Tryd.prog.follows .mixedOrders = true := by kernel_rfl
  have hlen : es.length ≤ 30 := by
    unfold greatB at hgr
    simp only [decide_eq_false_iff_not] at hgr
    omega
  obtain ⟨b, off, c', hv, hcells⟩ := hrd.cells h0
  injection hv with e1 e2 e3
  subst e1
  subst e3
  obtain ⟨k, hk⟩ : ∃ k, s % es.length = k := ⟨_, rfl⟩
  obtain ⟨j, hj⟩ : ∃ j, t % es.length = j := ⟨_, rfl⟩
  have hkl : k < es.length := by rw [← hk]; exact Nat.mod_lt _ h0
  have hjl : j < es.length := by rw [← hj]; exact Nat.mod_lt _ h0
  have tm1 : Int.tmod (s : Int) (es.length : Int) = (k : Int) := by rw [Int.tmod_eq_emod_of_nonneg (by omega), ← hk]; rfl
  have tm2 : Int.tmod (t : Int) (es.length : Int) = (j : Int) := by rw [Int.tmod_eq_emod_of_nonneg (by omega), ← hj]; rfl
  obtain ⟨x, hx⟩ : ∃ x, es[j]? = some x := ⟨_, List.getElem?_eq_getElem hjl⟩
  have hxm := List.mem_of_getElem? hx
  obtain ⟨r, hr⟩ : ∃ r, makeR L S es = r := ⟨_, rfl⟩
  have hr2 : makeR L S (lawL es k x) = r := by rw [← hr]; exact makeR_same (lawL_mem hxm)
  obtain ⟨m, hm⟩ : ∃ m, r.2.2.1.length = m := ⟨_, rfl⟩
  have HRD := Lib.hid hrd
  have HGR := Lib.hid (fun W => great_any L S (some ⟨b, off, none⟩) es.length c W)
  have HGB := Lib.hid hgr
  have HAW := Lib.hid (fun W => awake_any W)
  have HM1 := Lib.hid (fun v W h => make_sl hr hm (by omega) v W h)
  have HM2 := Lib.hid (fun v W h => make_sl hr2 hm (by rw [lawL_len]; omega) v W h)
  have d0 : ((es.length : Int) == 0) = false := by rw [beq_eq_false_iff_ne]; omega
  have G0 := Lib.hid (BoxG.new w L S (.slice (some ⟨b, off, none⟩) es.length c) 24)
  have B0 := Lib.hid (below1 w (.cells #[.int .i64 L, .int .i64 S, .slice (some ⟨b, off, none⟩) es.length c] 24))
  have HX := Lib.hid hx
  have HCE := Lib.hid hcells
  have hml : m ≤ 30 := by
    rw [← hm, ← hr]
    unfold makeR
    split
    · exact Nat.le_trans (mkE_len es) hlen
    · exact Nat.zero_le _
  obtain ⟨rL, rS, rm, re⟩ := r
  dsimp only at hm HM1 HM2
  have HRM := Lib.hid hm
  have HR0 := Lib.hid (show re = 0 → (rL = L ∧ rS = S ∧ rm = mkE es) ∧ chkG L S rm = 0 from fun h => by
    unfold makeR at hr
    split at hr
    · rename_i hz
      injection hr with a1 hr
      injection hr with a2 hr
      injection hr with a3 a4
      subst a1 a2 a3
      exact ⟨⟨rfl, rfl, rfl⟩, hz⟩
    · rename_i hz
      injection hr with a1 hr
      injection hr with a2 hr
      injection hr with a3 a4
      exact absurd (a4.trans h) hz)
  have HRN := Lib.hid (show re ≠ 0 → rL = 0 ∧ rS = 0 ∧ rm = [] from fun h => by
    unfold makeR at hr
    split at hr
    · injection hr with a1 hr
      injection hr with a2 hr
      injection hr with a3 a4
      exact absurd a4.symm h
    · injection hr with a1 hr
      injection hr with a2 hr
      injection hr with a3 a4
      exact ⟨a1.symm, a2.symm, a3.symm⟩)
  clear hrd hgr hk hj hx hr hr2 hm e2 hcells
  go_enter Tryd.func5, Tryd.ntmps5
  go_upto_region 4 with (first
    | (go_at_call 9; (with_reducible refine (HGR.out _).mono ?_); rintro e0 W1 ⟨rfl, b1⟩; (rw [HGB.out]); (have G1 := Lib.hid (G0.out.keep b1)); (have B1 := Lib.hid (below_more B0.out (Nat.le_refl _) b1)); (clear b1 G0 B0); (obtain ⟨g1, g2, g3⟩ := id G1.out))
    | (go_at_call 11; (with_reducible refine (HM1.out _ _ (HRD.out.keep B1.out)).mono ?_); rintro e0 W2 ⟨a2, c2, rfl, e2, b2⟩; (have bm := below1 W2 (.cells #[.int .i64 rL, .int .i64 rS, .slice a2 m c2] 24)); (have G2 := Lib.hid ((G1.out.keep b2).keep bm)); (have B2 := Lib.hid (below_more (below_more B1.out (Nat.le_refl _) b2) (Nat.le_refl _) bm)); (have E2 := Lib.hid (show EdgesAt _ w.heap.size (.slice a2 m c2) rm from own_low (e2.keep bm) B1.out.size)); (have Q2 := Lib.hid (BoxG.new W2 rL rS (.slice a2 m c2) 24)); (clear e2 b2 bm G1 B1 g1 g2 g3)))
  obtain ⟨p, hp⟩ : ∃ p, W2.heap.size = p := ⟨_, rfl⟩
  obtain ⟨W3, hW3⟩ : ∃ W3, W2.alloc (.cells #[.int .i64 rL, .int .i64 rS, .slice a2 m c2] 24) = W3 := ⟨_, rfl⟩
  rw [hW3] at G2 B2 E2
  rw [hW3, hp] at Q2
  rw [hW3, hp]
  clear hW3 hp
  obtain ⟨g1, g2, g3⟩ := id G2.out
  obtain ⟨x1, x2, x3⟩ := x
  have hsrc3 : ∀ (i : Nat) (e : E3), es[i]? = some e → W3.cell? ⟨b, off + i * 3, none⟩ = some (.int .i64 e.1) ∧ W3.cell? ⟨b, off + i * 3 + 1, none⟩ = some (.int .i64 e.2.1) ∧ W3.cell? ⟨b, off + i * 3 + 2, none⟩ = some (.int .i64 e.2.2) := fun i e he => by
    obtain ⟨b', off', c', hv', z⟩ := (HRD.out.keep B2.out).at he
    injection hv' with e1 e2 e3
    injection e1 with e1
    injection e1 with e1 e4
    subst e1
    subst e4
    exact z
  obtain ⟨N, hN⟩ : ∃ N, W3.heap.size = N := ⟨_, rfl⟩
  go_upto_region 5 with fail
  have HS1 := Lib.hid (show ESrc W3 (.slice (some ⟨b, off + k * 3, none⟩) (es.length - k) (c - k)) (es.drop k) from by
    refine ⟨b, off + k * 3, c - k, by rw [List.length_drop], fun i e he => ?_⟩
    rw [List.getElem?_drop] at he
    obtain ⟨z1, z2, z3⟩ := hsrc3 (k + i) e he
    rw [show off + (k + i) * 3 = off + k * 3 + i * 3 by omega] at z1 z2 z3
    exact ⟨z1, z2, z3⟩)
  have HS2 := Lib.hid (show ESrc W3 (.slice (some ⟨b, off, none⟩) k c) (es.take k) from by
    refine ⟨b, off, c, by rw [List.length_take, Nat.min_eq_left (by omega)], fun i e he => ?_⟩
    have hi := (List.getElem?_eq_some_iff.1 he).1
    rw [List.length_take] at hi
    rw [List.getElem?_take_of_lt (by omega)] at he
    exact hsrc3 i e he)
  have HEC := Lib.hid (show ∀ wx, Below W3.heap.size W3 wx → wx.cell? ⟨b, off + j * 3, none⟩ = some (.int .i64 x1) ∧ wx.cell? ⟨b, off + j * 3 + 1, none⟩ = some (.int .i64 x2) ∧ wx.cell? ⟨b, off + j * 3 + 2, none⟩ = some (.int .i64 x3) from fun wx h => by
    obtain ⟨z1, z2, z3⟩ := hsrc3 j _ HX.out
    exact ⟨cell_keep z1 h, cell_keep z2 h, cell_keep z3 h⟩)
  have HCT := Lib.hid (fun (b' : Nat) (W : World) (h : ∃ v3, SlR W b' [(.slice (some ⟨b, off + k * 3, none⟩) (es.length - k) (c - k), es.drop k), (.slice (some ⟨b, off, none⟩) k c, es.take k), (v3, [(x1, x2, x3)])]) => concat_law (es := es) (k := k) (x := (x1, x2, x3)) h.choose_spec (by omega))
  have j1 : k ≤ es.length := by omega
  have j2 : k ≤ c := by omega
  have hck : ¬ (c = k) := by omega
  have hwt : IntKind.i64.wrap (t : Int) = (t : Int) := by rw [IntKind.wrap_i64]; omega
  have hl0 : ¬ ((es.length : Int) = 0) := by omega
  have hl1 : ¬ (es.length = 0) := by omega
  have j3 : (j : Int) < (es.length : Int) := by omega
  have KB : Below W3.heap.size W3 W3.drew := (Below.refl _ _).drew
  clear hsrc3
  refine region_inv' (J := (fun Ls act wx => ∃ u42 u43 u44 u45 u46 u47 u48 u49 u50 u51 u52 u53 u54 u55 u56 u57 u58 u59 u60 u61 u62 u10, act = { tmps := #[grV L S (.slice (some ⟨b, off, none⟩) es.length c), .int .u8 (s : Int), .int .u8 (t : Int), .pointer (some ⟨w.heap.size, 0, none⟩), undef, undef, .bool false, .pointer (some ⟨p, 0, none⟩), .int .i64 re, .int .i64 (k : Int), u10, undef, undef, undef, undef, undef, undef, .agg #[.int .i64 L, .int .i64 S, .slice (some ⟨b, off, none⟩) es.length c], .bool false, .bool false, .pointer (some ⟨w.heap.size, 2, none⟩), .slice (some ⟨b, off, none⟩) es.length c, .int .i64 (es.length : Int), .bool false, .bool false, undef, .tuple #[grV rL rS (.slice a2 m c2), .int .i64 re], .pointer (some ⟨w.heap.size, 0, none⟩), .int .i64 L, .pointer (some ⟨w.heap.size, 1, none⟩), .int .i64 S, .pointer (some ⟨w.heap.size, 2, none⟩), .slice (some ⟨b, off, none⟩) es.length c, .tuple #[grV rL rS (.slice a2 m c2), .int .i64 re], grV rL rS (.slice a2 m c2), .int .i64 re, .int .u8 (s : Int), .int .i64 (s : Int), .pointer (some ⟨w.heap.size, 2, none⟩), .slice (some ⟨b, off, none⟩) es.length c, .int .i64 (es.length : Int), .int .i64 (k : Int), u42, u43, u44, u45, u46, u47, u48, u49, u50, u51, u52, u53, u54, u55, u56, u57, u58, u59, u60, u61, u62, undef, undef, undef, undef, undef, undef, undef, undef, undef, undef, undef, undef, undef, undef, undef, undef, undef, undef, undef, undef, undef, undef, undef, undef, undef, undef, undef, undef, undef, undef, undef, undef, undef, undef, undef, undef, undef, undef, undef, undef, undef, undef, undef, undef, undef, undef, undef, undef, undef, undef, undef, undef, undef, undef, undef, undef, undef, undef, undef, undef, undef, undef, undef, undef, undef, undef, undef, undef, undef, undef, undef, undef], defers := [] } ∧ Below W3.heap.size W3 wx ∧
      (Ls.getD 0 false = true → u42 = .pointer (some ⟨w.heap.size, 2, none⟩)) ∧ (Ls.getD 1 false = true → u43 = .slice (some ⟨b, off, none⟩) es.length c) ∧ (Ls.getD 2 false = true → u44 = .int .i64 (k : Int)) ∧ (Ls.getD 3 false = true → u45 = .slice (some ⟨b, off + k * 3, none⟩) (es.length - k) (c - k)) ∧ (Ls.getD 4 false = true → u46 = .pointer (some ⟨w.heap.size, 2, none⟩)) ∧ (Ls.getD 5 false = true → u47 = .slice (some ⟨b, off, none⟩) es.length c) ∧ (Ls.getD 6 false = true → u48 = .int .i64 (k : Int)) ∧ (Ls.getD 7 false = true → u49 = .slice (some ⟨b, off, none⟩) k c) ∧ (Ls.getD 8 false = true → u50 = .pointer (some ⟨w.heap.size, 2, none⟩)) ∧ (Ls.getD 9 false = true → u51 = .slice (some ⟨b, off, none⟩) es.length c) ∧ (Ls.getD 10 false = true → u52 = .int .u8 (t : Int)) ∧ (Ls.getD 11 false = true → u53 = .int .i64 (t : Int)) ∧ (Ls.getD 12 false = true → u54 = .pointer (some ⟨w.heap.size, 2, none⟩)) ∧ (Ls.getD 13 false = true → u55 = .slice (some ⟨b, off, none⟩) es.length c) ∧ (Ls.getD 14 false = true → u56 = .int .i64 (es.length : Int)) ∧ (Ls.getD 15 false = true → u57 = .int .i64 (j : Int)) ∧ (Ls.getD 16 false = true → u58 = .pointer (some ⟨b, off + j * 3, none⟩)) ∧ (Ls.getD 17 false = true → u59 = .agg #[.int .i64 x1, .int .i64 x2, .int .i64 x3]) ∧ (Ls.getD 18 false = true → BsE N (x1, x2, x3) u60 wx) ∧ (Ls.getD 19 false = true → SL3 N (.slice (some ⟨b, off + k * 3, none⟩) (es.length - k) (c - k)) (es.drop k) (.slice (some ⟨b, off, none⟩) k c) (es.take k) [(x1, x2, x3)] u61 wx) ∧ (Ls.getD 20 false = true → ESl w.heap.size (es.length + 1) (lawL es k (x1, x2, x3)) u62 wx) ∧ (Ls.getD 21 false = true → ESl w.heap.size (es.length + 1) (lawL es k (x1, x2, x3)) u10 wx))) hmx (by kernel_rfl) ?_ ?_ ?_
  · exact ⟨undef, undef, undef, undef, undef, undef, undef, undef, undef, undef, undef, undef, undef, undef, undef, undef, undef, undef, undef, undef, undef, undef, rfl, KB, fun h => absurd h (by decide), fun h => absurd h (by decide), fun h => absurd h (by decide), fun h => absurd h (by decide), fun h => absurd h (by decide), fun h => absurd h (by decide), fun h => absurd h (by decide), fun h => absurd h (by decide), fun h => absurd h (by decide), fun h => absurd h (by decide), fun h => absurd h (by decide), fun h => absurd h (by decide), fun h => absurd h (by decide), fun h => absurd h (by decide), fun h => absurd h (by decide), fun h => absurd h (by decide), fun h => absurd h (by decide), fun h => absurd h (by decide), fun h => absurd h (by decide), fun h => absurd h (by decide), fun h => absurd h (by decide), fun h => absurd h (by decide)⟩
  · intro i hi Ls act wx hl hw ⟨u42, u43, u44, u45, u46, u47, u48, u49, u50, u51, u52, u53, u54, u55, u56, u57, u58, u59, u60, u61, u62, u10, ha, lo, c0, c1, c2, c3, c4, c5, c6, c7, c8, c9, c10, c11, c12, c13, c14, c15, c16, c17, c18, c19, c20, c21⟩
    subst ha
    obtain ⟨g1, g2, g3⟩ := id (G2.out.keep lo)
    obtain ⟨y1, y2, y3⟩ := HEC.out wx lo
    clear KB
    have hi' : i = 0 ∨ i = 1 ∨ i = 2 ∨ i = 3 ∨ i = 4 ∨ i = 5 ∨ i = 6 ∨ i = 7 ∨ i = 8 ∨ i = 9 ∨ i = 10 ∨ i = 11 ∨ i = 12 ∨ i = 13 ∨ i = 14 ∨ i = 15 ∨ i = 16 ∨ i = 17 ∨ i = 18 ∨ i = 19 ∨ i = 20 ∨ i = 21 := by
      have : i < 22 := hi
      omega
    rcases hi' with rfl | rfl | rfl | rfl | rfl | rfl | rfl | rfl | rfl | rfl | rfl | rfl | rfl | rfl | rfl | rfl | rfl | rfl | rfl | rfl | rfl | rfl
    · refine stepJ (i := 0) rfl (fun K hK => ?_)
      go_simp
      refine hK.out _ _ ⟨_, u43, u44, u45, u46, u47, u48, u49, u50, u51, u52, u53, u54, u55, u56, u57, u58, u59, u60, u61, u62, u10, rfl, lo, fun _ => rfl, fun h => c1 (fl (by decide) h), fun h => c2 (fl (by decide) h), fun h => c3 (fl (by decide) h), fun h => c4 (fl (by decide) h), fun h => c5 (fl (by decide) h), fun h => c6 (fl (by decide) h), fun h => c7 (fl (by decide) h), fun h => c8 (fl (by decide) h), fun h => c9 (fl (by decide) h), fun h => c10 (fl (by decide) h), fun h => c11 (fl (by decide) h), fun h => c12 (fl (by decide) h), fun h => c13 (fl (by decide) h), fun h => c14 (fl (by decide) h), fun h => c15 (fl (by decide) h), fun h => c16 (fl (by decide) h), fun h => c17 (fl (by decide) h), fun h => (c18 (fl (by decide) h)), fun h => (c19 (fl (by decide) h)), fun h => (c20 (fl (by decide) h)), fun h => (c21 (fl (by decide) h))⟩
    · refine stepJ (i := 1) rfl (fun K hK => ?_)
      obtain rfl := c0 (hw 0 (by kernel_rfl))
      go_simp
      refine hK.out _ _ ⟨_, _, u44, u45, u46, u47, u48, u49, u50, u51, u52, u53, u54, u55, u56, u57, u58, u59, u60, u61, u62, u10, rfl, lo, fun _ => rfl, fun _ => rfl, fun h => c2 (fl (by decide) h), fun h => c3 (fl (by decide) h), fun h => c4 (fl (by decide) h), fun h => c5 (fl (by decide) h), fun h => c6 (fl (by decide) h), fun h => c7 (fl (by decide) h), fun h => c8 (fl (by decide) h), fun h => c9 (fl (by decide) h), fun h => c10 (fl (by decide) h), fun h => c11 (fl (by decide) h), fun h => c12 (fl (by decide) h), fun h => c13 (fl (by decide) h), fun h => c14 (fl (by decide) h), fun h => c15 (fl (by decide) h), fun h => c16 (fl (by decide) h), fun h => c17 (fl (by decide) h), fun h => (c18 (fl (by decide) h)), fun h => (c19 (fl (by decide) h)), fun h => (c20 (fl (by decide) h)), fun h => (c21 (fl (by decide) h))⟩
    · refine stepJ (i := 2) rfl (fun K hK => ?_)
      go_simp
      refine hK.out _ _ ⟨u42, u43, _, u45, u46, u47, u48, u49, u50, u51, u52, u53, u54, u55, u56, u57, u58, u59, u60, u61, u62, u10, rfl, lo, fun h => c0 (fl (by decide) h), fun h => c1 (fl (by decide) h), fun _ => rfl, fun h => c3 (fl (by decide) h), fun h => c4 (fl (by decide) h), fun h => c5 (fl (by decide) h), fun h => c6 (fl (by decide) h), fun h => c7 (fl (by decide) h), fun h => c8 (fl (by decide) h), fun h => c9 (fl (by decide) h), fun h => c10 (fl (by decide) h), fun h => c11 (fl (by decide) h), fun h => c12 (fl (by decide) h), fun h => c13 (fl (by decide) h), fun h => c14 (fl (by decide) h), fun h => c15 (fl (by decide) h), fun h => c16 (fl (by decide) h), fun h => c17 (fl (by decide) h), fun h => (c18 (fl (by decide) h)), fun h => (c19 (fl (by decide) h)), fun h => (c20 (fl (by decide) h)), fun h => (c21 (fl (by decide) h))⟩
    · refine stepJ (i := 3) rfl (fun K hK => ?_)
      obtain rfl := c1 (hw 1 (by kernel_rfl))
      obtain rfl := c2 (hw 2 (by kernel_rfl))
      go_simp
      refine hK.out _ _ ⟨u42, _, _, _, u46, u47, u48, u49, u50, u51, u52, u53, u54, u55, u56, u57, u58, u59, u60, u61, u62, u10, rfl, lo, fun h => c0 (fl (by decide) h), fun _ => rfl, fun _ => rfl, fun _ => rfl, fun h => c4 (fl (by decide) h), fun h => c5 (fl (by decide) h), fun h => c6 (fl (by decide) h), fun h => c7 (fl (by decide) h), fun h => c8 (fl (by decide) h), fun h => c9 (fl (by decide) h), fun h => c10 (fl (by decide) h), fun h => c11 (fl (by decide) h), fun h => c12 (fl (by decide) h), fun h => c13 (fl (by decide) h), fun h => c14 (fl (by decide) h), fun h => c15 (fl (by decide) h), fun h => c16 (fl (by decide) h), fun h => c17 (fl (by decide) h), fun h => (c18 (fl (by decide) h)), fun h => (c19 (fl (by decide) h)), fun h => (c20 (fl (by decide) h)), fun h => (c21 (fl (by decide) h))⟩
    · refine stepJ (i := 4) rfl (fun K hK => ?_)
      go_simp
      refine hK.out _ _ ⟨u42, u43, u44, u45, _, u47, u48, u49, u50, u51, u52, u53, u54, u55, u56, u57, u58, u59, u60, u61, u62, u10, rfl, lo, fun h => c0 (fl (by decide) h), fun h => c1 (fl (by decide) h), fun h => c2 (fl (by decide) h), fun h => c3 (fl (by decide) h), fun _ => rfl, fun h => c5 (fl (by decide) h), fun h => c6 (fl (by decide) h), fun h => c7 (fl (by decide) h), fun h => c8 (fl (by decide) h), fun h => c9 (fl (by decide) h), fun h => c10 (fl (by decide) h), fun h => c11 (fl (by decide) h), fun h => c12 (fl (by decide) h), fun h => c13 (fl (by decide) h), fun h => c14 (fl (by decide) h), fun h => c15 (fl (by decide) h), fun h => c16 (fl (by decide) h), fun h => c17 (fl (by decide) h), fun h => (c18 (fl (by decide) h)), fun h => (c19 (fl (by decide) h)), fun h => (c20 (fl (by decide) h)), fun h => (c21 (fl (by decide) h))⟩
    · refine stepJ (i := 5) rfl (fun K hK => ?_)
      obtain rfl := c4 (hw 4 (by kernel_rfl))
      go_simp
      refine hK.out _ _ ⟨u42, u43, u44, u45, _, _, u48, u49, u50, u51, u52, u53, u54, u55, u56, u57, u58, u59, u60, u61, u62, u10, rfl, lo, fun h => c0 (fl (by decide) h), fun h => c1 (fl (by decide) h), fun h => c2 (fl (by decide) h), fun h => c3 (fl (by decide) h), fun _ => rfl, fun _ => rfl, fun h => c6 (fl (by decide) h), fun h => c7 (fl (by decide) h), fun h => c8 (fl (by decide) h), fun h => c9 (fl (by decide) h), fun h => c10 (fl (by decide) h), fun h => c11 (fl (by decide) h), fun h => c12 (fl (by decide) h), fun h => c13 (fl (by decide) h), fun h => c14 (fl (by decide) h), fun h => c15 (fl (by decide) h), fun h => c16 (fl (by decide) h), fun h => c17 (fl (by decide) h), fun h => (c18 (fl (by decide) h)), fun h => (c19 (fl (by decide) h)), fun h => (c20 (fl (by decide) h)), fun h => (c21 (fl (by decide) h))⟩
    · refine stepJ (i := 6) rfl (fun K hK => ?_)
      go_simp
      refine hK.out _ _ ⟨u42, u43, u44, u45, u46, u47, _, u49, u50, u51, u52, u53, u54, u55, u56, u57, u58, u59, u60, u61, u62, u10, rfl, lo, fun h => c0 (fl (by decide) h), fun h => c1 (fl (by decide) h), fun h => c2 (fl (by decide) h), fun h => c3 (fl (by decide) h), fun h => c4 (fl (by decide) h), fun h => c5 (fl (by decide) h), fun _ => rfl, fun h => c7 (fl (by decide) h), fun h => c8 (fl (by decide) h), fun h => c9 (fl (by decide) h), fun h => c10 (fl (by decide) h), fun h => c11 (fl (by decide) h), fun h => c12 (fl (by decide) h), fun h => c13 (fl (by decide) h), fun h => c14 (fl (by decide) h), fun h => c15 (fl (by decide) h), fun h => c16 (fl (by decide) h), fun h => c17 (fl (by decide) h), fun h => (c18 (fl (by decide) h)), fun h => (c19 (fl (by decide) h)), fun h => (c20 (fl (by decide) h)), fun h => (c21 (fl (by decide) h))⟩
    · refine stepJ (i := 7) rfl (fun K hK => ?_)
      obtain rfl := c5 (hw 5 (by kernel_rfl))
      obtain rfl := c6 (hw 6 (by kernel_rfl))
      go_simp
      refine hK.out _ _ ⟨u42, u43, u44, u45, u46, _, _, _, u50, u51, u52, u53, u54, u55, u56, u57, u58, u59, u60, u61, u62, u10, rfl, lo, fun h => c0 (fl (by decide) h), fun h => c1 (fl (by decide) h), fun h => c2 (fl (by decide) h), fun h => c3 (fl (by decide) h), fun h => c4 (fl (by decide) h), fun _ => rfl, fun _ => rfl, fun _ => rfl, fun h => c8 (fl (by decide) h), fun h => c9 (fl (by decide) h), fun h => c10 (fl (by decide) h), fun h => c11 (fl (by decide) h), fun h => c12 (fl (by decide) h), fun h => c13 (fl (by decide) h), fun h => c14 (fl (by decide) h), fun h => c15 (fl (by decide) h), fun h => c16 (fl (by decide) h), fun h => c17 (fl (by decide) h), fun h => (c18 (fl (by decide) h)), fun h => (c19 (fl (by decide) h)), fun h => (c20 (fl (by decide) h)), fun h => (c21 (fl (by decide) h))⟩
    · refine stepJ (i := 8) rfl (fun K hK => ?_)
      go_simp
      refine hK.out _ _ ⟨u42, u43, u44, u45, u46, u47, u48, u49, _, u51, u52, u53, u54, u55, u56, u57, u58, u59, u60, u61, u62, u10, rfl, lo, fun h => c0 (fl (by decide) h), fun h => c1 (fl (by decide) h), fun h => c2 (fl (by decide) h), fun h => c3 (fl (by decide) h), fun h => c4 (fl (by decide) h), fun h => c5 (fl (by decide) h), fun h => c6 (fl (by decide) h), fun h => c7 (fl (by decide) h), fun _ => rfl, fun h => c9 (fl (by decide) h), fun h => c10 (fl (by decide) h), fun h => c11 (fl (by decide) h), fun h => c12 (fl (by decide) h), fun h => c13 (fl (by decide) h), fun h => c14 (fl (by decide) h), fun h => c15 (fl (by decide) h), fun h => c16 (fl (by decide) h), fun h => c17 (fl (by decide) h), fun h => (c18 (fl (by decide) h)), fun h => (c19 (fl (by decide) h)), fun h => (c20 (fl (by decide) h)), fun h => (c21 (fl (by decide) h))⟩
    · refine stepJ (i := 9) rfl (fun K hK => ?_)
      obtain rfl := c8 (hw 8 (by kernel_rfl))
      go_simp
      refine hK.out _ _ ⟨u42, u43, u44, u45, u46, u47, u48, u49, _, _, u52, u53, u54, u55, u56, u57, u58, u59, u60, u61, u62, u10, rfl, lo, fun h => c0 (fl (by decide) h), fun h => c1 (fl (by decide) h), fun h => c2 (fl (by decide) h), fun h => c3 (fl (by decide) h), fun h => c4 (fl (by decide) h), fun h => c5 (fl (by decide) h), fun h => c6 (fl (by decide) h), fun h => c7 (fl (by decide) h), fun _ => rfl, fun _ => rfl, fun h => c10 (fl (by decide) h), fun h => c11 (fl (by decide) h), fun h => c12 (fl (by decide) h), fun h => c13 (fl (by decide) h), fun h => c14 (fl (by decide) h), fun h => c15 (fl (by decide) h), fun h => c16 (fl (by decide) h), fun h => c17 (fl (by decide) h), fun h => (c18 (fl (by decide) h)), fun h => (c19 (fl (by decide) h)), fun h => (c20 (fl (by decide) h)), fun h => (c21 (fl (by decide) h))⟩
    · refine stepJ (i := 10) rfl (fun K hK => ?_)
      go_simp
      refine hK.out _ _ ⟨u42, u43, u44, u45, u46, u47, u48, u49, u50, u51, _, u53, u54, u55, u56, u57, u58, u59, u60, u61, u62, u10, rfl, lo, fun h => c0 (fl (by decide) h), fun h => c1 (fl (by decide) h), fun h => c2 (fl (by decide) h), fun h => c3 (fl (by decide) h), fun h => c4 (fl (by decide) h), fun h => c5 (fl (by decide) h), fun h => c6 (fl (by decide) h), fun h => c7 (fl (by decide) h), fun h => c8 (fl (by decide) h), fun h => c9 (fl (by decide) h), fun _ => rfl, fun h => c11 (fl (by decide) h), fun h => c12 (fl (by decide) h), fun h => c13 (fl (by decide) h), fun h => c14 (fl (by decide) h), fun h => c15 (fl (by decide) h), fun h => c16 (fl (by decide) h), fun h => c17 (fl (by decide) h), fun h => (c18 (fl (by decide) h)), fun h => (c19 (fl (by decide) h)), fun h => (c20 (fl (by decide) h)), fun h => (c21 (fl (by decide) h))⟩
    · refine stepJ (i := 11) rfl (fun K hK => ?_)
      obtain rfl := c10 (hw 10 (by kernel_rfl))
      go_simp
      refine hK.out _ _ ⟨u42, u43, u44, u45, u46, u47, u48, u49, u50, u51, _, _, u54, u55, u56, u57, u58, u59, u60, u61, u62, u10, rfl, lo, fun h => c0 (fl (by decide) h), fun h => c1 (fl (by decide) h), fun h => c2 (fl (by decide) h), fun h => c3 (fl (by decide) h), fun h => c4 (fl (by decide) h), fun h => c5 (fl (by decide) h), fun h => c6 (fl (by decide) h), fun h => c7 (fl (by decide) h), fun h => c8 (fl (by decide) h), fun h => c9 (fl (by decide) h), fun _ => rfl, fun _ => rfl, fun h => c12 (fl (by decide) h), fun h => c13 (fl (by decide) h), fun h => c14 (fl (by decide) h), fun h => c15 (fl (by decide) h), fun h => c16 (fl (by decide) h), fun h => c17 (fl (by decide) h), fun h => (c18 (fl (by decide) h)), fun h => (c19 (fl (by decide) h)), fun h => (c20 (fl (by decide) h)), fun h => (c21 (fl (by decide) h))⟩
    · refine stepJ (i := 12) rfl (fun K hK => ?_)
      go_simp
      refine hK.out _ _ ⟨u42, u43, u44, u45, u46, u47, u48, u49, u50, u51, u52, u53, _, u55, u56, u57, u58, u59, u60, u61, u62, u10, rfl, lo, fun h => c0 (fl (by decide) h), fun h => c1 (fl (by decide) h), fun h => c2 (fl (by decide) h), fun h => c3 (fl (by decide) h), fun h => c4 (fl (by decide) h), fun h => c5 (fl (by decide) h), fun h => c6 (fl (by decide) h), fun h => c7 (fl (by decide) h), fun h => c8 (fl (by decide) h), fun h => c9 (fl (by decide) h), fun h => c10 (fl (by decide) h), fun h => c11 (fl (by decide) h), fun _ => rfl, fun h => c13 (fl (by decide) h), fun h => c14 (fl (by decide) h), fun h => c15 (fl (by decide) h), fun h => c16 (fl (by decide) h), fun h => c17 (fl (by decide) h), fun h => (c18 (fl (by decide) h)), fun h => (c19 (fl (by decide) h)), fun h => (c20 (fl (by decide) h)), fun h => (c21 (fl (by decide) h))⟩
    · refine stepJ (i := 13) rfl (fun K hK => ?_)
      obtain rfl := c12 (hw 12 (by kernel_rfl))
      go_simp
      refine hK.out _ _ ⟨u42, u43, u44, u45, u46, u47, u48, u49, u50, u51, u52, u53, _, _, u56, u57, u58, u59, u60, u61, u62, u10, rfl, lo, fun h => c0 (fl (by decide) h), fun h => c1 (fl (by decide) h), fun h => c2 (fl (by decide) h), fun h => c3 (fl (by decide) h), fun h => c4 (fl (by decide) h), fun h => c5 (fl (by decide) h), fun h => c6 (fl (by decide) h), fun h => c7 (fl (by decide) h), fun h => c8 (fl (by decide) h), fun h => c9 (fl (by decide) h), fun h => c10 (fl (by decide) h), fun h => c11 (fl (by decide) h), fun _ => rfl, fun _ => rfl, fun h => c14 (fl (by decide) h), fun h => c15 (fl (by decide) h), fun h => c16 (fl (by decide) h), fun h => c17 (fl (by decide) h), fun h => (c18 (fl (by decide) h)), fun h => (c19 (fl (by decide) h)), fun h => (c20 (fl (by decide) h)), fun h => (c21 (fl (by decide) h))⟩
    · refine stepJ (i := 14) rfl (fun K hK => ?_)
      obtain rfl := c13 (hw 13 (by kernel_rfl))
      go_simp
      refine hK.out _ _ ⟨u42, u43, u44, u45, u46, u47, u48, u49, u50, u51, u52, u53, u54, _, _, u57, u58, u59, u60, u61, u62, u10, rfl, lo, fun h => c0 (fl (by decide) h), fun h => c1 (fl (by decide) h), fun h => c2 (fl (by decide) h), fun h => c3 (fl (by decide) h), fun h => c4 (fl (by decide) h), fun h => c5 (fl (by decide) h), fun h => c6 (fl (by decide) h), fun h => c7 (fl (by decide) h), fun h => c8 (fl (by decide) h), fun h => c9 (fl (by decide) h), fun h => c10 (fl (by decide) h), fun h => c11 (fl (by decide) h), fun h => c12 (fl (by decide) h), fun _ => rfl, fun _ => rfl, fun h => c15 (fl (by decide) h), fun h => c16 (fl (by decide) h), fun h => c17 (fl (by decide) h), fun h => (c18 (fl (by decide) h)), fun h => (c19 (fl (by decide) h)), fun h => (c20 (fl (by decide) h)), fun h => (c21 (fl (by decide) h))⟩
    · refine stepJ (i := 15) rfl (fun K hK => ?_)
      obtain rfl := c11 (hw 11 (by kernel_rfl))
      obtain rfl := c14 (hw 14 (by kernel_rfl))
      go_simp
      refine hK.out _ _ ⟨u42, u43, u44, u45, u46, u47, u48, u49, u50, u51, u52, _, u54, u55, _, _, u58, u59, u60, u61, u62, u10, rfl, lo, fun h => c0 (fl (by decide) h), fun h => c1 (fl (by decide) h), fun h => c2 (fl (by decide) h), fun h => c3 (fl (by decide) h), fun h => c4 (fl (by decide) h), fun h => c5 (fl (by decide) h), fun h => c6 (fl (by decide) h), fun h => c7 (fl (by decide) h), fun h => c8 (fl (by decide) h), fun h => c9 (fl (by decide) h), fun h => c10 (fl (by decide) h), fun _ => rfl, fun h => c12 (fl (by decide) h), fun h => c13 (fl (by decide) h), fun _ => rfl, fun _ => rfl, fun h => c16 (fl (by decide) h), fun h => c17 (fl (by decide) h), fun h => (c18 (fl (by decide) h)), fun h => (c19 (fl (by decide) h)), fun h => (c20 (fl (by decide) h)), fun h => (c21 (fl (by decide) h))⟩
    · refine stepJ (i := 16) rfl (fun K hK => ?_)
      obtain rfl := c9 (hw 9 (by kernel_rfl))
      obtain rfl := c15 (hw 15 (by kernel_rfl))
      go_simp
      refine hK.out _ _ ⟨u42, u43, u44, u45, u46, u47, u48, u49, u50, _, u52, u53, u54, u55, u56, _, _, u59, u60, u61, u62, u10, rfl, lo, fun h => c0 (fl (by decide) h), fun h => c1 (fl (by decide) h), fun h => c2 (fl (by decide) h), fun h => c3 (fl (by decide) h), fun h => c4 (fl (by decide) h), fun h => c5 (fl (by decide) h), fun h => c6 (fl (by decide) h), fun h => c7 (fl (by decide) h), fun h => c8 (fl (by decide) h), fun _ => rfl, fun h => c10 (fl (by decide) h), fun h => c11 (fl (by decide) h), fun h => c12 (fl (by decide) h), fun h => c13 (fl (by decide) h), fun h => c14 (fl (by decide) h), fun _ => rfl, fun _ => rfl, fun h => c17 (fl (by decide) h), fun h => (c18 (fl (by decide) h)), fun h => (c19 (fl (by decide) h)), fun h => (c20 (fl (by decide) h)), fun h => (c21 (fl (by decide) h))⟩
    · refine stepJ (i := 17) rfl (fun K hK => ?_)
      obtain rfl := c16 (hw 16 (by kernel_rfl))
      go_simp
      refine hK.out _ _ ⟨u42, u43, u44, u45, u46, u47, u48, u49, u50, u51, u52, u53, u54, u55, u56, u57, _, _, u60, u61, u62, u10, rfl, lo, fun h => c0 (fl (by decide) h), fun h => c1 (fl (by decide) h), fun h => c2 (fl (by decide) h), fun h => c3 (fl (by decide) h), fun h => c4 (fl (by decide) h), fun h => c5 (fl (by decide) h), fun h => c6 (fl (by decide) h), fun h => c7 (fl (by decide) h), fun h => c8 (fl (by decide) h), fun h => c9 (fl (by decide) h), fun h => c10 (fl (by decide) h), fun h => c11 (fl (by decide) h), fun h => c12 (fl (by decide) h), fun h => c13 (fl (by decide) h), fun h => c14 (fl (by decide) h), fun h => c15 (fl (by decide) h), fun _ => rfl, fun _ => rfl, fun h => (c18 (fl (by decide) h)), fun h => (c19 (fl (by decide) h)), fun h => (c20 (fl (by decide) h)), fun h => (c21 (fl (by decide) h))⟩
    · refine stepJ (i := 18) rfl (fun K hK => ?_)
      obtain rfl := c17 (hw 17 (by kernel_rfl))
      go_simp
      refine hK.out _ _ ⟨u42, u43, u44, u45, u46, u47, u48, u49, u50, u51, u52, u53, u54, u55, u56, u57, u58, _, _, u61, u62, u10, rfl, lo.alloc lo.size _, fun h => c0 (fl (by decide) h), fun h => c1 (fl (by decide) h), fun h => c2 (fl (by decide) h), fun h => c3 (fl (by decide) h), fun h => c4 (fl (by decide) h), fun h => c5 (fl (by decide) h), fun h => c6 (fl (by decide) h), fun h => c7 (fl (by decide) h), fun h => c8 (fl (by decide) h), fun h => c9 (fl (by decide) h), fun h => c10 (fl (by decide) h), fun h => c11 (fl (by decide) h), fun h => c12 (fl (by decide) h), fun h => c13 (fl (by decide) h), fun h => c14 (fl (by decide) h), fun h => c15 (fl (by decide) h), fun h => c16 (fl (by decide) h), fun _ => rfl, fun _ => BsE.new (by rw [← hN]; exact lo.size), fun h => (c19 (fl (by decide) h)).keep (below1 wx _), fun h => (c20 (fl (by decide) h)).keep (below1 wx _), fun h => (c21 (fl (by decide) h)).keep (below1 wx _)⟩
    · refine stepJ (i := 19) rfl (fun K hK => ?_)
      obtain rfl := c3 (hw 3 (by kernel_rfl))
      obtain rfl := c7 (hw 7 (by kernel_rfl))
      obtain ⟨pp, rfl, hpp, hbx⟩ := c18 (hw 18 (by kernel_rfl))
      have hbx := Lib.hid hbx
      go_simp
      refine hK.out _ _ ⟨u42, u43, u44, _, u46, u47, u48, _, u50, u51, u52, u53, u54, u55, u56, u57, u58, u59, _, _, u62, u10, rfl, lo.alloc lo.size _, fun h => c0 (fl (by decide) h), fun h => c1 (fl (by decide) h), fun h => c2 (fl (by decide) h), fun _ => rfl, fun h => c4 (fl (by decide) h), fun h => c5 (fl (by decide) h), fun h => c6 (fl (by decide) h), fun _ => rfl, fun h => c8 (fl (by decide) h), fun h => c9 (fl (by decide) h), fun h => c10 (fl (by decide) h), fun h => c11 (fl (by decide) h), fun h => c12 (fl (by decide) h), fun h => c13 (fl (by decide) h), fun h => c14 (fl (by decide) h), fun h => c15 (fl (by decide) h), fun h => c16 (fl (by decide) h), fun h => c17 (fl (by decide) h), fun _ => ⟨pp, rfl, hpp, hbx.keep (below1 wx _)⟩, fun _ => SL3.new (by rw [← hN]; exact lo.size) (HS1.out.keep lo) (HS2.out.keep lo) (Box3.src hbx.out), fun h => (c20 (fl (by decide) h)).keep (below1 wx _), fun h => (c21 (fl (by decide) h)).keep (below1 wx _)⟩
    · refine stepJ (i := 20) rfl (fun K hK => ?_)
      obtain ⟨pq, rfl, hpq, hsl⟩ := c19 (hw 19 (by kernel_rfl))
      have hsl := Lib.hid hsl
      go_simp
      go_at_call 26
      refine (HCT.out _ _ hsl.out).mono ?_
      rintro e W2 ⟨a', c', rfl, i2, b2⟩
      have i2 := Lib.hid i2
      go_wp2_with fail
      refine hK.out _ _ ⟨u42, u43, u44, u45, u46, u47, u48, u49, u50, u51, u52, u53, u54, u55, u56, u57, u58, u59, u60, _, _, u10, rfl, below_more lo (Nat.le_refl _) b2, fun h => c0 (fl (by decide) h), fun h => c1 (fl (by decide) h), fun h => c2 (fl (by decide) h), fun h => c3 (fl (by decide) h), fun h => c4 (fl (by decide) h), fun h => c5 (fl (by decide) h), fun h => c6 (fl (by decide) h), fun h => c7 (fl (by decide) h), fun h => c8 (fl (by decide) h), fun h => c9 (fl (by decide) h), fun h => c10 (fl (by decide) h), fun h => c11 (fl (by decide) h), fun h => c12 (fl (by decide) h), fun h => c13 (fl (by decide) h), fun h => c14 (fl (by decide) h), fun h => c15 (fl (by decide) h), fun h => c16 (fl (by decide) h), fun h => c17 (fl (by decide) h), fun h => (c18 (fl (by decide) h)).keep b2, fun _ => ⟨pq, rfl, hpq, hsl.out.choose, hsl.out.choose_spec.keep b2⟩, fun _ => ⟨a', c', rfl, own_low i2.out (Nat.le_trans B2.out.size lo.size)⟩, fun h => (c21 (fl (by decide) h)).keep b2⟩
    · refine stepJ (i := 21) rfl (fun K hK => ?_)
      obtain ⟨a', c', rfl, i2⟩ := c20 (hw 20 (by kernel_rfl))
      have i2 := Lib.hid i2
      go_simp
      refine hK.out _ _ ⟨u42, u43, u44, u45, u46, u47, u48, u49, u50, u51, u52, u53, u54, u55, u56, u57, u58, u59, u60, u61, _, _, rfl, lo, fun h => c0 (fl (by decide) h), fun h => c1 (fl (by decide) h), fun h => c2 (fl (by decide) h), fun h => c3 (fl (by decide) h), fun h => c4 (fl (by decide) h), fun h => c5 (fl (by decide) h), fun h => c6 (fl (by decide) h), fun h => c7 (fl (by decide) h), fun h => c8 (fl (by decide) h), fun h => c9 (fl (by decide) h), fun h => c10 (fl (by decide) h), fun h => c11 (fl (by decide) h), fun h => c12 (fl (by decide) h), fun h => c13 (fl (by decide) h), fun h => c14 (fl (by decide) h), fun h => c15 (fl (by decide) h), fun h => c16 (fl (by decide) h), fun h => c17 (fl (by decide) h), fun h => (c18 (fl (by decide) h)), fun h => (c19 (fl (by decide) h)), fun _ => ⟨a', c', rfl, i2.out⟩, fun _ => ⟨a', c', rfl, i2.out⟩⟩
  · rintro Ls act wx hall ⟨u42, u43, u44, u45, u46, u47, u48, u49, u50, u51, u52, u53, u54, u55, u56, u57, u58, u59, u60, u61, u62, u10, rfl, lo, c0, c1, c2, c3, c4, c5, c6, c7, c8, c9, c10, c11, c12, c13, c14, c15, c16, c17, c18, c19, c20, c21⟩
    obtain rfl := c0 (hall 0 (by decide))
    obtain rfl := c1 (hall 1 (by decide))
    obtain rfl := c2 (hall 2 (by decide))
    obtain rfl := c3 (hall 3 (by decide))
    obtain rfl := c4 (hall 4 (by decide))
    obtain rfl := c5 (hall 5 (by decide))
    obtain rfl := c6 (hall 6 (by decide))
    obtain rfl := c7 (hall 7 (by decide))
    obtain rfl := c8 (hall 8 (by decide))
    obtain rfl := c9 (hall 9 (by decide))
    obtain rfl := c10 (hall 10 (by decide))
    obtain rfl := c11 (hall 11 (by decide))
    obtain rfl := c12 (hall 12 (by decide))
    obtain rfl := c13 (hall 13 (by decide))
    obtain rfl := c14 (hall 14 (by decide))
    obtain rfl := c15 (hall 15 (by decide))
    obtain rfl := c16 (hall 16 (by decide))
    obtain rfl := c17 (hall 17 (by decide))
    have P18 := c18 (hall 18 (by decide))
    have P19 := c19 (hall 19 (by decide))
    have P20 := c20 (hall 20 (by decide))
    have P21 := c21 (hall 21 (by decide))
    clear hall c0 c1 c2 c3 c4 c5 c6 c7 c8 c9 c10 c11 c12 c13 c14 c15 c16 c17 c18 c19 c20 c21
    dsimp only
    obtain ⟨p60, rfl, -, -⟩ := P18
    obtain ⟨p61, rfl, -, -⟩ := P19
    obtain ⟨a62, c62, rfl, -⟩ := P20
    obtain ⟨a10, c10, rfl, I10⟩ := P21
    have IX := Lib.hid I10
    have BX := Lib.hid (below_more B2.out (Nat.le_refl _) lo)
    have EX := Lib.hid (EdgesAt.keep E2.out lo)
    have QX := Lib.hid (Q2.out.keep lo)
    have GX := Lib.hid (G2.out.keep lo)
    have HSM := Lib.hid (fun v1 v2 W h h' => same_yes rL rS rm v1 v2 W h h' (by rw [HRM.out]; omega))
    clear lo I10 G2 B2 E2 Q2 g1 g2 g3 KB HS1 HS2 HEC HCT hck hwt hl0 hl1 j1 j2 j3 hN
    obtain ⟨g1, g2, g3⟩ := id GX.out
    go_upto_region 7 with (go_at_call 11; (with_reducible refine (HM2.out _ _ (EdgesAt.rd IX.out)).mono ?_); rintro e0 W4 ⟨a4, c4, rfl, e4, b4⟩; (have bm := below1 W4 (.cells #[.int .i64 rL, .int .i64 rS, .slice a4 m c4] 24)); (have Z4 := Lib.hid (show GM w L S (.slice (some ⟨b, off, none⟩) es.length c) p rL rS (.slice a2 m c2) rm _ from ⟨(GX.out.keep b4).keep bm, (QX.out.keep b4).keep bm, (EdgesAt.keep EX.out b4).keep bm, below_more (below_more BX.out (Nat.le_refl _) b4) (Nat.le_refl _) bm⟩)); (have F4 := Lib.hid (show EdgesAt _ w.heap.size (.slice a4 m c4) rm from own_low (e4.keep bm) BX.out.size)); (have R4 := Lib.hid (BoxG.new W4 rL rS (.slice a4 m c4) 24)); (clear e4 b4 bm IX BX EX QX GX g1 g2 g3))
    obtain ⟨p11, hp11⟩ : ∃ p, W4.heap.size = p := ⟨_, rfl⟩
    obtain ⟨W5, hW5⟩ : ∃ W5, W4.alloc (.cells #[.int .i64 rL, .int .i64 rS, .slice a4 m c4] 24) = W5 := ⟨_, rfl⟩
    rw [hW5] at Z4 F4
    rw [hW5, hp11] at R4
    rw [hW5, hp11]
    clear hW5 hp11
    obtain ⟨q1, q2, q3⟩ := id Z4.out.r
    obtain ⟨r1, r2, r3⟩ := id R4.out
    by_cases hre : re = 0
    · obtain ⟨hEq, hck2⟩ := HR0.out hre
      subst hre
      obtain ⟨rfl, rfl⟩ : rL = L ∧ rS = S := ⟨hEq.1, hEq.2.1⟩
      have HMM := Lib.hid hEq.2.2
      have HIN1 := Lib.hid (fun x (hx : x ∈ es) v W h => hasE_any (es := rm) (x := x) (by rw [HMM.out]; exact mkE_mem.2 hx) (by rw [HRM.out]; omega) v W h)
      have HIN2 := Lib.hid (fun x (hx : x ∈ rm) W h => hasE_any (es := es) (x := x) (by rw [HMM.out] at hx; exact mkE_mem.1 hx) (by omega) (.slice (some ⟨b, off, none⟩) es.length c) W h)
      have HCK := Lib.hid (show ∀ v W, EdgesRd W v rm → Calls Tryd.prog 13 #[grV rL rS v] W fun e w' => e = .returned (.int .i64 0) ∧ Below W.heap.size W w' from fun v W h => by
        have h9 := gcheck_any rL rS rm v W h (by rw [HRM.out]; omega)
        rw [hck2] at h9
        exact h9)
      clear hEq hck2 HR0
      go_wp2_with (go_at_call 15; (with_reducible refine (HSM.out _ _ _ (EdgesAt.rd Z4.out.re) (EdgesAt.rd F4.out)).mono ?_); rintro e0 W6 ⟨rfl, b6⟩; (have Z6 := Lib.hid (Z4.out.keep b6)); (clear b6 Z4 F4 R4 q1 q2 q3 r1 r2 r3); (obtain ⟨g1, g2, g3⟩ := id Z6.out.g); (obtain ⟨q1, q2, q3⟩ := id Z6.out.r))
      go_loopg [92] es.length (fun q s92 wy => ∃ i : Nat, i + q = es.length ∧ s92 = .int .i64 (i : Int) ∧ GM w rL rS (.slice (some ⟨b, off, none⟩) es.length c) p rL rS (.slice a2 m c2) rm wy)
      case atStart => exact ⟨0, by omega, rfl, Z6.out⟩
      case round =>
        clear Z6 g1 g2 g3 q1 q2 q3
        obtain ⟨i, hiq, rfl, hZ⟩ := hrel
        have ZR := Lib.hid hZ
        clear hZ
        rcases gk with _ | q
        · obtain rfl : i = es.length := by omega
          obtain ⟨q1, q2, q3⟩ := id ZR.out.r
          clear hiq
          go_wp2_with fail
          go_loopg [105] m (fun q s105 wy => ∃ n : Nat, n + q = m ∧ s105 = .int .i64 (n : Int) ∧ GM w rL rS (.slice (some ⟨b, off, none⟩) es.length c) p rL rS (.slice a2 m c2) rm wy)
          case atStart => exact ⟨0, by omega, rfl, ZR.out⟩
          case round =>
            clear ZR q1 q2 q3
            obtain ⟨n, hnq, rfl, hZ⟩ := hrel
            have ZS := Lib.hid hZ
            clear hZ
            rcases gk with _ | q
            · obtain rfl : n = m := by omega
              obtain ⟨q1, q2, q3⟩ := id ZS.out.r
              clear hnq
              go_wp2_with (first
                | (go_at_call 13; (with_reducible refine (HCK.out _ _ (EdgesAt.rd ZS.out.re)).mono ?_); rintro e0 W7 ⟨rfl, b7⟩; (have Z7 := Lib.hid (ZS.out.keep b7)); (clear b7 ZS q1 q2 q3); (obtain ⟨g1, g2, g3⟩ := id Z7.out.g); (obtain ⟨q1, q2, q3⟩ := id Z7.out.r))
                | (go_at_call 10; (with_reducible refine (HAW.out _).mono ?_); rintro e0 W8 ⟨rfl, b8⟩; (have B8 := Lib.hid (below_more Z7.out.b (Nat.le_refl _) b8)); (clear b8)))
              go_ret
              exact ⟨rfl, B8.out⟩
            · obtain ⟨y, hy⟩ : ∃ y, rm[n]? = some y := ⟨_, List.getElem?_eq_getElem (by have := HRM.out; omega)⟩
              have hym := List.mem_of_getElem? hy
              obtain ⟨b2', off2', c2', hv, k1, k2, k3⟩ := (EdgesAt.rd ZS.out.re).at hy
              injection hv with e1 e2 e3
              subst e1
              subst e3
              have HI := Lib.hid (fun W h => HIN2.out y hym W h)
              obtain ⟨y1, y2, y3⟩ := y
              dsimp only at k1 k2 k3
              have j1 : (n : Int) < (m : Int) := by omega
              have ZB := Lib.hid (ZS.out.keep (below1 wr (.cells #[.int .i64 y1, .int .i64 y2, .int .i64 y3] 43)))
              obtain ⟨g1, g2, g3⟩ := id ZB.out.g
              clear hy hym e2
              go_wp2_with (go_at_call 27; (with_reducible refine (HI.out _ (HRD.out.keep ZB.out.b)).mono ?_); rintro e0 W7 ⟨rfl, b7⟩; (have Z7 := Lib.hid (ZB.out.keep b7)); (clear b7 ZB g1 g2 g3))
              go_roundg q
              case measure => omega
              case rel => exact ⟨n + 1, by omega, by go_num, Z7.out⟩
        · obtain ⟨y, hy⟩ : ∃ y, es[i]? = some y := ⟨_, List.getElem?_eq_getElem (by omega)⟩
          have hym := List.mem_of_getElem? hy
          obtain ⟨b2', off2', c2', hv, k1, k2, k3⟩ := (HRD.out.keep ZR.out.b).at hy
          injection hv with e1 e2 e3
          injection e1 with e1
          injection e1 with e1 e4
          subst e1
          subst e4
          have HI := Lib.hid (fun v W h => HIN1.out y hym v W h)
          obtain ⟨y1, y2, y3⟩ := y
          dsimp only at k1 k2 k3
          have j1 : (i : Int) < (es.length : Int) := by omega
          have ZB := Lib.hid (ZR.out.keep (below1 wr (.cells #[.int .i64 y1, .int .i64 y2, .int .i64 y3] 43)))
          obtain ⟨q1, q2, q3⟩ := id ZB.out.r
          clear hy hym e2 e3
          go_wp2_with (go_at_call 27; (with_reducible refine (HI.out _ _ (EdgesAt.rd ZB.out.re)).mono ?_); rintro e0 W7 ⟨rfl, b7⟩; (have Z7 := Lib.hid (ZB.out.keep b7)); (clear b7 ZB q1 q2 q3))
          go_roundg q
          case measure => omega
          case rel => exact ⟨i + 1, by omega, by go_num, Z7.out⟩
    · obtain ⟨rfl, rfl, rfl⟩ := HRN.out hre
      have d9 : (re != 0) = true := by simpa using hre
      obtain rfl : m = 0 := by have := HRM.out; simpa using this.symm
      have HSN := Lib.hid (fun v1 W h => same_yes 0 0 [] v1 (.slice none 0 0) W h ⟨none, 0, rfl, fun i x hx => by cases hx⟩ (by decide))
      clear hre
      go_wp2_with (first
        | (go_at_call 15; (with_reducible refine (HSM.out _ _ _ (EdgesAt.rd Z4.out.re) (EdgesAt.rd F4.out)).mono ?_); rintro e0 W6 ⟨rfl, b6⟩; (have Z6 := Lib.hid (Z4.out.keep b6)); (clear b6 Z4 F4 R4 q1 q2 q3 r1 r2 r3); (obtain ⟨q1, q2, q3⟩ := id Z6.out.r))
        | (go_at_call 15; (with_reducible refine (HSN.out _ _ (EdgesAt.rd Z6.out.re)).mono ?_); rintro e0 W7 ⟨rfl, b7⟩; (have B7 := Lib.hid (below_more Z6.out.b (Nat.le_refl _) b7)); (clear b7 Z6 q1 q2 q3))
        | (go_at_call 10; (with_reducible refine (HAW.out _).mono ?_); rintro e0 W8 ⟨rfl, b8⟩; (have B8 := Lib.hid (below_more B7.out (Nat.le_refl _) b8)); (clear b8)))
      go_ret
      exact ⟨rfl, B8.out⟩
end Go.Proofs.YtiebhalefdpjiaaDoor
