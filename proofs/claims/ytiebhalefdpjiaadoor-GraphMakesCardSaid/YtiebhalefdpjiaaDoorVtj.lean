/- What slices.Grow of nothing and slices.Concat of rows of edges return. Condition: at least one edge, at most 100000 in all. -/
import Derived.Test.YtiebhalefdpjiaaDoorVtf
import Derived.Test.YtiebhalefdpjiaaDoorGen2
namespace Go.Proofs.YtiebhalefdpjiaaDoor
open Go.RowKit Go.Shelf
set_option linter.unusedSimpArgs false
set_option linter.unusedVariables false

theorem grow_nil (n : Nat) (w : World) (h1 : 1 ≤ n) (h2 : n ≤ 100000) :
    Calls Tryd.prog 52 #[.slice none 0 0, .int .i64 (n : Int)] w fun e w' => ∃ c, e = .returned (.slice (some ⟨w.heap.size, 0, none⟩) 0 c) ∧ EdgesAt w' w.heap.size (.slice (some ⟨w.heap.size, 0, none⟩) 0 c) [] ∧ Below w.heap.size w w' := by
  obtain ⟨i0, hi, hz0, hz1, hz2⟩ := info_parts Tryd.infoEdge
  have h := Any8.slices_Grow_grow Tryd.growE i0 _ hi hz0 (by rw [hz1]; decide) none 0 0 n [] w (Nat.le_refl _) (by omega) (by rw [hz2]; omega) (by omega) (by simp) (fun _ => rfl) (fun a e => by cases e)
  have ht : Tryd.growE_ren.t 25 = 43 := rfl
  simp only [ht] at h
  refine h.mono ?_
  rintro e w' ⟨rfl, rfl⟩
  simp only [Nat.zero_add, Nat.sub_zero]
  refine ⟨_, rfl, ?_, (Below.refl _ w).drew.alloc (Nat.le_refl _) _⟩
  have hc := grownCap_ge w n 0 43
  have hm := grownCap_le_maxLen w n 0 43 (by unfold maxLen; omega)
  refine World.ownsRow_made w.drew _ (grownCap w n 0 43) (Nat.le_refl _) hm ?_
  show (_ ++ _ ++ _ : Array Value).size = _
  rw [Array.size_append, Array.size_append, size_zeroCells, size_zeroCells]
  have : (Value.agg #[.int .i64 0, .int .i64 0, .int .i64 0]).cells.size = 3 := rfl
  rw [this]
  simp
  omega
/-- Edges that lie somewhere. -/
def ESrc (W : World) (v : Value) (es : List E3) : Prop := ∃ b off c, v = .slice (some ⟨b, off, none⟩) es.length c ∧ ∀ (i : Nat) (e : E3), es[i]? = some e →
  W.cell? ⟨b, off + i * 3, none⟩ = some (.int .i64 e.1) ∧ W.cell? ⟨b, off + i * 3 + 1, none⟩ = some (.int .i64 e.2.1) ∧ W.cell? ⟨b, off + i * 3 + 2, none⟩ = some (.int .i64 e.2.2)
theorem ESrc.keep {W W' : World} {v : Value} {es : List E3} (h : ESrc W v es) (hb : Below W.heap.size W W') : ESrc W' v es := by
  obtain ⟨b, off, c, h1, h2⟩ := h
  exact ⟨b, off, c, h1, fun i e he => ⟨cell_keep (h2 i e he).1 hb, cell_keep (h2 i e he).2.1 hb, cell_keep (h2 i e he).2.2 hb⟩⟩
theorem src_cells {W : World} {b off : Nat} {es : List E3} (h : ∀ (i : Nat) (e : E3), es[i]? = some e →
    W.cell? ⟨b, off + i * 3, none⟩ = some (.int .i64 e.1) ∧ W.cell? ⟨b, off + i * 3 + 1, none⟩ = some (.int .i64 e.2.1) ∧ W.cell? ⟨b, off + i * 3 + 2, none⟩ = some (.int .i64 e.2.2)) :
    ∀ (j : Nat) (u : Value), (ecl es)[j]? = some u → W.cell? ((⟨b, off, none⟩ : Addr).add j) = some u := by
  intro j u hj
  have hjl := (List.getElem?_eq_some_iff.1 hj).1
  rw [ecl_len] at hjl
  obtain ⟨i, hi⟩ : ∃ i, j / 3 = i := ⟨_, rfl⟩
  obtain ⟨d, hd⟩ : ∃ d, j % 3 = d := ⟨_, rfl⟩
  have hil : i < es.length := by omega
  have he := List.getElem?_eq_getElem hil
  obtain ⟨x1, x2, x3⟩ := ecl_at he
  obtain ⟨y1, y2, y3⟩ := h i _ he
  have ha : ((⟨b, off, none⟩ : Addr).add j) = ⟨b, off + j, none⟩ := by simp [Addr.add]
  rw [ha]
  rcases (show d = 0 ∨ d = 1 ∨ d = 2 by omega) with rfl | rfl | rfl
  · obtain rfl : j = i * 3 := by omega
    rw [x1] at hj; injection hj with hj; subst hj; exact y1
  · obtain rfl : j = i * 3 + 1 := by omega
    rw [x2] at hj; injection hj with hj; subst hj; rw [← Nat.add_assoc]; exact y2
  · obtain rfl : j = i * 3 + 2 := by omega
    rw [x3] at hj; injection hj with hj; subst hj; rw [← Nat.add_assoc]; exact y3
theorem ecl_one {es : List E3} : ∀ v ∈ ecl es, v.oneCell' = true := by
  intro v hv
  unfold ecl at hv
  obtain ⟨e, -, h⟩ := List.mem_flatMap.1 hv
  simp [encE] at h
  rcases h with rfl | rfl | rfl <;> rfl
theorem ecl_append (es fs : List E3) : ecl (es ++ fs) = ecl es ++ ecl fs := by unfold ecl; rw [List.flatMap_append]
/-- Rows that lie in a row. -/
def SlR (W : World) (b : Nat) (vs : List (Value × List E3)) : Prop := ∀ (i : Nat) (p : Value × List E3), vs[i]? = some p → W.cell? ⟨b, i, none⟩ = some p.1 ∧ ESrc W p.1 p.2
theorem SlR.keep {W W' : World} {b : Nat} {vs : List (Value × List E3)} (h : SlR W b vs) (hb : Below W.heap.size W W') : SlR W' b vs := fun i p hp => ⟨cell_keep (h i p hp).1 hb, (h i p hp).2.keep hb⟩
def catE (vs : List (Value × List E3)) : List E3 := vs.flatMap (·.2)
theorem catE_succ {vs : List (Value × List E3)} {i : Nat} {p : Value × List E3} (h : vs[i]? = some p) : catE (vs.take (i + 1)) = catE (vs.take i) ++ p.2 := by
  unfold catE
  rw [List.take_add_one, h, List.flatMap_append]
  simp
theorem catE_le (vs : List (Value × List E3)) (i : Nat) : (catE (vs.take i)).length ≤ (catE vs).length := by
  have h : catE vs = catE (vs.take i) ++ catE (vs.drop i) := by unfold catE; rw [← List.flatMap_append, List.take_append_drop]
  rw [h, List.length_append]
  omega
set_option maxRecDepth 100000 in
set_option maxHeartbeats 6400000 in
theorem concat_any (b : Nat) (vs : List (Value × List E3)) (k : Nat) (hk : vs.length = k) (w : World) (hvs : SlR w b vs) (h1 : 1 ≤ (catE vs).length) (h2 : (catE vs).length ≤ 100000) (hkl : k ≤ 1000) :
    Calls Tryd.prog 26 #[.slice (some ⟨b, 0, none⟩) k k] w (NewEdges w (catE vs)) := by
  obtain ⟨i0, hi, hz0, hz1, hz2⟩ := info_parts Tryd.infoEdge
  have HVS := Lib.hid hvs
  have HG := Lib.hid (grow_nil (catE vs).length w h1 h2)
  have HKL := Lib.hid hk
  clear hvs hk
  go_enter Tryd.func26, Tryd.ntmps26
  go_wp2_with fail
  go_loopg [3, 11] k (fun q s3 s11 wx => w = wx ∧ ∃ i : Nat, i + q = k ∧ s11 = .int .i64 (i : Int) ∧ s3 = .int .i64 ((catE (vs.take i)).length : Int))
  case atStart => exact ⟨rfl, 0, by omega, rfl, rfl⟩
  case round =>
    obtain ⟨rfl, i, hiq, rfl, rfl⟩ := hrel
    rcases gk with _ | q
    · obtain rfl : i = k := by omega
      have HE := Lib.hid (show catE (vs.take i) = catE vs by rw [List.take_of_length_le (by have := HKL.out; omega)])
      rw [HE.out]
      have j1 : ¬ ((catE vs).length : Int) < 0 := by omega
      obtain ⟨T, hT⟩ : ∃ T, (catE vs).length = T := ⟨_, rfl⟩
      rw [hT] at HG ⊢
      clear hiq HE
      go_upto_region 10 with (go_at_call 52; (with_reducible refine HG.out.mono ?_); rintro e W1 ⟨c1, rfl, e1, b1⟩; (have E1 := Lib.hid e1); (have B1 := Lib.hid b1); (clear e1 b1))
      have ml : vs.length = i := HKL.out
      go_wp2_with fail
      go_loopg [6, 27] i (fun q s6 s27 wx => ∃ n : Nat, n + q = i ∧ s27 = .int .i64 (n : Int) ∧ EdgesAt wx w.heap.size s6 (catE (vs.take n)) ∧ Below w.heap.size w wx)
      case atStart => exact ⟨0, by omega, rfl, E1.out, B1.out⟩
      case round =>
        clear E1 B1
        obtain ⟨n, hnq, rfl, hO, hB⟩ := hrel
        rcases gk with _ | q
        · obtain rfl : n = i := by omega
          obtain ⟨a6, c6, rfl⟩ := hO.slice
          have HE := Lib.hid (show catE (vs.take n) = catE vs by rw [List.take_of_length_le (by omega)])
          rw [HE.out] at hO ⊢
          have HO := Lib.hid hO
          clear hO
          rw [hT]
          go_wp2_with fail
          go_ret
          exact ⟨_, rfl, by rw [← hT]; exact HO.out, hB⟩
        · obtain ⟨p, hp⟩ : ∃ p, vs[n]? = some p := ⟨_, List.getElem?_eq_getElem (by omega)⟩
          obtain ⟨k1, bs, off, c1', k2, k3⟩ := (HVS.out.keep hB) n p hp
          have HC := Lib.hid (catE_succ hp)
          have hl := catE_le vs (n + 1)
          rw [HC.out, List.length_append] at hl
          rw [k2] at k1
          have j1 : (n : Int) < (i : Int) := by omega
          have hsrc := src_cells k3
          obtain ⟨fs, hfs⟩ : ∃ fs, p.2 = fs := ⟨_, rfl⟩
          rw [hfs] at hl k1 hsrc HC
          have hlt := hO.lt
          have hown0 := hO
          unfold EdgesAt at hown0
          obtain ⟨a6, c6, rfl⟩ := hO.slice
          obtain ⟨mm, hm⟩ : ∃ mm, (catE (vs.take n)).length = mm := ⟨_, rfl⟩
          rw [hm] at hown0 hl hlt ⊢
          have HM := Lib.hid hm
          obtain ⟨fl, hfl⟩ : ∃ fl, fs.length = fl := ⟨_, rfl⟩
          have HFL := Lib.hid (show (ecl fs).length = fl * 3 by rw [ecl_len, hfl])
          rw [hfl] at hl k1
          have HFE := Lib.hid hfl
          have HSR := Lib.hid hsrc
          clear hO hm hp k2 k3 hfs hfl hsrc
          go_wp2_with (at_builtin; refine wpList_append_own_at _ rfl _ _ 22 rfl w.heap.size 43 i0 (.agg #[.int .i64 0, .int .i64 0, .int .i64 0]) 3 24 Tryd.underlying22 hi hz0 hz1 hz2 rfl (by decide) _ _ _ rfl hown0 ⟨bs, off, none⟩ fl c1' (ecl fs) rfl HFL.out HSR.out ecl_one ?c3 ?c4 ?c5 ?_)
          case c3 => unfold maxLen; omega
          case c4 => omega
          case c5 => exact hB.size
          intro v' W2 hown2 hgrow _ hv'
          have hb2 : Below w.heap.size w W2 := hB.grown hgrow hB.size (fun k hk => (hlt k hk).1)
          rw [← ecl_append, ← HC.out] at hown2
          have HI2 := Lib.hid (show EdgesAt W2 w.heap.size v' (catE (vs.take (n + 1))) by unfold EdgesAt; rw [HC.out, List.length_append, HM.out, HFE.out]; rw [HC.out] at hown2; exact hown2)
          obtain ⟨a', c', rfl⟩ := own_slice hown2
          clear hown0 hown2 hgrow hlt hv' hB
          go_wp2_with fail
          go_roundg q
          case measure => omega
          case rel => exact ⟨n + 1, by omega, by go_num, HI2.out, hb2⟩
    · obtain ⟨p, hp⟩ : ∃ p, vs[i]? = some p := ⟨_, List.getElem?_eq_getElem (by have := HKL.out; omega)⟩
      obtain ⟨k1, b1, off1, c1, k2, k3⟩ := HVS.out i p hp
      have HC := Lib.hid (catE_succ hp)
      have hl := catE_le vs (i + 1)
      rw [HC.out, List.length_append] at hl
      rw [k2] at k1
      have j1 : (i : Int) < (k : Int) := by omega
      obtain ⟨u, hu⟩ : ∃ u, (catE (vs.take i)).length = u := ⟨_, rfl⟩
      have HL := Lib.hid (show (catE (vs.take (i + 1))).length = u + p.2.length by rw [HC.out, List.length_append, hu])
      rw [hu] at hl ⊢
      obtain ⟨pl, hpl⟩ : ∃ pl, p.2.length = pl := ⟨_, rfl⟩
      rw [hpl] at hl k1 HL
      clear hp k2 k3 hu hpl
      go_wp2_with fail
      go_roundg q
      case measure => omega
      case rel => exact ⟨rfl, i + 1, by omega, by go_num, by rw [HL.out]; go_num⟩
end Go.Proofs.YtiebhalefdpjiaaDoor
