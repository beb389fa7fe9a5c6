/- What graph.readNumbers returns. Conditions: at most 65536 bytes; the library's variables read as LG says. -/
import Derived.Test.YtoekemfgmdbnbaaDoorVya
import Derived.Test.YtoekemfgmdbnbaaDoorVj
namespace Go.Proofs.YtoekemfgmdbnbaaDoor
open Go.RowKit
set_option linter.unusedSimpArgs false
set_option linter.unusedVariables false

/-- The number of a numeral. -/
def valP (p : List UInt8) : Int := match Lib.atoiAll p with
  | .ok z => z
  | _ => 0
theorem valP_at {p : List UInt8} {z : Int} (h : Lib.atoiAll p = .ok z) : valP p = z := by unfold valP; rw [h]
/-- The cells of a row of strings. -/
def StrsR (W : World) (b : Nat) (ps : List (List UInt8)) : Prop := ∀ (i : Nat) (p : List UInt8), ps[i]? = some p → W.cell? ⟨b, i, none⟩ = some (.string ⟨p.toArray⟩)
theorem StrsR.keep {W W' : World} {b : Nat} {ps : List (List UInt8)} (h : StrsR W b ps) (hb : Below W.heap.size W W') : StrsR W' b ps := fun i p hp => cell_keep (h i p hp) hb
theorem StrsR.new (w : World) (ps : List (List UInt8)) (t : TypeId) : StrsR (w.alloc (.cells (ps.map (fun p => Value.string ⟨p.toArray⟩)).toArray t)) w.heap.size ps := fun i p hp => by
  have h := World.news_of_block (w := w.alloc (.cells (ps.map (fun p => Value.string ⟨p.toArray⟩)).toArray t)) (cs := (ps.map (fun p => Value.string ⟨p.toArray⟩)).toArray) (t := t) (fr := (0, 0)) (heap_alloc_new w _) i (.string ⟨p.toArray⟩) (by simp [hp])
  have ha : ((⟨w.heap.size, 0, none⟩ : Addr).add i) = ⟨w.heap.size, i, none⟩ := by unfold Addr.add; split <;> simp_all
  rw [ha] at h
  exact h
theorem jn_mem_len {c : UInt8} : ∀ (ps : List (List UInt8)) (p : List UInt8), p ∈ ps → p.length ≤ (jn c ps).length
  | [], p, h => by cases h
  | [a], p, h => by
    rw [jn_one]
    simp at h
    rw [h]
    exact Nat.le_refl _
  | a :: b :: r, p, h => by
    rw [jn_two, List.length_append, List.length_cons]
    rcases List.mem_cons.1 h with rfl | h
    · omega
    · have := jn_mem_len (c := c) (b :: r) p h
      omega
/-- What readNumbers returns. -/
def RdN (w : World) (line : List UInt8) (k : Nat) (e : Ending) (w' : World) : Prop := Below w.heap.size w w' ∧
  ((∃ (ps : List (List UInt8)) (R : Nat), e = .returned (.tuple #[.slice (some ⟨R, 0, none⟩) k k, .bool true]) ∧ Parts 32 line ps ∧ ps.length = k ∧ (∀ p ∈ ps, NumP p) ∧ IRow w' R k (fun i => valP (ps.getD i []))) ∨
    (e = .returned (.tuple #[.slice none 0 0, .bool false]) ∧ ∀ ps, Parts 32 line ps → ¬ (ps.length = k ∧ ∀ p ∈ ps, NumP p)))
set_option maxRecDepth 100000 in
set_option maxHeartbeats 6400000 in
theorem rdN_any (line : List UInt8) (k : Nat) (hk : k ≤ 1000) (hl : line.length ≤ 65536) (w : World) (h : LG w) :
    Calls Tryd.prog 32 #[.string ⟨line.toArray⟩, .int .i64 (k : Int)] w (RdN w line k) := by
  obtain ⟨m, hm⟩ := h.m
  obtain ⟨ps, hps, hmap, hlen⟩ := Parts.splitB 32 line
  have hs : (⟨line.toArray⟩ : ByteArray).size = line.length := rfl
  have HSP := Lib.hid (Tryd.strings_Split ⟨line.toArray⟩ ⟨#[32]⟩ m w (by rw [hs]; omega) hm (by decide))
  rw [hmap, ← hlen] at HSP
  have HS := Lib.hid (StrsR.new w ps 9)
  have b1 := below1 w (.cells (ps.map (fun p => Value.string ⟨p.toArray⟩)).toArray 9)
  have HL := Lib.hid (h.keep b1)
  have B1 := Lib.hid b1
  have HMI := Lib.hid (fun W => make_ints k (by omega) W)
  have HPS := Lib.hid hps
  obtain ⟨W1, hW1⟩ : ∃ W1, w.alloc (.cells (ps.map (fun p => Value.string ⟨p.toArray⟩)).toArray 9) = W1 := ⟨_, rfl⟩
  rw [hW1] at HSP HS HL B1
  obtain ⟨n, hn⟩ : ∃ n, ps.length = n := ⟨_, rfl⟩
  rw [hn] at HSP
  have HN := Lib.hid hn
  have hpl : ∀ p ∈ ps, p.length ≤ 1000000 := fun p hp => by
    have := jn_mem_len (c := 32) ps p hp
    rw [hps.all] at this
    omega
  have HPL := Lib.hid hpl
  obtain ⟨P, hP⟩ : ∃ P, w.heap.size = P := ⟨_, rfl⟩
  rw [hP] at HSP HS
  have HPP := Lib.hid hP
  have HLW := Lib.hid h
  have HZ := Lib.hid (show W1.heap.size = w.heap.size + 1 by rw [← hW1, World.size_alloc])
  clear hP hpl hn hW1 b1 hm hps hmap hlen h
  by_cases hnk : n = k
  · subst hnk
    go_enter Tryd.func32, Tryd.ntmps32
    go_wp2_with (go_at_call 30; (with_reducible refine HSP.out.mono ?_); rintro e W2 ⟨rfl, rfl⟩)
    rw [HMI.out]
    have b2 := below1 W2 (.cells (madeCells #[.int .i64 0] n) 3)
    have R0 := Lib.hid (IRow.made W2 n)
    have L0 := Lib.hid (HL.out.keep b2)
    have S0 := Lib.hid (HS.out.keep b2)
    have B2 := Lib.hid (below_more B1.out (Nat.le_refl _) b2)
    have HB1 := Nat.le_of_eq HZ.out.symm
    obtain ⟨R, hR⟩ : ∃ R, W2.heap.size = R := ⟨_, rfl⟩
    obtain ⟨W3, hW3⟩ : ∃ W3, W2.alloc (.cells (madeCells #[.int .i64 0] n) 3) = W3 := ⟨_, rfl⟩
    rw [hW3] at R0 L0 S0 B2 ⊢
    rw [hR] at R0 HB1 ⊢
    clear b2 hW3 hR HS HL B1 HSP HZ
    go_wp2_with fail
    go_loopg [8, 9, 10, 11, 22] n (fun q s8 s9 s10 s11 s22 wx => ∃ i : Nat, i + q = n ∧ s22 = .int .i64 (i : Int) ∧ Hid (∀ j, j < i → NumP (ps.getD j [])) ∧ IRow wx R n (fun j => if j < i then valP (ps.getD j []) else 0) ∧ StrsR wx P ps ∧ Below w.heap.size w wx)
    case atStart => exact ⟨0, by omega, rfl, Lib.hid (fun j hj => by omega), R0.out.congr (fun j _ => by simp), S0.out, B2.out⟩
    case round =>
      clear R0 L0 S0 B2
      obtain ⟨i, hin, rfl, HA, hR, hS, hb⟩ := hrel
      rcases gk with _ | q
      · obtain rfl : i = n := by omega
        have HR := Lib.hid (hR.congr (g := fun j => valP (ps.getD j [])) (fun j hj => by simp [hj]))
        go_wp2_with fail
        exact bodyPost_ret (v := .tuple #[.slice (some ⟨R, 0, none⟩) i i, .bool true]) (by simp [results, Tryd.results32, go_sem]) rfl ⟨hb, .inl ⟨ps, R, rfl, HPS.out, HN.out, fun p hp => by
          obtain ⟨j, hj, rfl⟩ := List.getElem_of_mem hp
          have h1 := HA.out j (by have := HN.out; omega)
          rwa [List.getD_eq_getElem?_getD, List.getElem?_eq_getElem hj] at h1, HR.out⟩⟩
      · obtain ⟨p, hp⟩ : ∃ p, ps[i]? = some p := ⟨_, List.getElem?_eq_getElem (by have := HN.out; omega)⟩
        have hc := hS i p hp
        have hpg : ps.getD i [] = p := by rw [List.getD_eq_getElem?_getD, hp]; rfl
        have HAT := Lib.hid (fun W h => atoi_lg p (HPL.out p (List.mem_of_getElem? hp)) W h)
        have HNO := Lib.hid (show ¬ NumP p → ∀ qs, Parts 32 line qs → ¬ (qs.length = n ∧ ∀ p ∈ qs, NumP p) from fun h1 qs hq h2 => h1 (h2.2 p (by rw [hq.eq HPS.out]; exact List.mem_of_getElem? hp)))
        have HRW := Lib.hid hR
        have HLG := Lib.hid (HLW.out.keep hb)
        have HST := Lib.hid hS
        have HB := Lib.hid hb
        have HPG := Lib.hid hpg
        have j1 : (i : Int) < (n : Int) := by omega
        have j1' : i < n := by omega
        clear hp hR hS hb hpg
        go_upto_region 9 with (go_at_call 44; (with_reducible refine (HAT.out _ HLG.out).mono ?_); rintro e0 W4 ⟨z, ev, rfl, hat, b4⟩)
        have hb4 : Below w.heap.size w W4 := below_more HB.out (Nat.le_refl _) b4
        have HB4 := Lib.hid hb4
        have L4 := Lib.hid (HLW.out.keep hb4)
        have S4 := Lib.hid (HST.out.keep b4)
        have R4 := Lib.hid (HRW.out.keep b4)
        clear b4 hb4 HLG HST HRW
        rcases hat with ⟨rfl, hz⟩ | ⟨⟨t, N, rfl⟩, herr⟩
        · by_cases hz0 : z < 0
          · have HNF := Lib.hid (HNO.out (fun h => by have := num_at hz h; omega))
            have d1 : decide (z < 0) = true := decide_eq_true hz0
            clear hz hz0
            go_wp2_with fail
            exact bodyPost_ret (v := .tuple #[.slice none 0 0, .bool false]) (by simp [results, Tryd.results32, go_sem]) rfl ⟨HB4.out, .inr ⟨rfl, HNF.out⟩⟩
          have d1 : decide (z < 0) = false := decide_eq_false hz0
          by_cases hz1 : 999999999 < z
          · have HNF := Lib.hid (HNO.out (fun h => by have := num_at hz h; omega))
            have d2 : decide (999999999 < z) = true := decide_eq_true hz1
            clear hz hz0 hz1
            go_wp2_with fail
            exact bodyPost_ret (v := .tuple #[.slice none 0 0, .bool false]) (by simp [results, Tryd.results32, go_sem]) rfl ⟨HB4.out, .inr ⟨rfl, HNF.out⟩⟩
          have d2 : decide (999999999 < z) = false := decide_eq_false hz1
          obtain ⟨u, rfl⟩ : ∃ u : Nat, z = (u : Int) := ⟨z.toNat, by omega⟩
          have HIT := Lib.hid (fun W h => itoa_lg u (by omega) W h)
          obtain ⟨dg, hdg⟩ : ∃ dg, Lib.decDigits u = dg := ⟨_, rfl⟩
          rw [hdg] at HIT
          by_cases hpu : p = dg
          · have HNP := Lib.hid (show NumP p from ⟨u, by omega, by rw [hpu, hdg]⟩)
            have HVP := Lib.hid (valP_at hz)
            subst hpu
            clear hz hz0 hz1 hdg
            go_wp2_with (go_at_call 28; (with_reducible refine (HIT.out _ L4.out).mono ?_); rintro e1 W5 ⟨rfl, b5⟩; (have HB5 := Lib.hid (below_more HB4.out (Nat.le_refl _) b5)); (have S5 := Lib.hid (S4.out.keep b5)); (have R5 := Lib.hid (R4.out.keep b5)); (clear b5); (have c5 := R5.out.cell j1'); (have f5 := R5.out.frozen i))
            go_roundg q
            case measure => omega
            case rel =>
              refine ⟨i + 1, by omega, by go_num, Lib.hid (fun j hj => ?_), (R5.out.set i (u : Int)).congr (fun j hj => ?_), fun j p' hp' => (World.cell?_setCell_far _ _ _ _ (by show R ≠ P; have := HPP.out; intro hRP; omega)).trans (S5.out j p' hp'), HB5.out.setCell (p := ⟨R, i, none⟩) (by show w.heap.size ≤ R; omega) _⟩
              · rcases Nat.lt_or_ge j i with h1 | h1
                · exact HA.out j h1
                · obtain rfl : j = i := by omega
                  rw [HPG.out]; exact HNP.out
              · by_cases hji : j = i
                · subst hji
                  rw [if_pos rfl, if_pos (Nat.lt_succ_self _), HPG.out, HVP.out]
                · rw [if_neg hji]
                  by_cases h1 : j < i
                  · rw [if_pos h1, if_pos (by omega)]
                  · rw [if_neg h1, if_neg (by omega)]
          · have HNF := Lib.hid (HNO.out (fun h => by have := num_at hz h; exact hpu (by rw [this.2.2, ← hdg]; simp)))
            have q1 : (dg == p) = false := by simpa using fun h => hpu h.symm
            clear hz hz0 hz1 hpu hdg
            go_wp2_with (go_at_call 28; (with_reducible refine (HIT.out _ L4.out).mono ?_); rintro e1 W5 ⟨rfl, b5⟩; (have HB5 := Lib.hid (below_more HB4.out (Nat.le_refl _) b5)))
            exact bodyPost_ret (v := .tuple #[.slice none 0 0, .bool false]) (by simp [results, Tryd.results32, go_sem]) rfl ⟨HB5.out, .inr ⟨rfl, HNF.out⟩⟩
        · have HNF := Lib.hid (HNO.out (not_num_err herr))
          clear herr
          go_wp2_with fail
          exact bodyPost_ret (v := .tuple #[.slice none 0 0, .bool false]) (by simp [results, Tryd.results32, go_sem]) rfl ⟨HB4.out, .inr ⟨rfl, HNF.out⟩⟩
  · have HE := Lib.hid (show ∀ qs, Parts 32 line qs → ¬ (qs.length = k ∧ ∀ p ∈ qs, NumP p) from fun qs hq h1 => hnk (by rw [← h1.1, hq.eq HPS.out, HN.out]))
    have d1 : ((n : Int) != (k : Int)) = true := by simp; omega
    have d2 : (n != k) = true := by simpa using hnk
    clear hnk
    go_enter Tryd.func32, Tryd.ntmps32
    go_wp2_with (go_at_call 30; (with_reducible refine HSP.out.mono ?_); rintro e W2 ⟨rfl, rfl⟩)
    exact bodyPost_ret (v := .tuple #[.slice none 0 0, .bool false]) (by simp [results, Tryd.results32, go_sem]) rfl ⟨B1.out, .inr ⟨rfl, HE.out⟩⟩
end Go.Proofs.YtoekemfgmdbnbaaDoor
