/- GraphRoundTrip returns true, whatever the graph and the text. Conditions: the edges can be read; the library's variables read as LG says. -/
import Derived.Test.YtoekemfgmdbnbaaDoorVyf
import Derived.Test.YtoekemfgmdbnbaaDoorVr
namespace Go.Proofs.YtoekemfgmdbnbaaDoor
open Go.RowKit
set_option linter.unusedSimpArgs false
set_option linter.unusedVariables false

theorem sameG_selfY (L S : Int) (es : List E3) : sameG L S es L S es = true := decide_eq_true ⟨rfl, rfl, rfl⟩
theorem lines_le : ∀ (es : List E3), (∀ e ∈ es, e.1.toNat ≤ 999999999 ∧ e.2.1.toNat ≤ 999999999 ∧ e.2.2.toNat ≤ 999999999) → (es.flatMap lineE).length ≤ 31 * es.length
  | [], _ => by simp
  | e :: es, h => by
    have h1 := lines_le es (fun x hx => h x (List.mem_cons_of_mem _ hx))
    have h2 := lineE_len (e := e) (bd := 999999999) (by omega) (h e List.mem_cons_self)
    rw [List.flatMap_cons, List.length_append, List.length_cons]
    omega
theorem lines_ge : ∀ (es : List E3), es.length ≤ (es.flatMap lineE).length
  | [] => by simp
  | e :: es => by
    have h1 := lines_ge es
    have h2 : 1 ≤ (lineE e).length := by unfold lineE lineT; rw [List.length_append]; simp
    rw [List.flatMap_cons, List.length_append, List.length_cons]
    omega
theorem prG_ge (L n : Nat) (es : List E3) : es.length ≤ (prG L n es).length := by
  have := lines_ge es
  unfold prG
  rw [List.length_append]
  omega
theorem prG_len {L n : Nat} {es : List E3} (h : VG (L : Int) (n : Int) es) (hn : es.length ≤ 30) : (prG L n es).length ≤ 65536 := by
  have h1 := h.l2
  have h2 := h.s2
  have h3 := lines_le es (fun e he => by have := okE_iff.1 (h.ok e he); omega)
  have h4 : (lineT [L, n]).length ≤ 1000 := by
    have h5 := jnT_len (l := [L, n]) (fun m hm => by simp at hm; omega)
    unfold lineT
    rw [List.length_append]
    simp at h5 ⊢
    omega
  have h6 : gph.length = 6 := rfl
  unfold prG
  rw [List.length_append, List.length_append]
  omega
set_option maxRecDepth 100000 in
set_option maxHeartbeats 6400000 in
theorem gtrip_any (L S : Int) (es : List E3) (v : Value) (s : List UInt8) (w : World) (hrd : EdgesRd w v es) (hn : es.length ≤ 9223372036854775807) (hs : s.length ≤ 9223372036854775807) (h : LG w) :
    Calls Tryd.prog 3 #[grV L S v, .string ⟨s.toArray⟩] w fun e w' => e = .returned (.bool true) ∧ Below w.heap.size w w' := by
  have hsz : (⟨s.toArray⟩ : ByteArray).size = s.length := rfl
  have B := Lib.hid (below1 w (.cells #[.int .i64 L, .int .i64 S, v] 24))
  have G := Lib.hid (BoxG.new w L S v 24)
  have HRD := Lib.hid hrd
  have HLW := Lib.hid h
  have HAW := Lib.hid (fun W => awake_any W)
  have HS0 := Lib.hid (fun W => (sameG_selfY 0 0 []) ▸ same_any 0 0 0 0 [] [] (.slice none 0 0) (.slice none 0 0) W ⟨none, 0, rfl, fun i e he => by simp at he⟩ ⟨none, 0, rfl, fun i e he => by simp at he⟩ (Nat.zero_le _) (Nat.zero_le _))
  obtain ⟨a, c, rfl⟩ := hrd.form
  have HGR := Lib.hid (fun W => great_any L S a es.length c W)
  obtain ⟨g1, g2, g3⟩ := id G.out
  clear hrd h
  cases hga : greatB S es.length with
  | true =>
    have HGA := Lib.hid hga
    clear hga
    go_enter Tryd.func3, Tryd.ntmps3
    go_wp2_with (first
      | (go_at_call 4; (with_reducible refine (HGR.out _).mono ?_); rintro e0 W1 ⟨rfl, b1⟩; (rw [HGA.out]); (have G := Lib.hid (G.out.keep b1));  (have B := Lib.hid (below_more B.out (Nat.le_refl _) b1)); (clear b1); (clear g1 g2 g3); (obtain ⟨g1, g2, g3⟩ := id G.out))
      | (go_at_call 5; (with_reducible refine (HAW.out _).mono ?_); rintro e0 W20 ⟨rfl, b20⟩;  (have G := Lib.hid (G.out.keep b20));  (have B := Lib.hid (below_more B.out (Nat.le_refl _) b20)); (clear b20); (clear g1 g2 g3); (obtain ⟨g1, g2, g3⟩ := id G.out)))
    go_ret
    exact ⟨rfl, B.out⟩
  | false =>
    have HGA := Lib.hid hga
    have hle : es.length ≤ 30 := by
      have h := of_decide_eq_false (show decide (30 < es.length ∨ (10 < S ∧ S ≤ 64)) = false from hga)
      omega
    clear hga
    by_cases hs3 : 300 < s.length
    · have d1 : decide ((300 : Int) < ((⟨s.toArray⟩ : ByteArray).size : Int)) = true := decide_eq_true (by omega)
      have d2 : decide ((300 : Int) < (s.length : Int)) = true := decide_eq_true (by omega)
      have d3 : decide (300 < s.length) = true := decide_eq_true hs3
      clear hs3
      go_enter Tryd.func3, Tryd.ntmps3
      go_wp2_with (first
        | (go_at_call 4; (with_reducible refine (HGR.out _).mono ?_); rintro e0 W1 ⟨rfl, b1⟩; (rw [HGA.out]); (have G := Lib.hid (G.out.keep b1));  (have B := Lib.hid (below_more B.out (Nat.le_refl _) b1)); (clear b1); (clear g1 g2 g3); (obtain ⟨g1, g2, g3⟩ := id G.out))
        | (go_at_call 5; (with_reducible refine (HAW.out _).mono ?_); rintro e0 W20 ⟨rfl, b20⟩;  (have G := Lib.hid (G.out.keep b20));  (have B := Lib.hid (below_more B.out (Nat.le_refl _) b20)); (clear b20); (clear g1 g2 g3); (obtain ⟨g1, g2, g3⟩ := id G.out)))
      go_ret
      exact ⟨rfl, B.out⟩
    have d1 : decide ((300 : Int) < ((⟨s.toArray⟩ : ByteArray).size : Int)) = false := decide_eq_false (by omega)
    have d2 : decide ((300 : Int) < (s.length : Int)) = false := decide_eq_false (by omega)
    have d3 : decide (300 < s.length) = false := decide_eq_false hs3
    have hs6 : s.length ≤ 65536 := by omega
    clear hs3
    by_cases hv : chkG L S es = 0
    · have hvg := chkG_zero hv
      obtain ⟨Ln, rfl⟩ : ∃ m : Nat, L = (m : Int) := ⟨L.toNat, by have := hvg.l1; omega⟩
      obtain ⟨Sn, rfl⟩ : ∃ m : Nat, S = (m : Int) := ⟨S.toNat, by have := hvg.s1; omega⟩
      have HP1 := Lib.hid (fun W hW h => print_lg Ln Sn es (.slice a es.length c) W hW h hvg)
      have HPT := Lib.hid (fun W hW => (parse_yes (prG Ln Sn es) (prG_len hvg hle) W hW ⟨vg_smg hvg, rfl⟩ hn).mono (fun e w' h => h.1 hv))
      have HS1 := Lib.hid (fun W a' c' h h' => (sameG_selfY (Ln : Int) (Sn : Int) es) ▸ same_any (Ln : Int) (Sn : Int) (Ln : Int) (Sn : Int) es es (.slice a' es.length c') (.slice a es.length c) W h h' hn hn)
      clear hv
      by_cases ht : ∃ l m fs, Tells s l m fs
      · obtain ⟨l, m, fs, ht⟩ := ht
        have hfl : fs.length ≤ 9223372036854775807 := by have h1 := prG_ge l m fs; rw [← ht.2] at h1; omega
        by_cases hc : chkG (l : Int) (m : Int) fs = 0
        · have HPS := Lib.hid (fun W hW => (parse_yes s hs6 W hW ht hfl).mono (fun e w' h => h.1 hc))
          have HP2 := Lib.hid (fun W v' hW h => ht.2 ▸ print_lg l m fs v' W hW h (chkG_zero hc))
          have HCK := Lib.hid (fun v' W h => hc ▸ gcheck_any (l : Int) (m : Int) fs v' W h hfl)
          clear ht hc
          go_enter Tryd.func3, Tryd.ntmps3
          go_wp2_with (first
            | (go_at_call 4; (with_reducible refine (HGR.out _).mono ?_); rintro e0 W1 ⟨rfl, b1⟩; (rw [HGA.out]); (have G := Lib.hid (G.out.keep b1));  (have B := Lib.hid (below_more B.out (Nat.le_refl _) b1)); (clear b1); (clear g1 g2 g3); (obtain ⟨g1, g2, g3⟩ := id G.out))
            | (go_at_call 6; (with_reducible refine (HP1.out _ (HLW.out.keep B.out) (HRD.out.keep B.out)).mono ?_); rintro e0 W2 ⟨rfl, b2⟩;  (have G := Lib.hid (G.out.keep b2));  (have B := Lib.hid (below_more B.out (Nat.le_refl _) b2)); (clear b2); (clear g1 g2 g3); (obtain ⟨g1, g2, g3⟩ := id G.out))
            | (go_at_call 7; (with_reducible refine (HPT.out _ (HLW.out.keep B.out)).mono ?_); rintro e0 W3 ⟨v3, rfl, e3, b3⟩; (obtain ⟨a3, c3, rfl⟩ := e3.slice); (have bm := below_more b3 (Nat.le_refl _) (below1 W3 (.cells #[.int .i64 (Ln : Int), .int .i64 (Sn : Int), .slice a3 es.length c3] 24))); (have G := Lib.hid (G.out.keep bm));  (have B := Lib.hid (below_more B.out (Nat.le_refl _) bm)); (have X3 := Lib.hid (BoxG.new W3 (Ln : Int) (Sn : Int) (.slice a3 es.length c3) 24)); (have E3x := Lib.hid (EdgesAt.rd (EdgesAt.keep e3 (below1 W3 (.cells #[.int .i64 (Ln : Int), .int .i64 (Sn : Int), .slice a3 es.length c3] 24))))); (clear b3 bm e3); (clear g1 g2 g3); (obtain ⟨g1, g2, g3⟩ := id G.out); (obtain ⟨x1, x2, x3⟩ := id X3.out))
            | (go_at_call 8; (with_reducible refine (HS1.out _ _ _ E3x.out (HRD.out.keep B.out)).mono ?_); rintro e0 W4 ⟨rfl, b4⟩;  (have G := Lib.hid (G.out.keep b4));  (have B := Lib.hid (below_more B.out (Nat.le_refl _) b4)); (clear b4); (clear g1 g2 g3); (obtain ⟨g1, g2, g3⟩ := id G.out))
            | (go_at_call 7; (with_reducible refine (HPS.out _ (HLW.out.keep B.out)).mono ?_); rintro e0 W5 ⟨v5, rfl, e5, b5⟩; (obtain ⟨a5, c5, rfl⟩ := e5.slice); (have bm := below_more b5 (Nat.le_refl _) (below1 W5 (.cells #[.int .i64 (l : Int), .int .i64 (m : Int), .slice a5 fs.length c5] 24))); (have G := Lib.hid (G.out.keep bm));  (have B := Lib.hid (below_more B.out (Nat.le_refl _) bm)); (have X5 := Lib.hid (BoxG.new W5 (l : Int) (m : Int) (.slice a5 fs.length c5) 24)); (have E5x := Lib.hid (EdgesAt.rd (EdgesAt.keep e5 (below1 W5 (.cells #[.int .i64 (l : Int), .int .i64 (m : Int), .slice a5 fs.length c5] 24))))); (clear b5 bm e5); (clear g1 g2 g3); (obtain ⟨g1, g2, g3⟩ := id G.out); (obtain ⟨x1, x2, x3⟩ := id X5.out))
            | (go_at_call 6; (with_reducible refine (HP2.out _ _ (HLW.out.keep B.out) E5x.out).mono ?_); rintro e0 W6 ⟨rfl, b6⟩;  (have G := Lib.hid (G.out.keep b6)); (have X5 := Lib.hid (X5.out.keep b6)); (have E5x := Lib.hid (E5x.out.keep b6)); (have B := Lib.hid (below_more B.out (Nat.le_refl _) b6)); (clear b6); (clear g1 g2 g3); (obtain ⟨g1, g2, g3⟩ := id G.out); (obtain ⟨x1, x2, x3⟩ := id X5.out))
            | (go_at_call 9; (with_reducible refine (HCK.out _ _ E5x.out).mono ?_); rintro e0 W7 ⟨rfl, b7⟩;  (have G := Lib.hid (G.out.keep b7));  (have B := Lib.hid (below_more B.out (Nat.le_refl _) b7)); (clear b7); (clear g1 g2 g3); (obtain ⟨g1, g2, g3⟩ := id G.out))
            | (go_at_call 5; (with_reducible refine (HAW.out _).mono ?_); rintro e0 W20 ⟨rfl, b20⟩;  (have G := Lib.hid (G.out.keep b20));  (have B := Lib.hid (below_more B.out (Nat.le_refl _) b20)); (clear b20); (clear g1 g2 g3); (obtain ⟨g1, g2, g3⟩ := id G.out)))
          go_ret
          exact ⟨rfl, B.out⟩
        · obtain ⟨z, hz⟩ : ∃ z, chkG (l : Int) (m : Int) fs = z := ⟨_, rfl⟩
          have HPS := Lib.hid (fun W hW => hz ▸ (parse_yes s hs6 W hW ht hfl).mono (fun e w' h => h.2 hc))
          rw [hz] at hc
          have d4 : (z != 0) = true := by simpa using hc
          clear hz
          clear ht hc
          go_enter Tryd.func3, Tryd.ntmps3
          go_wp2_with (first
            | (go_at_call 4; (with_reducible refine (HGR.out _).mono ?_); rintro e0 W1 ⟨rfl, b1⟩; (rw [HGA.out]); (have G := Lib.hid (G.out.keep b1));  (have B := Lib.hid (below_more B.out (Nat.le_refl _) b1)); (clear b1); (clear g1 g2 g3); (obtain ⟨g1, g2, g3⟩ := id G.out))
            | (go_at_call 6; (with_reducible refine (HP1.out _ (HLW.out.keep B.out) (HRD.out.keep B.out)).mono ?_); rintro e0 W2 ⟨rfl, b2⟩;  (have G := Lib.hid (G.out.keep b2));  (have B := Lib.hid (below_more B.out (Nat.le_refl _) b2)); (clear b2); (clear g1 g2 g3); (obtain ⟨g1, g2, g3⟩ := id G.out))
            | (go_at_call 7; (with_reducible refine (HPT.out _ (HLW.out.keep B.out)).mono ?_); rintro e0 W3 ⟨v3, rfl, e3, b3⟩; (obtain ⟨a3, c3, rfl⟩ := e3.slice); (have bm := below_more b3 (Nat.le_refl _) (below1 W3 (.cells #[.int .i64 (Ln : Int), .int .i64 (Sn : Int), .slice a3 es.length c3] 24))); (have G := Lib.hid (G.out.keep bm));  (have B := Lib.hid (below_more B.out (Nat.le_refl _) bm)); (have X3 := Lib.hid (BoxG.new W3 (Ln : Int) (Sn : Int) (.slice a3 es.length c3) 24)); (have E3x := Lib.hid (EdgesAt.rd (EdgesAt.keep e3 (below1 W3 (.cells #[.int .i64 (Ln : Int), .int .i64 (Sn : Int), .slice a3 es.length c3] 24))))); (clear b3 bm e3); (clear g1 g2 g3); (obtain ⟨g1, g2, g3⟩ := id G.out); (obtain ⟨x1, x2, x3⟩ := id X3.out))
            | (go_at_call 8; (with_reducible refine (HS1.out _ _ _ E3x.out (HRD.out.keep B.out)).mono ?_); rintro e0 W4 ⟨rfl, b4⟩;  (have G := Lib.hid (G.out.keep b4));  (have B := Lib.hid (below_more B.out (Nat.le_refl _) b4)); (clear b4); (clear g1 g2 g3); (obtain ⟨g1, g2, g3⟩ := id G.out))
            | (go_at_call 7; (with_reducible refine (HPS.out _ (HLW.out.keep B.out)).mono ?_); rintro e0 W5 ⟨rfl, b5⟩; (have bm := below_more b5 (Nat.le_refl _) (below1 W5 (.cells #[.int .i64 0, .int .i64 0, .slice none 0 0] 24))); (have G := Lib.hid (G.out.keep bm)); (have B := Lib.hid (below_more B.out (Nat.le_refl _) bm)); (clear b5 bm); (clear g1 g2 g3); (obtain ⟨g1, g2, g3⟩ := id G.out))
            | (go_at_call 8; (with_reducible refine (HS0.out _).mono ?_); rintro e0 W6 ⟨rfl, b6⟩;  (have G := Lib.hid (G.out.keep b6));  (have B := Lib.hid (below_more B.out (Nat.le_refl _) b6)); (clear b6); (clear g1 g2 g3); (obtain ⟨g1, g2, g3⟩ := id G.out))
            | (go_at_call 5; (with_reducible refine (HAW.out _).mono ?_); rintro e0 W20 ⟨rfl, b20⟩;  (have G := Lib.hid (G.out.keep b20));  (have B := Lib.hid (below_more B.out (Nat.le_refl _) b20)); (clear b20); (clear g1 g2 g3); (obtain ⟨g1, g2, g3⟩ := id G.out)))
          go_ret
          exact ⟨rfl, B.out⟩
      · have HPS := Lib.hid (fun W hW => parse_no s hs6 W hW (fun l m fs h => ht ⟨l, m, fs, h⟩))
        clear ht
        go_enter Tryd.func3, Tryd.ntmps3
        go_wp2_with (first
          | (go_at_call 4; (with_reducible refine (HGR.out _).mono ?_); rintro e0 W1 ⟨rfl, b1⟩; (rw [HGA.out]); (have G := Lib.hid (G.out.keep b1));  (have B := Lib.hid (below_more B.out (Nat.le_refl _) b1)); (clear b1); (clear g1 g2 g3); (obtain ⟨g1, g2, g3⟩ := id G.out))
          | (go_at_call 6; (with_reducible refine (HP1.out _ (HLW.out.keep B.out) (HRD.out.keep B.out)).mono ?_); rintro e0 W2 ⟨rfl, b2⟩;  (have G := Lib.hid (G.out.keep b2));  (have B := Lib.hid (below_more B.out (Nat.le_refl _) b2)); (clear b2); (clear g1 g2 g3); (obtain ⟨g1, g2, g3⟩ := id G.out))
          | (go_at_call 7; (with_reducible refine (HPT.out _ (HLW.out.keep B.out)).mono ?_); rintro e0 W3 ⟨v3, rfl, e3, b3⟩; (obtain ⟨a3, c3, rfl⟩ := e3.slice); (have bm := below_more b3 (Nat.le_refl _) (below1 W3 (.cells #[.int .i64 (Ln : Int), .int .i64 (Sn : Int), .slice a3 es.length c3] 24))); (have G := Lib.hid (G.out.keep bm));  (have B := Lib.hid (below_more B.out (Nat.le_refl _) bm)); (have X3 := Lib.hid (BoxG.new W3 (Ln : Int) (Sn : Int) (.slice a3 es.length c3) 24)); (have E3x := Lib.hid (EdgesAt.rd (EdgesAt.keep e3 (below1 W3 (.cells #[.int .i64 (Ln : Int), .int .i64 (Sn : Int), .slice a3 es.length c3] 24))))); (clear b3 bm e3); (clear g1 g2 g3); (obtain ⟨g1, g2, g3⟩ := id G.out); (obtain ⟨x1, x2, x3⟩ := id X3.out))
          | (go_at_call 8; (with_reducible refine (HS1.out _ _ _ E3x.out (HRD.out.keep B.out)).mono ?_); rintro e0 W4 ⟨rfl, b4⟩;  (have G := Lib.hid (G.out.keep b4));  (have B := Lib.hid (below_more B.out (Nat.le_refl _) b4)); (clear b4); (clear g1 g2 g3); (obtain ⟨g1, g2, g3⟩ := id G.out))
          | (go_at_call 7; (with_reducible refine (HPS.out _ (HLW.out.keep B.out)).mono ?_); rintro e0 W5 ⟨rfl, b5⟩; (have bm := below_more b5 (Nat.le_refl _) (below1 W5 (.cells #[.int .i64 0, .int .i64 0, .slice none 0 0] 24))); (have G := Lib.hid (G.out.keep bm)); (have B := Lib.hid (below_more B.out (Nat.le_refl _) bm)); (clear b5 bm); (clear g1 g2 g3); (obtain ⟨g1, g2, g3⟩ := id G.out))
          | (go_at_call 8; (with_reducible refine (HS0.out _).mono ?_); rintro e0 W6 ⟨rfl, b6⟩;  (have G := Lib.hid (G.out.keep b6));  (have B := Lib.hid (below_more B.out (Nat.le_refl _) b6)); (clear b6); (clear g1 g2 g3); (obtain ⟨g1, g2, g3⟩ := id G.out))
          | (go_at_call 5; (with_reducible refine (HAW.out _).mono ?_); rintro e0 W20 ⟨rfl, b20⟩;  (have G := Lib.hid (G.out.keep b20));  (have B := Lib.hid (below_more B.out (Nat.le_refl _) b20)); (clear b20); (clear g1 g2 g3); (obtain ⟨g1, g2, g3⟩ := id G.out)))
        go_ret
        exact ⟨rfl, B.out⟩
    · have HP1 := Lib.hid (fun W h => print_bad L S es (.slice a es.length c) W h hn hv)
      clear hv
      by_cases ht : ∃ l m fs, Tells s l m fs
      · obtain ⟨l, m, fs, ht⟩ := ht
        have hfl : fs.length ≤ 9223372036854775807 := by have h1 := prG_ge l m fs; rw [← ht.2] at h1; omega
        by_cases hc : chkG (l : Int) (m : Int) fs = 0
        · have HPS := Lib.hid (fun W hW => (parse_yes s hs6 W hW ht hfl).mono (fun e w' h => h.1 hc))
          have HP2 := Lib.hid (fun W v' hW h => ht.2 ▸ print_lg l m fs v' W hW h (chkG_zero hc))
          have HCK := Lib.hid (fun v' W h => hc ▸ gcheck_any (l : Int) (m : Int) fs v' W h hfl)
          clear ht hc
          go_enter Tryd.func3, Tryd.ntmps3
          go_wp2_with (first
            | (go_at_call 4; (with_reducible refine (HGR.out _).mono ?_); rintro e0 W1 ⟨rfl, b1⟩; (rw [HGA.out]); (have G := Lib.hid (G.out.keep b1));  (have B := Lib.hid (below_more B.out (Nat.le_refl _) b1)); (clear b1); (clear g1 g2 g3); (obtain ⟨g1, g2, g3⟩ := id G.out))
            | (go_at_call 6; (with_reducible refine (HP1.out _ (HRD.out.keep B.out)).mono ?_); rintro e0 W2 ⟨rfl, b2⟩;  (have G := Lib.hid (G.out.keep b2));  (have B := Lib.hid (below_more B.out (Nat.le_refl _) b2)); (clear b2); (clear g1 g2 g3); (obtain ⟨g1, g2, g3⟩ := id G.out))
            | (go_at_call 7; (with_reducible refine (HPS.out _ (HLW.out.keep B.out)).mono ?_); rintro e0 W5 ⟨v5, rfl, e5, b5⟩; (obtain ⟨a5, c5, rfl⟩ := e5.slice); (have bm := below_more b5 (Nat.le_refl _) (below1 W5 (.cells #[.int .i64 (l : Int), .int .i64 (m : Int), .slice a5 fs.length c5] 24))); (have G := Lib.hid (G.out.keep bm));  (have B := Lib.hid (below_more B.out (Nat.le_refl _) bm)); (have X5 := Lib.hid (BoxG.new W5 (l : Int) (m : Int) (.slice a5 fs.length c5) 24)); (have E5x := Lib.hid (EdgesAt.rd (EdgesAt.keep e5 (below1 W5 (.cells #[.int .i64 (l : Int), .int .i64 (m : Int), .slice a5 fs.length c5] 24))))); (clear b5 bm e5); (clear g1 g2 g3); (obtain ⟨g1, g2, g3⟩ := id G.out); (obtain ⟨x1, x2, x3⟩ := id X5.out))
            | (go_at_call 6; (with_reducible refine (HP2.out _ _ (HLW.out.keep B.out) E5x.out).mono ?_); rintro e0 W6 ⟨rfl, b6⟩;  (have G := Lib.hid (G.out.keep b6)); (have X5 := Lib.hid (X5.out.keep b6)); (have E5x := Lib.hid (E5x.out.keep b6)); (have B := Lib.hid (below_more B.out (Nat.le_refl _) b6)); (clear b6); (clear g1 g2 g3); (obtain ⟨g1, g2, g3⟩ := id G.out); (obtain ⟨x1, x2, x3⟩ := id X5.out))
            | (go_at_call 9; (with_reducible refine (HCK.out _ _ E5x.out).mono ?_); rintro e0 W7 ⟨rfl, b7⟩;  (have G := Lib.hid (G.out.keep b7));  (have B := Lib.hid (below_more B.out (Nat.le_refl _) b7)); (clear b7); (clear g1 g2 g3); (obtain ⟨g1, g2, g3⟩ := id G.out))
            | (go_at_call 5; (with_reducible refine (HAW.out _).mono ?_); rintro e0 W20 ⟨rfl, b20⟩;  (have G := Lib.hid (G.out.keep b20));  (have B := Lib.hid (below_more B.out (Nat.le_refl _) b20)); (clear b20); (clear g1 g2 g3); (obtain ⟨g1, g2, g3⟩ := id G.out)))
          go_ret
          exact ⟨rfl, B.out⟩
        · obtain ⟨z, hz⟩ : ∃ z, chkG (l : Int) (m : Int) fs = z := ⟨_, rfl⟩
          have HPS := Lib.hid (fun W hW => hz ▸ (parse_yes s hs6 W hW ht hfl).mono (fun e w' h => h.2 hc))
          rw [hz] at hc
          have d4 : (z != 0) = true := by simpa using hc
          clear hz
          clear ht hc
          go_enter Tryd.func3, Tryd.ntmps3
          go_wp2_with (first
            | (go_at_call 4; (with_reducible refine (HGR.out _).mono ?_); rintro e0 W1 ⟨rfl, b1⟩; (rw [HGA.out]); (have G := Lib.hid (G.out.keep b1));  (have B := Lib.hid (below_more B.out (Nat.le_refl _) b1)); (clear b1); (clear g1 g2 g3); (obtain ⟨g1, g2, g3⟩ := id G.out))
            | (go_at_call 6; (with_reducible refine (HP1.out _ (HRD.out.keep B.out)).mono ?_); rintro e0 W2 ⟨rfl, b2⟩;  (have G := Lib.hid (G.out.keep b2));  (have B := Lib.hid (below_more B.out (Nat.le_refl _) b2)); (clear b2); (clear g1 g2 g3); (obtain ⟨g1, g2, g3⟩ := id G.out))
            | (go_at_call 7; (with_reducible refine (HPS.out _ (HLW.out.keep B.out)).mono ?_); rintro e0 W5 ⟨rfl, b5⟩; (have bm := below_more b5 (Nat.le_refl _) (below1 W5 (.cells #[.int .i64 0, .int .i64 0, .slice none 0 0] 24))); (have G := Lib.hid (G.out.keep bm)); (have B := Lib.hid (below_more B.out (Nat.le_refl _) bm)); (clear b5 bm); (clear g1 g2 g3); (obtain ⟨g1, g2, g3⟩ := id G.out))
            | (go_at_call 8; (with_reducible refine (HS0.out _).mono ?_); rintro e0 W6 ⟨rfl, b6⟩;  (have G := Lib.hid (G.out.keep b6));  (have B := Lib.hid (below_more B.out (Nat.le_refl _) b6)); (clear b6); (clear g1 g2 g3); (obtain ⟨g1, g2, g3⟩ := id G.out))
            | (go_at_call 5; (with_reducible refine (HAW.out _).mono ?_); rintro e0 W20 ⟨rfl, b20⟩;  (have G := Lib.hid (G.out.keep b20));  (have B := Lib.hid (below_more B.out (Nat.le_refl _) b20)); (clear b20); (clear g1 g2 g3); (obtain ⟨g1, g2, g3⟩ := id G.out)))
          go_ret
          exact ⟨rfl, B.out⟩
      · have HPS := Lib.hid (fun W hW => parse_no s hs6 W hW (fun l m fs h => ht ⟨l, m, fs, h⟩))
        clear ht
        go_enter Tryd.func3, Tryd.ntmps3
        go_wp2_with (first
          | (go_at_call 4; (with_reducible refine (HGR.out _).mono ?_); rintro e0 W1 ⟨rfl, b1⟩; (rw [HGA.out]); (have G := Lib.hid (G.out.keep b1));  (have B := Lib.hid (below_more B.out (Nat.le_refl _) b1)); (clear b1); (clear g1 g2 g3); (obtain ⟨g1, g2, g3⟩ := id G.out))
          | (go_at_call 6; (with_reducible refine (HP1.out _ (HRD.out.keep B.out)).mono ?_); rintro e0 W2 ⟨rfl, b2⟩;  (have G := Lib.hid (G.out.keep b2));  (have B := Lib.hid (below_more B.out (Nat.le_refl _) b2)); (clear b2); (clear g1 g2 g3); (obtain ⟨g1, g2, g3⟩ := id G.out))
          | (go_at_call 7; (with_reducible refine (HPS.out _ (HLW.out.keep B.out)).mono ?_); rintro e0 W5 ⟨rfl, b5⟩; (have bm := below_more b5 (Nat.le_refl _) (below1 W5 (.cells #[.int .i64 0, .int .i64 0, .slice none 0 0] 24))); (have G := Lib.hid (G.out.keep bm)); (have B := Lib.hid (below_more B.out (Nat.le_refl _) bm)); (clear b5 bm); (clear g1 g2 g3); (obtain ⟨g1, g2, g3⟩ := id G.out))
          | (go_at_call 8; (with_reducible refine (HS0.out _).mono ?_); rintro e0 W6 ⟨rfl, b6⟩;  (have G := Lib.hid (G.out.keep b6));  (have B := Lib.hid (below_more B.out (Nat.le_refl _) b6)); (clear b6); (clear g1 g2 g3); (obtain ⟨g1, g2, g3⟩ := id G.out))
          | (go_at_call 5; (with_reducible refine (HAW.out _).mono ?_); rintro e0 W20 ⟨rfl, b20⟩;  (have G := Lib.hid (G.out.keep b20));  (have B := Lib.hid (below_more B.out (Nat.le_refl _) b20)); (clear b20); (clear g1 g2 g3); (obtain ⟨g1, g2, g3⟩ := id G.out)))
        go_ret
        exact ⟨rfl, B.out⟩
end Go.Proofs.YtoekemfgmdbnbaaDoor
