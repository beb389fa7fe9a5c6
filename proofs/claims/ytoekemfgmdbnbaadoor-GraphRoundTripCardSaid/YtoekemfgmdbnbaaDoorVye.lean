/- What graph.Parse returns. Conditions: at most 65536 bytes; the library's variables read as LG says. -/
import Derived.Test.YtoekemfgmdbnbaaDoorVyd
namespace Go.Proofs.YtoekemfgmdbnbaaDoor
open Go.RowKit
set_option linter.unusedSimpArgs false
set_option linter.unusedVariables false

theorem read_yes {s : List UInt8} (hs : s.length ≤ 65536) {w : World} (h : LG w) {l n : Nat} {es : List E3} (ht : Tells s l n es) :
    Calls Tryd.prog 19 #[.string ⟨s.toArray⟩] w fun e w' => ∃ v, e = .returned (.tuple #[grV (l : Int) (n : Int) v, .bool true]) ∧ EdgesAt w' w.heap.size v es ∧ Below w.heap.size w w' := by
  refine (read_any s hs w h).mono ?_
  rintro e w' ⟨L, S, v, b, he, hb, ⟨rfl, l', n', es', rfl, rfl, ht', hE⟩ | ⟨-, -, -, -, hno⟩⟩
  · obtain ⟨rfl, rfl, rfl⟩ := prG_inj ht.1 ht'.1 (ht.2.symm.trans ht'.2)
    exact ⟨v, he, hE, hb⟩
  · exact absurd ht (hno _ _ _)
theorem read_no {s : List UInt8} (hs : s.length ≤ 65536) {w : World} (h : LG w) (hno : ∀ l n es, ¬ Tells s l n es) :
    Calls Tryd.prog 19 #[.string ⟨s.toArray⟩] w fun e w' => e = .returned (.tuple #[grV 0 0 (.slice none 0 0), .bool false]) ∧ Below w.heap.size w w' := by
  refine (read_any s hs w h).mono ?_
  rintro e w' ⟨L, S, v, b, he, hb, ⟨rfl, l', n', es', rfl, rfl, ht', hE⟩ | ⟨rfl, rfl, rfl, rfl, -⟩⟩
  · exact absurd ht' (hno _ _ _)
  · exact ⟨he, hb⟩
/-- The result's variable, the graph's. -/
structure PK (w : World) (L S : Int) (v : Value) (ms : List E3) (p : Nat) (W : World) : Prop where
  r : BoxF W w.heap.size 0 0 (.slice none 0 0)
  g : BoxG W p L S v
  e : EdgesAt W (w.heap.size + 1) v ms
  b : Below w.heap.size w W
theorem PK.keep {w W W' : World} {L S : Int} {v : Value} {ms : List E3} {p : Nat} (h : PK w L S v ms p W) (hb : Below W.heap.size W W') : PK w L S v ms p W' :=
  ⟨h.r.keep hb, h.g.keep hb, EdgesAt.keep h.e hb, h.b.trans (hb.mono h.b.size)⟩
/-- What Parse returns. -/
def ParY (w : World) (l n : Nat) (es : List E3) (e : Ending) (w' : World) : Prop := ∃ v, e = .returned (.tuple #[grV (l : Int) (n : Int) v, .int .i64 0]) ∧ EdgesAt w' w.heap.size v es ∧ Below w.heap.size w w'
def ParN (w : World) (z : Int) (e : Ending) (w' : World) : Prop := e = .returned (.tuple #[grV 0 0 (.slice none 0 0), .int .i64 z]) ∧ Below w.heap.size w w'
set_option maxRecDepth 100000 in
set_option maxHeartbeats 3200000 in
theorem parse_no (s : List UInt8) (hs : s.length ≤ 65536) (w : World) (h : LG w) (hno : ∀ l n es, ¬ Tells s l n es) :
    Calls Tryd.prog 7 #[.string ⟨s.toArray⟩] w (ParN w 3) := by
  have hsz : (⟨s.toArray⟩ : ByteArray).size = s.length := rfl
  have b1 := below1 w (.cells #[.int .i64 0, .int .i64 0, .slice none 0 0] 24)
  have HR := Lib.hid (read_no hs (h.keep b1) hno)
  have R0 := Lib.hid (BoxF.new w 0 0 (.slice none 0 0) 24)
  have B0 := Lib.hid b1
  have d1 : decide ((65536 : Int) < ((⟨s.toArray⟩ : ByteArray).size : Int)) = false := decide_eq_false (by omega)
  have d2 : decide ((65536 : Int) < (s.length : Int)) = false := decide_eq_false (by omega)
  have d3 : decide (65536 < s.length) = false := decide_eq_false (by omega)
  clear b1
  go_enter Tryd.func7, Tryd.ntmps7
  go_wp2_with (go_at_call 19; (with_reducible refine HR.out.mono ?_); rintro e W2 ⟨rfl, b2⟩; (have B2 := Lib.hid (below_more (below_more B0.out (Nat.le_refl _) b2) (Nat.le_refl _) (below1 W2 (.cells #[.int .i64 0, .int .i64 0, .slice none 0 0] 24)))); (obtain ⟨⟨r1, r2, r3⟩, r4, r5, r6⟩ := id ((R0.out.keep b2).keep (below1 W2 (.cells #[.int .i64 0, .int .i64 0, .slice none 0 0] 24)))); (clear b2))
  exact bodyPost_ret (v := .tuple #[grV 0 0 (.slice none 0 0), .int .i64 3]) (by simp [results, Tryd.results7, go_sem, r1, r2, r3]) rfl
    ⟨rfl, below_over B2.out (Nat.le_refl _) _ _ _⟩
set_option maxRecDepth 100000 in
set_option maxHeartbeats 3200000 in
theorem parse_yes (s : List UInt8) (hs : s.length ≤ 65536) (w : World) (h : LG w) {l n : Nat} {es : List E3} (ht : Tells s l n es) (hel : es.length ≤ 9223372036854775807) :
    Calls Tryd.prog 7 #[.string ⟨s.toArray⟩] w fun e w' => (chkG (l : Int) (n : Int) es = 0 → ParY w l n es e w') ∧ (chkG (l : Int) (n : Int) es ≠ 0 → ParN w (chkG (l : Int) (n : Int) es) e w') := by
  have hsz : (⟨s.toArray⟩ : ByteArray).size = s.length := rfl
  have b1 := below1 w (.cells #[.int .i64 0, .int .i64 0, .slice none 0 0] 24)
  have HR := Lib.hid (read_yes hs (h.keep b1) ht)
  have HCK := Lib.hid (fun v' W h => gcheck_any (l : Int) (n : Int) es v' W h hel)
  have R0 := Lib.hid (BoxF.new w 0 0 (.slice none 0 0) 24)
  have B0 := Lib.hid b1
  have Z0 := Lib.hid (World.size_alloc w (.cells #[.int .i64 0, .int .i64 0, .slice none 0 0] 24))
  have d1 : decide ((65536 : Int) < ((⟨s.toArray⟩ : ByteArray).size : Int)) = false := decide_eq_false (by omega)
  have d2 : decide ((65536 : Int) < (s.length : Int)) = false := decide_eq_false (by omega)
  have d3 : decide (65536 < s.length) = false := decide_eq_false (by omega)
  obtain ⟨z, hz⟩ : ∃ z, chkG (l : Int) (n : Int) es = z := ⟨_, rfl⟩
  simp only [hz] at HCK ⊢
  clear b1 hz
  by_cases h0 : z = 0
  · subst h0
    go_enter Tryd.func7, Tryd.ntmps7
    go_wp2_with (first
      | (go_at_call 19; (with_reducible refine HR.out.mono ?_); rintro e W2 ⟨v2, rfl, i2, b2⟩; (obtain ⟨a2, c2, rfl⟩ := i2.slice); (have bm := below1 W2 (.cells #[.int .i64 (l : Int), .int .i64 (n : Int), .slice a2 es.length c2] 24)); (have K2 := Lib.hid (show PK w (l : Int) (n : Int) (.slice a2 es.length c2) es W2.heap.size (W2.alloc (.cells #[.int .i64 (l : Int), .int .i64 (n : Int), .slice a2 es.length c2] 24)) from ⟨(R0.out.keep b2).keep bm, BoxG.new W2 _ _ _ _, EdgesAt.keep (by rw [Z0.out] at i2; exact i2) bm, below_more (below_more B0.out (Nat.le_refl _) b2) (Nat.le_refl _) bm⟩)); (clear i2 b2 bm); (obtain ⟨g1, g2, g3⟩ := id K2.out.g))
      | (go_at_call 9; (with_reducible refine (HCK.out _ _ (EdgesAt.rd K2.out.e)).mono ?_); rintro e W3 ⟨rfl, b3⟩; (have K3 := Lib.hid (K2.out.keep b3)); (clear b3 g1 g2 g3); (obtain ⟨g1, g2, g3⟩ := id K3.out.g); (obtain ⟨⟨r1, r2, r3⟩, r4, r5, r6⟩ := id K3.out.r)))
    exact bodyPost_ret (v := .tuple #[grV (l : Int) (n : Int) (.slice a2 es.length c2), .int .i64 0]) (by simp [results, Tryd.results7, go_sem, r1, r2, r3]) rfl
      ⟨fun _ => ⟨_, rfl, edges_over K3.out.e (Nat.lt_succ_self _) _ _ _ (Nat.le_succ _), below_over K3.out.b (Nat.le_refl _) _ _ _⟩, fun h => absurd rfl h⟩
  · have d4 : (z != 0) = true := by simpa using h0
    have HZ := Lib.hid h0
    clear h0
    go_enter Tryd.func7, Tryd.ntmps7
    go_wp2_with (first
      | (go_at_call 19; (with_reducible refine HR.out.mono ?_); rintro e W2 ⟨v2, rfl, i2, b2⟩; (obtain ⟨a2, c2, rfl⟩ := i2.slice); (have bm := below1 W2 (.cells #[.int .i64 (l : Int), .int .i64 (n : Int), .slice a2 es.length c2] 24)); (have K2 := Lib.hid (show PK w (l : Int) (n : Int) (.slice a2 es.length c2) es W2.heap.size (W2.alloc (.cells #[.int .i64 (l : Int), .int .i64 (n : Int), .slice a2 es.length c2] 24)) from ⟨(R0.out.keep b2).keep bm, BoxG.new W2 _ _ _ _, EdgesAt.keep (by rw [Z0.out] at i2; exact i2) bm, below_more (below_more B0.out (Nat.le_refl _) b2) (Nat.le_refl _) bm⟩)); (clear i2 b2 bm); (obtain ⟨g1, g2, g3⟩ := id K2.out.g))
      | (go_at_call 9; (with_reducible refine (HCK.out _ _ (EdgesAt.rd K2.out.e)).mono ?_); rintro e W3 ⟨rfl, b3⟩; (have K3 := Lib.hid (K2.out.keep b3)); (clear b3 g1 g2 g3); (obtain ⟨g1, g2, g3⟩ := id K3.out.g); (obtain ⟨⟨r1, r2, r3⟩, r4, r5, r6⟩ := id K3.out.r)))
    exact bodyPost_ret (v := .tuple #[grV 0 0 (.slice none 0 0), .int .i64 z]) (by simp [results, Tryd.results7, go_sem, r1, r2, r3]) rfl
      ⟨fun h => absurd h HZ.out, fun _ => ⟨rfl, below_over K3.out.b (Nat.le_refl _) _ _ _⟩⟩
end Go.Proofs.YtoekemfgmdbnbaaDoor
