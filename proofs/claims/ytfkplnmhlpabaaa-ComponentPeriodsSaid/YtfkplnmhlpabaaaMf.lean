/- What grooveref10.levels returns: lengths of paths from 0. Conditions: at most 64 states, edges between states, each state reached from each. -/
import Derived.Test.YtfkplnmhlpabaaaMa
import Derived.StillTailTactics
namespace Go.Proofs.Ytfkplnmhlpabaaa
open Go.RowKit Go.Shelf
set_option linter.unusedSimpArgs false
set_option linter.unusedVariables false

structure LvP (es : List E3) (n : Nat) (d : Nat → Int) : Prop where
  bd : ∀ t, t < n → 0 ≤ d t ∧ d t ≤ n
  p : ∀ t, t < n → d t = n ∨ ∃ k : Nat, Pth es 0 k (t : Int) ∧ d t = k
def LvC (es : List E3) (n k : Nat) (d : Nat → Int) : Prop := ∀ t, t < n → ∀ j : Nat, j ≤ k → Pth es 0 j (t : Int) → d t ≤ j
def LvN (es : List E3) (k : Nat) (P : List E3) (d : Nat → Int) : Prop := ∀ e ∈ P, ∀ j : Nat, j ≤ k → Pth es 0 j e.1 → d e.2.2.toNat ≤ j + 1
structure IS (w : World) (La : Int) (n : Nat) (v : Value) (f : Nat → Int) (X : World) : Prop where
  g : BoxG X w.heap.size La (n : Int) v
  b : Below w.heap.size w X
  r : IRow X (w.heap.size + 1) n f
section
variable {w X Y : World} {La : Int} {n : Nat} {v : Value} {f g : Nat → Int}
theorem IS.set (h : IS w La n v f X) (t : Nat) (x : Int) : IS w La n v (fun j => if j = t then x else f j) (X.setCell ⟨w.heap.size + 1, t, none⟩ (.int .i64 x)) :=
  ⟨boxG_other h.g (by show w.heap.size + 1 ≠ _; omega) _, h.b.setCell (by show _ ≤ w.heap.size + 1; omega) _, h.r.set t x⟩
theorem IS.keep (h : IS w La n v f X) (hb : Below X.heap.size X Y) : IS w La n v f Y := ⟨h.g.keep hb, below_more h.b (Nat.le_refl _) hb, h.r.keep hb⟩
theorem IS.congr (h : IS w La n v f X) (e : ∀ i, i < n → f i = g i) : IS w La n v g X := ⟨h.g, h.b, h.r.congr e⟩
end
set_option maxRecDepth 100000 in
set_option maxHeartbeats 6400000 in
theorem levels_any (La : Int) (n : Nat) (es : List E3) (v : Value) (w : World) (hrd : EdgesRd w v es) (hn : n ≤ 64) (hn0 : 0 < n) (hok : ∀ e ∈ es, okE La (n : Int) e = true) (hlen : es.length ≤ 1024) (hc : ∀ s t, s < n → t < n → Rc es (s : Int) (t : Int)) :
    Calls Try.prog 59 #[grV La (n : Int) v] w fun e w' => ∃ b d, e = .returned (.slice (some ⟨b, 0, none⟩) n n) ∧ IRow w' b n d ∧ Pot es n d ∧ (∀ t, t < n → 0 ≤ d t ∧ d t ≤ n) ∧ w.heap.size < b ∧ Below w.heap.size w w' := by
  have HMI := make_ints n (by omega)
  have HRD := Lib.hid hrd
  have HOK := Lib.hid hok
  have HCC := Lib.hid hc
  obtain ⟨a, c, rfl⟩ := hrd.form
  have b1 := below1 w (.cells #[.int .i64 La, .int .i64 (n : Int), .slice a es.length c] 24)
  have g1 := BoxG.new w La (n : Int) (.slice a es.length c) 24
  have k2 := below1 (w.alloc (.cells #[.int .i64 La, .int .i64 (n : Int), .slice a es.length c] 24)) (.cells (madeCells #[.int .i64 0] n) 3)
  have R := IRow.made (w.alloc (.cells #[.int .i64 La, .int .i64 (n : Int), .slice a es.length c] 24)) n
  rw [World.size_alloc] at R
  have T0 := Lib.hid (show IS w La n (.slice a es.length c) (fun _ => 0) ((w.alloc (.cells #[.int .i64 La, .int .i64 (n : Int), .slice a es.length c] 24)).alloc (.cells (madeCells #[.int .i64 0] n) 3)) from ⟨g1.keep k2, below_more b1 (Nat.le_refl _) k2, R⟩)
  obtain ⟨x1, x2, x3⟩ := id g1
  obtain ⟨y1, y2, y3⟩ := id T0.out.g
  clear hrd hok hc b1 g1 k2 R
  go_enter Try.func59, Try.ntmps59
  go_wp2_with fail
  clear x1 x2 x3 y1 y2 y3
  generalize (w.alloc (.cells #[.int .i64 La, .int .i64 (n : Int), .slice a es.length c] 24)).alloc (.cells (madeCells #[.int .i64 0] n) 3) = W2 at *
  go_loopg [4] (n - 1) (fun q s4 wx => ∃ s : Nat, s + q = n ∧ 1 ≤ s ∧ s4 = .int .i64 (s : Int) ∧ Hid (IS w La n (.slice a es.length c) (fun t => if 1 ≤ t ∧ t < s then (n : Int) else 0) wx))
  case atStart => exact ⟨1, by omega, by omega, rfl, Lib.hid (T0.out.congr (fun i _ => by rw [if_neg (by omega)]))⟩
  case round =>
    clear T0
    obtain ⟨s, hsn, hs1, rfl, HT⟩ := hrel
    obtain ⟨x1, x2, x3⟩ := id HT.out.g
    rcases gk with _ | q
    · obtain rfl : n = s := by omega
      have HP := Lib.hid (show LvP es n (fun t => if 1 ≤ t ∧ t < n then (n : Int) else 0) from ⟨fun t ht => by (try dsimp only); split <;> omega, fun t ht => by
        (try dsimp only)
        by_cases h : 1 ≤ t ∧ t < n
        · rw [if_pos h]; exact .inl rfl
        · obtain rfl : t = 0 := by omega
          rw [if_neg h]; exact .inr ⟨0, .nil, rfl⟩⟩)
      have HC := Lib.hid (show LvC es n 0 (fun t => if 1 ≤ t ∧ t < n then (n : Int) else 0) from fun t ht j hj hp => by
        obtain rfl : j = 0 := by omega
        generalize hx' : (t : Int) = t' at hp
        cases hp with
        | nil => obtain rfl : t = 0 := by omega
                 dsimp only; rw [if_neg (by omega)]; omega)
      go_wp2_with fail
      clear x1 x2 x3
      go_loopg [5] n (fun q s5 wx => ∃ (k : Nat) (d : Nat → Int), k + q = n ∧ s5 = .int .i64 (k : Int) ∧ Hid (IS w La n (.slice a es.length c) d wx) ∧ Hid (LvP es n d) ∧ Hid (LvC es n k d))
      case atStart => exact ⟨0, _, by omega, rfl, HT, HP, HC⟩
      case round =>
        clear HT HP HC
        obtain ⟨k, d, hkn, rfl, HT, HP, HC⟩ := hrel
        obtain ⟨x1, x2, x3⟩ := id HT.out.g
        rcases gk with _ | q
        · obtain rfl : n = k := by omega
          have HPO := Lib.hid (show Pot es n d from fun t ht => by
            rcases HP.out.p t ht with h | h
            · obtain ⟨j, hj, hp⟩ := short_any HOK.out hn0 ht (HCC.out 0 t hn0 ht)
              have := HC.out t ht j (by omega) hp
              omega
            · exact h)
          go_wp2_with fail
          go_ret
          exact ⟨_, d, rfl, HT.out.r, HPO.out, HP.out.bd, by omega, HT.out.b⟩
        · have j2 : (k : Int) < (n : Int) := by omega
          have HN := Lib.hid (show LvN es k (es.take 0) d from fun e he => by cases he)
          go_wp2_with fail
          clear x1 x2 x3
          go_loopg [6] es.length (fun q2 s6 wx => ∃ (i : Nat) (d : Nat → Int), i + q2 = es.length ∧ s6 = .int .i64 (i : Int) ∧ Hid (IS w La n (.slice a es.length c) d wx) ∧ Hid (LvP es n d) ∧ Hid (LvC es n k d) ∧ Hid (LvN es k (es.take i) d))
          case atStart => exact ⟨0, d, by omega, rfl, HT, HP, HC, HN⟩
          case round =>
            clear HT HP HC HN
            obtain ⟨i, d, hin, rfl, HT, HP, HC, HN⟩ := hrel
            obtain ⟨x1, x2, x3⟩ := id HT.out.g
            rcases gk with _ | q2
            · obtain rfl : i = es.length := by omega
              have HC2 := Lib.hid (show LvC es n (k + 1) d from fun t ht j hj hp => by
                by_cases hjk : j ≤ k
                · exact HC.out t ht j hjk hp
                · obtain rfl : j = k + 1 := by omega
                  generalize hx' : (t : Int) = t' at hp
                  cases hp with
                  | step h1 he =>
                    rename_i e
                    have h3 := HN.out e (by rw [List.take_length]; exact he) k (Nat.le_refl _) h1
                    rw [show e.2.2.toNat = t by omega] at h3
                    omega)
              go_wp2_with fail
              go_roundg q
              case measure => omega
              case rel => exact ⟨k + 1, d, by omega, by go_num, HT, HP, HC2⟩
            · obtain ⟨e, he⟩ : ∃ e, es[i]? = some e := ⟨_, List.getElem?_eq_getElem (by omega)⟩
              have hem := List.mem_of_getElem? he
              have hek := okE_st (HOK.out e hem)
              obtain ⟨bb, off, c', hv, k1, k2, k3⟩ := (HRD.out.keep HT.out.b).at he
              injection hv with e1 e2 e3
              subst e1
              subst e3
              have HTK := Lib.hid (take_snoc he)
              have HED := Lib.hid (fun j (h : Pth es 0 j e.1) => show Pth es 0 (j + 1) e.2.2 from .step h hem)
              obtain ⟨x, y, z⟩ := e
              dsimp only at hek k1 k2 k3 HED
              obtain ⟨hx, hz, hx1, hz1⟩ := hek
              obtain ⟨x', hx'⟩ : ∃ x', x.toNat = x' := ⟨_, rfl⟩
              obtain ⟨z', hz'⟩ : ∃ z', z.toNat = z' := ⟨_, rfl⟩
              rw [hx'] at hx hx1
              rw [hz'] at hz hz1
              subst hx1
              subst hz1
              have j3 : (i : Int) < (es.length : Int) := by omega
              have j4 : (x' : Int) < (n : Int) := by omega
              have j5 : (z' : Int) < (n : Int) := by omega
              have o1 := below1 wr (.cells #[.int .i64 (x' : Int), .int .i64 y, .int .i64 (z' : Int)] 46)
              have HT1 := Lib.hid (HT.out.keep o1)
              obtain ⟨u1, u2, u3, -⟩ := Box3.new wr (x' : Int) y (z' : Int) 46
              have hbx := HP.out.bd x' hx
              have hbz := HP.out.bd z' hz
              have HC2 := Lib.hid (show LvC es n k (fun j => if j = z' then min (d z') (d x' + 1) else d j) from fun t ht j hj hp => by
                have := HC.out t ht j hj hp
                dsimp only
                by_cases e : t = z'
                · subst e; rw [if_pos rfl]; omega
                · rw [if_neg e]; exact this)
              have HN2 := Lib.hid (show LvN es k (es.take (i + 1)) (fun j => if j = z' then min (d z') (d x' + 1) else d j) from fun e he j hj hp => by
                rw [HTK.out] at he
                dsimp only
                rcases List.mem_append.1 he with h | h
                · have := HN.out e h j hj hp
                  by_cases e' : e.2.2.toNat = z'
                  · rw [if_pos e']; rw [e'] at this; omega
                  · rw [if_neg e']; exact this
                · obtain rfl := List.mem_singleton.1 h
                  dsimp only
                  rw [if_pos (Int.toNat_natCast z')]
                  have := HC.out x' hx j hj hp
                  omega)
              have HP2 := Lib.hid (show LvP es n (fun j => if j = z' then min (d z') (d x' + 1) else d j) from ⟨fun t ht => by
                  have := HP.out.bd t ht
                  (try dsimp only)
                  split <;> omega, fun t ht => by
                  (try dsimp only)
                  by_cases e' : t = z'
                  · subst e'
                    rw [if_pos rfl]
                    by_cases hle : d t ≤ d x' + 1
                    · rw [Int.min_eq_left hle]; exact HP.out.p t hz
                    · rw [Int.min_eq_right (by omega)]
                      rcases HP.out.p x' hx with h | ⟨kk, h1, h2⟩
                      · omega
                      · exact .inr ⟨kk + 1, HED.out kk h1, by rw [h2]; omega⟩
                  · rw [if_neg e']; exact HP.out.p t ht⟩)
              have HT2 := Lib.hid (fun W (h : IS w La n (.slice (some ⟨bb, off, none⟩) es.length c) d W) => h.set z' (min (d z') (d x' + 1)))
              have c1 := HT1.out.r.cell hx
              have c2 := HT1.out.r.cell hz
              have f2 := HT1.out.r.frozen z'
              have HT3 := Lib.hid (HT1.out.keep (below_drewM (Below.refl _ _) 1))
              obtain ⟨p, hp⟩ : ∃ p, d x' = p := ⟨_, rfl⟩
              obtain ⟨r, hr⟩ : ∃ r, d z' = r := ⟨_, rfl⟩
              rw [hp] at c1 hbx HT2 HP2 HC2 HN2
              rw [hr] at c2 hbz HT2 HP2 HC2 HN2
              have w1 : IntKind.i64.wrap (p + 1) = p + 1 := by rw [IntKind.wrap_i64]; omega
              clear he hem e2 hx' hz' HC HN HP HT o1 hp hr
              clear HT3
              go_upto_region 13 with fail
              clear x1 x2 x3 k1 k2 k3
              generalize hP0 : wr.heap.size = P0 at *
              generalize wr.alloc (.cells #[.int .i64 (x' : Int), .int .i64 y, .int .i64 (z' : Int)] 46) = W1 at *
              have bd := (Below.refl W1.heap.size W1).drew
              have HT9 := Lib.hid (HT1.out.keep bd)
              have v1 := cell_keep u1 bd
              have v3 := cell_keep u3 bd
              dsimp only at v1 v3
              have c1 := cell_keep c1 bd
              have c2 := cell_keep c2 bd
              have f2 := HT9.out.r.frozen z'
              clear u1 u2 u3 HT1 bd hP0
              refine wp_region_still_tail 16 (by kernel_rfl) (by kernel_rfl) ?_
              simp only [List.take_succ_cons, List.take_zero, List.drop_succ_cons, List.drop_zero]
              rw [show ({ heap := W1.heap, tape := W1.tape, drawn := W1.drawn + 1, os := W1.os, output := W1.output } : World) = W1.drew from rfl]
              generalize W1.drew = W9 at *
              repeat still_step
              refine wpStill_nil ?_
              go_wp2_with fail
              go_roundg q2
              case measure => omega
              case rel => exact ⟨i + 1, _, by omega, by go_num, Lib.hid (HT2.out _ HT9.out), HP2, HC2, HN2⟩
    · have c1 := HT.out.r.cell (show s < n by omega)
      have f1 := HT.out.r.frozen s
      have j1 : (s : Int) < (n : Int) := by omega
      have H2 := Lib.hid ((HT.out.set s (n : Int)).congr (g := fun t => if 1 ≤ t ∧ t < s + 1 then (n : Int) else 0) (fun t _ => by
        (try dsimp only)
        by_cases h : t = s
        · rw [if_pos h, if_pos (by omega)]
        · rw [if_neg h]
          by_cases h2 : 1 ≤ t ∧ t < s
          · rw [if_pos h2, if_pos (by omega)]
          · rw [if_neg h2, if_neg (by omega)]))
      go_wp2_with fail
      go_roundg q
      case measure => omega
      case rel => exact ⟨s + 1, by omega, by omega, by go_num, H2⟩
end Go.Proofs.Ytfkplnmhlpabaaa
