/- What the reference implementation's Floor of layer 2 returns. Condition: at most 10^6 bytes. Words for the reference implementation's simplest of layer 2. Condition: at most 10^6 bytes. What the reference implementation's simplest of layer 2 returns where an integer lies between. Condition: at most 800000 bytes. -/
import Derived.Test.YtcljkdninmldiaaGreatDoorQ40
import Derived.Test.YtcljkdninmldiaaGreatDoorQ43
import Derived.Test.YtcljkdninmldiaaGreatDoorQ39
import Derived.Test.YtcljkdninmldiaaGreatDoorQ44
import Derived.Test.YtcljkdninmldiaaGreatDoorQ38

namespace Go.Proofs.YtcljkdninmldiaaGreatDoor
open Go.RowKit
set_option linter.unusedSimpArgs false
set_option linter.unusedVariables false

set_option maxRecDepth 100000 in
set_option maxHeartbeats 6400000 in
theorem rfloor02_any (v : Value) (q : Rat) (f : Int) (L : Nat) (w : World) (h : AR v q L) (hL : L ≤ 1000000) (hf : q.floor = f) : Calls Tryz.prog 60 #[v] w (IntOut w f) := by
  have H := Lib.hid h
  have Q := Lib.hid h.bd
  have Qf := Lib.hid (show qD q.num (q.den : Int) = f by rw [qD_floor den_ne, Rat.num_divInt_den]; exact hf)
  obtain ⟨r, Hr⟩ : ∃ r, Hid (rD q.num (q.den : Int) = r) := ⟨_, Lib.hid rfl⟩
  obtain ⟨g1, s1, g2, s2, _, _, rfl, -, -, -⟩ := h
  clear hf
  have X0 := (BR.new w 25 g1 g2 s1 s2).keep (below1 _ (.cells #[.bool false, .string ⟨#[]⟩] 23))
  have Y0 := Box2.new (w.alloc (.cells #[.bool g1, .string s1, .bool g2, .string s2] 25)) 23 false ⟨#[]⟩
  rw [World.size_alloc] at Y0
  have B0 := below2 w (.cells #[.bool g1, .string s1, .bool g2, .string s2] 25) (.cells #[.bool false, .string ⟨#[]⟩] 23)
  go_enter Tryz.func60, Tryz.ntmps60
  go_upto_region 1 with fail
  generalize (w.alloc (.cells #[.bool g1, .string s1, .bool g2, .string s2] 25)).alloc (.cells #[.bool false, .string ⟨#[]⟩] 23) = W0 at *
  obtain ⟨⟨x1, x2, x3, x4⟩, x5, x6, x7, x8⟩ := id X0
  go_wp2_with fail
  refine (rcan02_any _ q L _ H.out (by omega)).mono ?_
  rintro e X ⟨rfl, bX⟩
  unfold ratV
  have K := X0.keep bX
  have K2 := K.put (g1' := sg q.num) (g2' := sg (q.den : Int)) (s1' := mg q.num) (s2' := mg (q.den : Int))
  have Y := Y0.keep bX
  have Y2 := (((Y.far (a := ⟨w.heap.size, 0, none⟩) (by dsimp only; omega) (.bool (sg q.num))).far (a := ⟨w.heap.size, 1, none⟩) (by dsimp only; omega) (.string (mg q.num))).far (a := ⟨w.heap.size, 2, none⟩) (by dsimp only; omega) (.bool (sg (q.den : Int)))).far (a := ⟨w.heap.size, 3, none⟩) (by dsimp only; omega) (.string (mg (q.den : Int)))
  have B2 := below4s (below_more B0 (Nat.le_refl _) bX) w.heap.size (Nat.le_refl _) (.bool (sg q.num)) (.string (mg q.num)) (.bool (sg (q.den : Int))) (.string (mg (q.den : Int)))
  clear bX x1 x2 x3 x4 x5 x6 x7 x8 X0 Y0 B0
  obtain ⟨⟨x1, x2, x3, x4⟩, x5, x6, x7, x8⟩ := id K
  go_upto_region 2 with fail
  generalize (((X.setCell ⟨w.heap.size, 0, none⟩ (.bool (sg q.num))).setCell ⟨w.heap.size, 1, none⟩ (.string (mg q.num))).setCell ⟨w.heap.size, 2, none⟩ (.bool (sg (q.den : Int)))).setCell ⟨w.heap.size, 3, none⟩ (.string (mg (q.den : Int))) = X2 at *
  clear K Y x1 x2 x3 x4 x5 x6 x7 x8
  obtain ⟨⟨x1, x2, x3, x4⟩, -⟩ := id K2
  go_wp2_with fail
  refine (ai_div (ar_num Q.out) (ar_den Q.out) (by omega) den_ne Qf.out Hr.out).mono ?_
  rintro e X3 ⟨rfl, b3⟩
  have Y3 := Y2.keep b3
  have B3 := below_more B2 (Nat.le_refl _) b3
  have hlt : w.heap.size + 1 < X3.heap.size := World.block_lt_of_cell? X3 ⟨w.heap.size + 1, 0, none⟩ Y3.1
  clear b3 x1 x2 x3 x4 K2 Y2 B2
  have U := (Box2.new X3 23 (sg f) (mg f)).keep (below1 _ (.cells #[.bool (sg r), .string (mg r)] 23))
  have Y4 := (Y3.keep (below1 _ (.cells #[.bool (sg f), .string (mg f)] 23))).keep (below1 _ (.cells #[.bool (sg r), .string (mg r)] 23))
  have B4 := (B3.alloc B3.size (.cells #[.bool (sg f), .string (mg f)] 23)).alloc (by rw [World.size_alloc]; have := B3.size; omega) (.cells #[.bool (sg r), .string (mg r)] 23)
  go_upto_region 3 with fail
  generalize (X3.alloc (.cells #[.bool (sg f), .string (mg f)] 23)).alloc (.cells #[.bool (sg r), .string (mg r)] 23) = X4 at *
  generalize X3.heap.size = u at *
  clear Y3 B3
  obtain ⟨u1, u2, u3, u4⟩ := id U
  obtain ⟨r1, r2, r3, r4⟩ := id Y4
  go_wp2_with fail
  exact bodyPost_ret (v := .agg #[.bool (sg f), .string (mg f)]) (by simp [results, Tryz.results60, go_sem, r1, r2, r3, r4]) rfl ⟨rfl, (B4.setCell (by dsimp only; omega) _).setCell (by dsimp only; omega) _⟩
end Go.Proofs.YtcljkdninmldiaaGreatDoor

namespace Go.Proofs.YtcljkdninmldiaaGreatDoor
open Go.RowKit
set_option linter.unusedSimpArgs false
set_option linter.unusedVariables false

theorem rof02_eq {v1 : Value} {n : Int} {r : Rat} {L : Nat} {w : World} (h1 : AI v1 n L) (hL : L + 1 ≤ 10000000) (e : (n : Rat) = r) : Calls Tryz.prog 30 #[v1] w (RatOut w r) := e ▸ rof02_any v1 n L w h1 hL
end Go.Proofs.YtcljkdninmldiaaGreatDoor

namespace Go.Proofs.YtcljkdninmldiaaGreatDoor
open Go.RowKit
set_option linter.unusedSimpArgs false
set_option linter.unusedVariables false
attribute [local go_sem ↓] eqlInt guardInt2 eqlRat guardRat2

set_option maxRecDepth 100000 in
set_option maxHeartbeats 12800000 in
theorem rsimp_base (v1 v2 : Value) (p q np ql qo : Rat) (f1 l c : Int) (L : Nat) (w : World) (h1 : AR v1 p L) (h2 : AR v2 q L) (hL1 : 1 ≤ L) (hL : L ≤ 800000)
    (enp : -p = np) (bnp : Rb8 np L) (ef1 : np.floor = f1) (el : -f1 = l) (bf1 : f1.natAbs < 256 ^ L) (bl : l.natAbs < 256 ^ L) (eql : (l : Rat) = ql) (bql : Rb8 ql L) (ec : cmpQ ql q = c) (hd : decide (c ≤ 0) = true) (ho : ql = qo) :
    Calls Tryz.prog 31 #[v1, v2] w (RatOut w qo) := by
  have H1 := Lib.hid h1
  have H2 := Lib.hid h2
  have Enp := Lib.hid enp
  have Bnp := Lib.hid bnp
  have Ef1 := Lib.hid ef1
  have El := Lib.hid el
  have Bf1 := Lib.hid bf1
  have Bl := Lib.hid bl
  have Eql := Lib.hid eql
  have Bql := Lib.hid bql
  have Ec := Lib.hid ec
  have Hd := Lib.hid hd
  subst ho
  clear hd
  clear enp bnp ef1 el bf1 bl eql bql ec
  obtain ⟨g1, s1, g2, s2, _, _, rfl, -, -, -⟩ := h1
  obtain ⟨g3, s3, g4, s4, _, _, rfl, -, -, -⟩ := h2
  obtain ⟨W0, hW0⟩ : ∃ W0, W0 = ((w.alloc (.cells #[.bool g1, .string s1, .bool g2, .string s2] 25)).alloc (.cells #[.bool g3, .string s3, .bool g4, .string s4] 25)).alloc (.cells #[.bool false, .string ⟨#[]⟩, .bool false, .string ⟨#[]⟩] 25) := ⟨_, rfl⟩
  have D0 : Dw w W0 w.heap.size g1 s1 g2 s2 g3 s3 g4 s4 := by rw [hW0]; exact Dw.start w _ _ _ _ _ _ _ _
  have HW := Lib.hid hW0
  clear hW0
  have K : Vars [(w.heap.size, [.bool g1, .string s1, .bool g2, .string s2]), (w.heap.size + 1, [.bool g3, .string s3, .bool g4, .string s4])] W0 := Vars.cons (four_cells D0.1.1.1 D0.1.1.2.1 D0.1.1.2.2.1 D0.1.1.2.2.2) (Vars.cons (four_cells D0.2.1.1.1 D0.2.1.1.2.1 D0.2.1.1.2.2.1 D0.2.1.1.2.2.2) (Vars.nil _))
  have P0 : ResRat W0 (w.heap.size + 1 + 1) := D0.2.2.1
  have Bw : Below w.heap.size w W0 := D0.2.2.2.2.1
  have B : Below W0.heap.size W0 W0 := Below.refl _ _
  clear D0
  go_enter Tryz.func31, Tryz.ntmps31
  go_upto_region 1 with fail
  rw [← HW.out]
  clear HW
  obtain ⟨t1, t2, t3, t4, t5, t6, t7, t8⟩ : W0.cell? ⟨w.heap.size, 0, none⟩ = some (.bool g1) ∧ W0.cell? ⟨w.heap.size, 1, none⟩ = some (.string s1) ∧ W0.cell? ⟨w.heap.size, 2, none⟩ = some (.bool g2) ∧ W0.cell? ⟨w.heap.size, 3, none⟩ = some (.string s2) ∧ W0.cell? ⟨w.heap.size + 1, 0, none⟩ = some (.bool g3) ∧ W0.cell? ⟨w.heap.size + 1, 1, none⟩ = some (.string s3) ∧ W0.cell? ⟨w.heap.size + 1, 2, none⟩ = some (.bool g4) ∧ W0.cell? ⟨w.heap.size + 1, 3, none⟩ = some (.string s4) := ⟨K.at 0 0 rfl, K.at 0 1 rfl, K.at 0 2 rfl, K.at 0 3 rfl, K.at 1 0 rfl, K.at 1 1 rfl, K.at 1 2 rfl, K.at 1 3 rfl⟩
  go_wp2_with fail
  refine (rneg02_any _ p np L _ H1.out (by omega) Enp.out).mono ?_
  rintro e W1 ⟨rfl, b1⟩
  have K := K.keep b1
  have B := below_more B (Nat.le_refl _) b1
  clear b1
  go_wp2_with fail
  refine (rfloor02_any _ np f1 L _ (ar_out Bnp.out) (by omega) Ef1.out).mono ?_
  rintro e W2 ⟨rfl, b2⟩
  have K := K.keep b2
  have B := below_more B (Nat.le_refl _) b2
  clear b2
  go_wp2_with fail
  refine (ai_neg (ai_mg Bf1.out) (by omega) El.out).mono ?_
  rintro e W3 ⟨rfl, b3⟩
  have K := K.keep b3
  have B := below_more B (Nat.le_refl _) b3
  clear b3
  clear t1 t2 t3 t4 t5 t6 t7 t8
  have hbl := below1 W3 (.cells #[.bool (sg l), .string (mg l)] 23)
  have K : Vars ((W3.heap.size, [.bool (sg l), .string (mg l)]) :: [(w.heap.size, [.bool g1, .string s1, .bool g2, .string s2]), (w.heap.size + 1, [.bool g3, .string s3, .bool g4, .string s4])]) (W3.alloc (.cells #[.bool (sg l), .string (mg l)] 23)) := Vars.new K _ _
  have B := below_more B (Nat.le_refl _) hbl
  clear hbl
  unfold ratV
  go_upto_region 2 with fail
  generalize W3.alloc (.cells #[.bool (sg l), .string (mg l)] 23) = V4 at *
  generalize W3.heap.size = p4 at *
  go_cut [21] (fun s21 wx => s21 = .bool true ∧ Vars [(p4, [.bool (sg l), .string (mg l)]), (w.heap.size, [.bool g1, .string s1, .bool g2, .string s2]), (w.heap.size + 1, [.bool g3, .string s3, .bool g4, .string s4])] wx ∧ Below W0.heap.size W0 wx)
  case first =>
    obtain ⟨t1, t2, t3, t4, t5, t6, t7, t8, t9, t10⟩ : V4.cell? ⟨p4, 0, none⟩ = some (.bool (sg l)) ∧ V4.cell? ⟨p4, 1, none⟩ = some (.string (mg l)) ∧ V4.cell? ⟨w.heap.size, 0, none⟩ = some (.bool g1) ∧ V4.cell? ⟨w.heap.size, 1, none⟩ = some (.string s1) ∧ V4.cell? ⟨w.heap.size, 2, none⟩ = some (.bool g2) ∧ V4.cell? ⟨w.heap.size, 3, none⟩ = some (.string s2) ∧ V4.cell? ⟨w.heap.size + 1, 0, none⟩ = some (.bool g3) ∧ V4.cell? ⟨w.heap.size + 1, 1, none⟩ = some (.string s3) ∧ V4.cell? ⟨w.heap.size + 1, 2, none⟩ = some (.bool g4) ∧ V4.cell? ⟨w.heap.size + 1, 3, none⟩ = some (.string s4) := ⟨K.at 0 0 rfl, K.at 0 1 rfl, K.at 1 0 rfl, K.at 1 1 rfl, K.at 1 2 rfl, K.at 1 3 rfl, K.at 2 0 rfl, K.at 2 1 rfl, K.at 2 2 rfl, K.at 2 3 rfl⟩
    have K0 : Vars [(p4, [.bool (sg l), .string (mg l)]), (w.heap.size, [.bool g1, .string s1, .bool g2, .string s2]), (w.heap.size + 1, [.bool g3, .string s3, .bool g4, .string s4])] V4.drew := K
    have B0 := B.drew
    have KB := And.intro K0 B0
    clear K0 B0
    have FL := Lib.hid (show ∀ W, Vars [(p4, [.bool (sg l), .string (mg l)]), (w.heap.size, [.bool g1, .string s1, .bool g2, .string s2]), (w.heap.size + 1, [.bool g3, .string s3, .bool g4, .string s4])] W → (W.cell? ⟨p4, 0, none⟩ = some (.bool (sg l)) ∧ W.cell? ⟨p4, 1, none⟩ = some (.string (mg l)) ∧ W.cell? ⟨w.heap.size, 0, none⟩ = some (.bool g1) ∧ W.cell? ⟨w.heap.size, 1, none⟩ = some (.string s1) ∧ W.cell? ⟨w.heap.size, 2, none⟩ = some (.bool g2) ∧ W.cell? ⟨w.heap.size, 3, none⟩ = some (.string s2) ∧ W.cell? ⟨w.heap.size + 1, 0, none⟩ = some (.bool g3) ∧ W.cell? ⟨w.heap.size + 1, 1, none⟩ = some (.string s3) ∧ W.cell? ⟨w.heap.size + 1, 2, none⟩ = some (.bool g4) ∧ W.cell? ⟨w.heap.size + 1, 3, none⟩ = some (.string s4)) from fun W h => ⟨h.at 0 0 rfl, h.at 0 1 rfl, h.at 1 0 rfl, h.at 1 1 rfl, h.at 1 2 rfl, h.at 1 3 rfl, h.at 2 0 rfl, h.at 2 1 rfl, h.at 2 2 rfl, h.at 2 3 rfl⟩)
    go_region_held3 (fun W => W.cell? ⟨p4, 0, none⟩ = some (.bool (sg l)) ∧ W.cell? ⟨p4, 1, none⟩ = some (.string (mg l)) ∧ W.cell? ⟨w.heap.size, 0, none⟩ = some (.bool g1) ∧ W.cell? ⟨w.heap.size, 1, none⟩ = some (.string s1) ∧ W.cell? ⟨w.heap.size, 2, none⟩ = some (.bool g2) ∧ W.cell? ⟨w.heap.size, 3, none⟩ = some (.string s2) ∧ W.cell? ⟨w.heap.size + 1, 0, none⟩ = some (.bool g3) ∧ W.cell? ⟨w.heap.size + 1, 1, none⟩ = some (.string s3) ∧ W.cell? ⟨w.heap.size + 1, 2, none⟩ = some (.bool g4) ∧ W.cell? ⟨w.heap.size + 1, 3, none⟩ = some (.string s4))
      (first | (with_reducible exact FL.out _ KB.1) | (with_reducible exact FL.out _ (Vars.alloc KB.1 _)) | exact FL.out _ KB.1)
      (first
        | (go_at_call 30; (with_reducible refine (rof02_eq (ai_mg Bl.out) (by omega) Eql.out).mono ?_); rintro e X ⟨rfl, bX⟩; (try unfold ratV); have KB := And.intro (KB.1.keep bX) (below_more KB.2 (Nat.le_refl _) bX))
        | (go_at_call 28; (with_reducible refine (rcmp02_any _ _ ql q c L _ (ar_ratV Bql.out) H2.out (by omega) Ec.out).mono ?_); rintro e X ⟨rfl, bX⟩; (try unfold ratV); have KB := And.intro (KB.1.keep bX) (below_more KB.2 (Nat.le_refl _) bX)))
    all_goals go_wp2_with fail
    all_goals go_meet
    all_goals exact ⟨by rw [Hd.out], KB.1, KB.2⟩
  case rest =>
    obtain ⟨rfl, K9, B9⟩ := hcut
    clear K B
    have K := K9
    have B := B9
    clear K9 B9
    obtain ⟨t1, t2, t3, t4, t5, t6, t7, t8, t9, t10⟩ : wc.cell? ⟨p4, 0, none⟩ = some (.bool (sg l)) ∧ wc.cell? ⟨p4, 1, none⟩ = some (.string (mg l)) ∧ wc.cell? ⟨w.heap.size, 0, none⟩ = some (.bool g1) ∧ wc.cell? ⟨w.heap.size, 1, none⟩ = some (.string s1) ∧ wc.cell? ⟨w.heap.size, 2, none⟩ = some (.bool g2) ∧ wc.cell? ⟨w.heap.size, 3, none⟩ = some (.string s2) ∧ wc.cell? ⟨w.heap.size + 1, 0, none⟩ = some (.bool g3) ∧ wc.cell? ⟨w.heap.size + 1, 1, none⟩ = some (.string s3) ∧ wc.cell? ⟨w.heap.size + 1, 2, none⟩ = some (.bool g4) ∧ wc.cell? ⟨w.heap.size + 1, 3, none⟩ = some (.string s4) := ⟨K.at 0 0 rfl, K.at 0 1 rfl, K.at 1 0 rfl, K.at 1 1 rfl, K.at 1 2 rfl, K.at 1 3 rfl, K.at 2 0 rfl, K.at 2 1 rfl, K.at 2 2 rfl, K.at 2 3 rfl⟩
    go_wp2_with fail
    refine (rof02_eq (ai_mg Bl.out) (by omega) Eql.out).mono ?_
    rintro e W5 ⟨rfl, b5⟩
    have K := K.keep b5
    have B := below_more B (Nat.le_refl _) b5
    clear b5
    clear t1 t2 t3 t4 t5 t6 t7 t8 t9 t10
    obtain ⟨⟨r1, r2, r3, r4⟩, r5, r6, r7, r8⟩ := P0.keep B
    have Bf := below_more Bw (Nat.le_refl _) B
    unfold ratV
    go_wp2_with fail
    exact bodyPost_ret (v := ratV ql) (by simp [results, Tryz.results31, go_sem, r1, r2, r3, r4, r5, r6, r7, r8, ratV]) rfl ⟨rfl, below4s Bf _ (by omega) _ _ _ _⟩
end Go.Proofs.YtcljkdninmldiaaGreatDoor
