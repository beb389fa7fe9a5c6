/- What the reference implementation's simplest of layer 2 returns where no integer lies between. Condition: at most 800000 bytes. The reference implementation's simplest of layer 2 returns the simplest number between two positive ones. Condition: at most 800000 bytes. What the reference implementation's Sign and Simplest of layer 2 return. Condition: at most 600000 bytes. -/
import Derived.Test.YtcljkdninmldiaaGreatDoorQ45

namespace Go.Proofs.YtcljkdninmldiaaGreatDoor
open Go.RowKit
set_option linter.unusedSimpArgs false
set_option linter.unusedVariables false
attribute [local go_sem ↓] eqlInt guardInt2 eqlRat guardRat2

set_option maxRecDepth 100000 in
set_option maxHeartbeats 12800000 in
theorem rsimp_step (v1 v2 : Value) (p q np ql qo : Rat) (f1 l c : Int) (L : Nat) (w : World) (h1 : AR v1 p L) (h2 : AR v2 q L) (hL1 : 1 ≤ L) (hL : L ≤ 800000)
    (enp : -p = np) (bnp : Rb8 np L) (ef1 : np.floor = f1) (el : -f1 = l) (bf1 : f1.natAbs < 256 ^ L) (bl : l.natAbs < 256 ^ L) (eql : (l : Rat) = ql) (bql : Rb8 ql L) (ec : cmpQ ql q = c) (hd : decide (c ≤ 0) = false) (f : Int) (qi qf qu qx qv qy qs qz : Rat) (ef : p.floor = f) (bf : f.natAbs < 256 ^ L) (eqf : (f : Rat) = qf) (bqf : Rb8 qf L) (ei : ((1 : Int) : Rat) = qi) (bqi : Rb8 qi L) (equ : q - qf = qu) (bqu : Rb8 qu L) (nqu : qu ≠ 0) (eqx : qi / qu = qx) (bqx : Rb8 qx L) (eqv : p - qf = qv) (bqv : Rb8 qv L) (nqv : qv ≠ 0) (eqy : qi / qv = qy) (bqy : Rb8 qy L) (nqs : qs ≠ 0) (bqs : Rb8 qs L) (eqz : qi / qs = qz) (bqz : Rb8 qz L) (eqo : qf + qz = qo)
    (hrec : ∀ w', Calls Tryz.prog 31 #[.agg #[.bool (sg qx.num), .string (mg qx.num), .bool (sg (qx.den : Int)), .string (mg (qx.den : Int))], .agg #[.bool (sg qy.num), .string (mg qy.num), .bool (sg (qy.den : Int)), .string (mg (qy.den : Int))]] w' (RatOut w' qs)) :
    Calls Tryz.prog 31 #[v1, v2] w (RatOut w qo) := by
  have H1 := Lib.hid h1
  have H2 := Lib.hid h2
  have Enp := Lib.hid enp
  have Bnp := Lib.hid bnp
  have Ef1 := Lib.hid ef1
  have El := Lib.hid el
  have Bf1 := Lib.hid bf1
  have Bl := Lib.hid bl
  have Eql := Lib.hid eql
  have Bql := Lib.hid bql
  have Ec := Lib.hid ec
  have Hd := Lib.hid hd
  have Ef := Lib.hid ef
  have Bf := Lib.hid bf
  have Eqf := Lib.hid eqf
  have Bqf := Lib.hid bqf
  have Ei := Lib.hid ei
  have Bqi := Lib.hid bqi
  have Equ := Lib.hid equ
  have Bqu := Lib.hid bqu
  have Nqu := Lib.hid nqu
  have Eqx := Lib.hid eqx
  have Bqx := Lib.hid bqx
  have Eqv := Lib.hid eqv
  have Bqv := Lib.hid bqv
  have Nqv := Lib.hid nqv
  have Eqy := Lib.hid eqy
  have Bqy := Lib.hid bqy
  have Nqs := Lib.hid nqs
  have Bqs := Lib.hid bqs
  have Eqz := Lib.hid eqz
  have Bqz := Lib.hid bqz
  have Eqo := Lib.hid eqo
  have Hrec := Lib.hid hrec
  have Io := Lib.hid (show AI (.agg #[.bool (sg 1), .string (mg 1)]) 1 L from ai_mg (by show 1 < _; exact Nat.one_lt_pow (by omega) (by omega)))
  clear hd ef bf eqf bqf ei bqi equ bqu nqu eqx bqx eqv bqv nqv eqy bqy nqs bqs eqz bqz eqo hrec
  clear enp bnp ef1 el bf1 bl eql bql ec
  obtain ⟨g1, s1, g2, s2, _, _, rfl, -, -, -⟩ := h1
  obtain ⟨g3, s3, g4, s4, _, _, rfl, -, -, -⟩ := h2
  obtain ⟨W0, hW0⟩ : ∃ W0, W0 = ((w.alloc (.cells #[.bool g1, .string s1, .bool g2, .string s2] 25)).alloc (.cells #[.bool g3, .string s3, .bool g4, .string s4] 25)).alloc (.cells #[.bool false, .string ⟨#[]⟩, .bool false, .string ⟨#[]⟩] 25) := ⟨_, rfl⟩
  have D0 : Dw w W0 w.heap.size g1 s1 g2 s2 g3 s3 g4 s4 := by rw [hW0]; exact Dw.start w _ _ _ _ _ _ _ _
  have HW := Lib.hid hW0
  clear hW0
  have K : Vars [(w.heap.size, [.bool g1, .string s1, .bool g2, .string s2]), (w.heap.size + 1, [.bool g3, .string s3, .bool g4, .string s4])] W0 := Vars.cons (four_cells D0.1.1.1 D0.1.1.2.1 D0.1.1.2.2.1 D0.1.1.2.2.2) (Vars.cons (four_cells D0.2.1.1.1 D0.2.1.1.2.1 D0.2.1.1.2.2.1 D0.2.1.1.2.2.2) (Vars.nil _))
  have P0 : ResRat W0 (w.heap.size + 1 + 1) := D0.2.2.1
  have Bw : Below w.heap.size w W0 := D0.2.2.2.2.1
  have B : Below W0.heap.size W0 W0 := Below.refl _ _
  clear D0
  go_enter Tryz.func31, Tryz.ntmps31
  go_upto_region 1 with fail
  rw [← HW.out]
  clear HW
  obtain ⟨t1, t2, t3, t4, t5, t6, t7, t8⟩ : W0.cell? ⟨w.heap.size, 0, none⟩ = some (.bool g1) ∧ W0.cell? ⟨w.heap.size, 1, none⟩ = some (.string s1) ∧ W0.cell? ⟨w.heap.size, 2, none⟩ = some (.bool g2) ∧ W0.cell? ⟨w.heap.size, 3, none⟩ = some (.string s2) ∧ W0.cell? ⟨w.heap.size + 1, 0, none⟩ = some (.bool g3) ∧ W0.cell? ⟨w.heap.size + 1, 1, none⟩ = some (.string s3) ∧ W0.cell? ⟨w.heap.size + 1, 2, none⟩ = some (.bool g4) ∧ W0.cell? ⟨w.heap.size + 1, 3, none⟩ = some (.string s4) := ⟨K.at 0 0 rfl, K.at 0 1 rfl, K.at 0 2 rfl, K.at 0 3 rfl, K.at 1 0 rfl, K.at 1 1 rfl, K.at 1 2 rfl, K.at 1 3 rfl⟩
  go_wp2_with fail
  refine (rneg02_any _ p np L _ H1.out (by omega) Enp.out).mono ?_
  rintro e W1 ⟨rfl, b1⟩
  have K := K.keep b1
  have B := below_more B (Nat.le_refl _) b1
  clear b1
  go_wp2_with fail
  refine (rfloor02_any _ np f1 L _ (ar_out Bnp.out) (by omega) Ef1.out).mono ?_
  rintro e W2 ⟨rfl, b2⟩
  have K := K.keep b2
  have B := below_more B (Nat.le_refl _) b2
  clear b2
  go_wp2_with fail
  refine (ai_neg (ai_mg Bf1.out) (by omega) El.out).mono ?_
  rintro e W3 ⟨rfl, b3⟩
  have K := K.keep b3
  have B := below_more B (Nat.le_refl _) b3
  clear b3
  clear t1 t2 t3 t4 t5 t6 t7 t8
  have hbl := below1 W3 (.cells #[.bool (sg l), .string (mg l)] 23)
  have K : Vars ((W3.heap.size, [.bool (sg l), .string (mg l)]) :: [(w.heap.size, [.bool g1, .string s1, .bool g2, .string s2]), (w.heap.size + 1, [.bool g3, .string s3, .bool g4, .string s4])]) (W3.alloc (.cells #[.bool (sg l), .string (mg l)] 23)) := Vars.new K _ _
  have B := below_more B (Nat.le_refl _) hbl
  clear hbl
  unfold ratV
  go_upto_region 2 with fail
  generalize W3.alloc (.cells #[.bool (sg l), .string (mg l)] 23) = V4 at *
  generalize W3.heap.size = p4 at *
  go_cut [21] (fun s21 wx => s21 = .bool false ∧ Vars [(p4, [.bool (sg l), .string (mg l)]), (w.heap.size, [.bool g1, .string s1, .bool g2, .string s2]), (w.heap.size + 1, [.bool g3, .string s3, .bool g4, .string s4])] wx ∧ Below W0.heap.size W0 wx)
  case first =>
    obtain ⟨t1, t2, t3, t4, t5, t6, t7, t8, t9, t10⟩ : V4.cell? ⟨p4, 0, none⟩ = some (.bool (sg l)) ∧ V4.cell? ⟨p4, 1, none⟩ = some (.string (mg l)) ∧ V4.cell? ⟨w.heap.size, 0, none⟩ = some (.bool g1) ∧ V4.cell? ⟨w.heap.size, 1, none⟩ = some (.string s1) ∧ V4.cell? ⟨w.heap.size, 2, none⟩ = some (.bool g2) ∧ V4.cell? ⟨w.heap.size, 3, none⟩ = some (.string s2) ∧ V4.cell? ⟨w.heap.size + 1, 0, none⟩ = some (.bool g3) ∧ V4.cell? ⟨w.heap.size + 1, 1, none⟩ = some (.string s3) ∧ V4.cell? ⟨w.heap.size + 1, 2, none⟩ = some (.bool g4) ∧ V4.cell? ⟨w.heap.size + 1, 3, none⟩ = some (.string s4) := ⟨K.at 0 0 rfl, K.at 0 1 rfl, K.at 1 0 rfl, K.at 1 1 rfl, K.at 1 2 rfl, K.at 1 3 rfl, K.at 2 0 rfl, K.at 2 1 rfl, K.at 2 2 rfl, K.at 2 3 rfl⟩
    have K0 : Vars [(p4, [.bool (sg l), .string (mg l)]), (w.heap.size, [.bool g1, .string s1, .bool g2, .string s2]), (w.heap.size + 1, [.bool g3, .string s3, .bool g4, .string s4])] V4.drew := K
    have B0 := B.drew
    have KB := And.intro K0 B0
    clear K0 B0
    have FL := Lib.hid (show ∀ W, Vars [(p4, [.bool (sg l), .string (mg l)]), (w.heap.size, [.bool g1, .string s1, .bool g2, .string s2]), (w.heap.size + 1, [.bool g3, .string s3, .bool g4, .string s4])] W → (W.cell? ⟨p4, 0, none⟩ = some (.bool (sg l)) ∧ W.cell? ⟨p4, 1, none⟩ = some (.string (mg l)) ∧ W.cell? ⟨w.heap.size, 0, none⟩ = some (.bool g1) ∧ W.cell? ⟨w.heap.size, 1, none⟩ = some (.string s1) ∧ W.cell? ⟨w.heap.size, 2, none⟩ = some (.bool g2) ∧ W.cell? ⟨w.heap.size, 3, none⟩ = some (.string s2) ∧ W.cell? ⟨w.heap.size + 1, 0, none⟩ = some (.bool g3) ∧ W.cell? ⟨w.heap.size + 1, 1, none⟩ = some (.string s3) ∧ W.cell? ⟨w.heap.size + 1, 2, none⟩ = some (.bool g4) ∧ W.cell? ⟨w.heap.size + 1, 3, none⟩ = some (.string s4)) from fun W h => ⟨h.at 0 0 rfl, h.at 0 1 rfl, h.at 1 0 rfl, h.at 1 1 rfl, h.at 1 2 rfl, h.at 1 3 rfl, h.at 2 0 rfl, h.at 2 1 rfl, h.at 2 2 rfl, h.at 2 3 rfl⟩)
    go_region_held3 (fun W => W.cell? ⟨p4, 0, none⟩ = some (.bool (sg l)) ∧ W.cell? ⟨p4, 1, none⟩ = some (.string (mg l)) ∧ W.cell? ⟨w.heap.size, 0, none⟩ = some (.bool g1) ∧ W.cell? ⟨w.heap.size, 1, none⟩ = some (.string s1) ∧ W.cell? ⟨w.heap.size, 2, none⟩ = some (.bool g2) ∧ W.cell? ⟨w.heap.size, 3, none⟩ = some (.string s2) ∧ W.cell? ⟨w.heap.size + 1, 0, none⟩ = some (.bool g3) ∧ W.cell? ⟨w.heap.size + 1, 1, none⟩ = some (.string s3) ∧ W.cell? ⟨w.heap.size + 1, 2, none⟩ = some (.bool g4) ∧ W.cell? ⟨w.heap.size + 1, 3, none⟩ = some (.string s4))
      (first | (with_reducible exact FL.out _ KB.1) | (with_reducible exact FL.out _ (Vars.alloc KB.1 _)) | exact FL.out _ KB.1)
      (first
        | (go_at_call 30; (with_reducible refine (rof02_eq (ai_mg Bl.out) (by omega) Eql.out).mono ?_); rintro e X ⟨rfl, bX⟩; (try unfold ratV); have KB := And.intro (KB.1.keep bX) (below_more KB.2 (Nat.le_refl _) bX))
        | (go_at_call 28; (with_reducible refine (rcmp02_any _ _ ql q c L _ (ar_ratV Bql.out) H2.out (by omega) Ec.out).mono ?_); rintro e X ⟨rfl, bX⟩; (try unfold ratV); have KB := And.intro (KB.1.keep bX) (below_more KB.2 (Nat.le_refl _) bX)))
    all_goals go_wp2_with fail
    all_goals go_meet
    all_goals exact ⟨by rw [Hd.out], KB.1, KB.2⟩
  case rest =>
    obtain ⟨rfl, K9, B9⟩ := hcut
    clear K B
    have K := K9
    have B := B9
    clear K9 B9
    obtain ⟨t1, t2, t3, t4, t5, t6, t7, t8, t9, t10⟩ : wc.cell? ⟨p4, 0, none⟩ = some (.bool (sg l)) ∧ wc.cell? ⟨p4, 1, none⟩ = some (.string (mg l)) ∧ wc.cell? ⟨w.heap.size, 0, none⟩ = some (.bool g1) ∧ wc.cell? ⟨w.heap.size, 1, none⟩ = some (.string s1) ∧ wc.cell? ⟨w.heap.size, 2, none⟩ = some (.bool g2) ∧ wc.cell? ⟨w.heap.size, 3, none⟩ = some (.string s2) ∧ wc.cell? ⟨w.heap.size + 1, 0, none⟩ = some (.bool g3) ∧ wc.cell? ⟨w.heap.size + 1, 1, none⟩ = some (.string s3) ∧ wc.cell? ⟨w.heap.size + 1, 2, none⟩ = some (.bool g4) ∧ wc.cell? ⟨w.heap.size + 1, 3, none⟩ = some (.string s4) := ⟨K.at 0 0 rfl, K.at 0 1 rfl, K.at 1 0 rfl, K.at 1 1 rfl, K.at 1 2 rfl, K.at 1 3 rfl, K.at 2 0 rfl, K.at 2 1 rfl, K.at 2 2 rfl, K.at 2 3 rfl⟩
    go_wp2_with fail
    refine (rfloor02_any _ p f L _ H1.out (by omega) Ef.out).mono ?_
    rintro e W5 ⟨rfl, b5⟩
    have K := K.keep b5
    have B := below_more B (Nat.le_refl _) b5
    clear b5
    go_wp2_with fail
    refine (rof02_eq (ai_mg Bf.out) (by omega) Eqf.out).mono ?_
    rintro e W6 ⟨rfl, b6⟩
    have K := K.keep b6
    have B := below_more B (Nat.le_refl _) b6
    clear b6
    clear t1 t2 t3 t4 t5 t6 t7 t8 t9 t10
    have hbl := below1 W6 (.cells #[.bool (sg qf.num), .string (mg qf.num), .bool (sg (qf.den : Int)), .string (mg (qf.den : Int))] 25)
    have K : Vars ((W6.heap.size, [.bool (sg qf.num), .string (mg qf.num), .bool (sg (qf.den : Int)), .string (mg (qf.den : Int))]) :: [(p4, [.bool (sg l), .string (mg l)]), (w.heap.size, [.bool g1, .string s1, .bool g2, .string s2]), (w.heap.size + 1, [.bool g3, .string s3, .bool g4, .string s4])]) (W6.alloc (.cells #[.bool (sg qf.num), .string (mg qf.num), .bool (sg (qf.den : Int)), .string (mg (qf.den : Int))] 25)) := Vars.new K _ _
    have B := below_more B (Nat.le_refl _) hbl
    clear hbl
    unfold ratV
    go_upto_region 5 with fail
    generalize W6.alloc (.cells #[.bool (sg qf.num), .string (mg qf.num), .bool (sg (qf.den : Int)), .string (mg (qf.den : Int))] 25) = V7 at *
    generalize W6.heap.size = p7 at *
    go_cut [7] (fun s9 wx => ∃ pb7 : Nat, s9 = .pointer (some ⟨pb7, 0, none⟩) ∧ Vars ((pb7, [.bool (sg qx.num), .string (mg qx.num), .bool (sg (qx.den : Int)), .string (mg (qx.den : Int))]) :: [(p7, [.bool (sg qf.num), .string (mg qf.num), .bool (sg (qf.den : Int)), .string (mg (qf.den : Int))]), (p4, [.bool (sg l), .string (mg l)]), (w.heap.size, [.bool g1, .string s1, .bool g2, .string s2]), (w.heap.size + 1, [.bool g3, .string s3, .bool g4, .string s4])]) wx ∧ Below W0.heap.size W0 wx)
    case first =>
      obtain ⟨t1, t2, t3, t4, t5, t6, t7, t8, t9, t10, t11, t12, t13, t14⟩ : V7.cell? ⟨p7, 0, none⟩ = some (.bool (sg qf.num)) ∧ V7.cell? ⟨p7, 1, none⟩ = some (.string (mg qf.num)) ∧ V7.cell? ⟨p7, 2, none⟩ = some (.bool (sg (qf.den : Int))) ∧ V7.cell? ⟨p7, 3, none⟩ = some (.string (mg (qf.den : Int))) ∧ V7.cell? ⟨p4, 0, none⟩ = some (.bool (sg l)) ∧ V7.cell? ⟨p4, 1, none⟩ = some (.string (mg l)) ∧ V7.cell? ⟨w.heap.size, 0, none⟩ = some (.bool g1) ∧ V7.cell? ⟨w.heap.size, 1, none⟩ = some (.string s1) ∧ V7.cell? ⟨w.heap.size, 2, none⟩ = some (.bool g2) ∧ V7.cell? ⟨w.heap.size, 3, none⟩ = some (.string s2) ∧ V7.cell? ⟨w.heap.size + 1, 0, none⟩ = some (.bool g3) ∧ V7.cell? ⟨w.heap.size + 1, 1, none⟩ = some (.string s3) ∧ V7.cell? ⟨w.heap.size + 1, 2, none⟩ = some (.bool g4) ∧ V7.cell? ⟨w.heap.size + 1, 3, none⟩ = some (.string s4) := ⟨K.at 0 0 rfl, K.at 0 1 rfl, K.at 0 2 rfl, K.at 0 3 rfl, K.at 1 0 rfl, K.at 1 1 rfl, K.at 2 0 rfl, K.at 2 1 rfl, K.at 2 2 rfl, K.at 2 3 rfl, K.at 3 0 rfl, K.at 3 1 rfl, K.at 3 2 rfl, K.at 3 3 rfl⟩
      have KB := And.intro K B
      have FL := Lib.hid (show ∀ W, Vars [(p7, [.bool (sg qf.num), .string (mg qf.num), .bool (sg (qf.den : Int)), .string (mg (qf.den : Int))]), (p4, [.bool (sg l), .string (mg l)]), (w.heap.size, [.bool g1, .string s1, .bool g2, .string s2]), (w.heap.size + 1, [.bool g3, .string s3, .bool g4, .string s4])] W → (W.cell? ⟨p7, 0, none⟩ = some (.bool (sg qf.num)) ∧ W.cell? ⟨p7, 1, none⟩ = some (.string (mg qf.num)) ∧ W.cell? ⟨p7, 2, none⟩ = some (.bool (sg (qf.den : Int))) ∧ W.cell? ⟨p7, 3, none⟩ = some (.string (mg (qf.den : Int))) ∧ W.cell? ⟨p4, 0, none⟩ = some (.bool (sg l)) ∧ W.cell? ⟨p4, 1, none⟩ = some (.string (mg l)) ∧ W.cell? ⟨w.heap.size, 0, none⟩ = some (.bool g1) ∧ W.cell? ⟨w.heap.size, 1, none⟩ = some (.string s1) ∧ W.cell? ⟨w.heap.size, 2, none⟩ = some (.bool g2) ∧ W.cell? ⟨w.heap.size, 3, none⟩ = some (.string s2) ∧ W.cell? ⟨w.heap.size + 1, 0, none⟩ = some (.bool g3) ∧ W.cell? ⟨w.heap.size + 1, 1, none⟩ = some (.string s3) ∧ W.cell? ⟨w.heap.size + 1, 2, none⟩ = some (.bool g4) ∧ W.cell? ⟨w.heap.size + 1, 3, none⟩ = some (.string s4)) from fun W h => ⟨h.at 0 0 rfl, h.at 0 1 rfl, h.at 0 2 rfl, h.at 0 3 rfl, h.at 1 0 rfl, h.at 1 1 rfl, h.at 2 0 rfl, h.at 2 1 rfl, h.at 2 2 rfl, h.at 2 3 rfl, h.at 3 0 rfl, h.at 3 1 rfl, h.at 3 2 rfl, h.at 3 3 rfl⟩)
      go_region_held3 (fun W => W.cell? ⟨p7, 0, none⟩ = some (.bool (sg qf.num)) ∧ W.cell? ⟨p7, 1, none⟩ = some (.string (mg qf.num)) ∧ W.cell? ⟨p7, 2, none⟩ = some (.bool (sg (qf.den : Int))) ∧ W.cell? ⟨p7, 3, none⟩ = some (.string (mg (qf.den : Int))) ∧ W.cell? ⟨p4, 0, none⟩ = some (.bool (sg l)) ∧ W.cell? ⟨p4, 1, none⟩ = some (.string (mg l)) ∧ W.cell? ⟨w.heap.size, 0, none⟩ = some (.bool g1) ∧ W.cell? ⟨w.heap.size, 1, none⟩ = some (.string s1) ∧ W.cell? ⟨w.heap.size, 2, none⟩ = some (.bool g2) ∧ W.cell? ⟨w.heap.size, 3, none⟩ = some (.string s2) ∧ W.cell? ⟨w.heap.size + 1, 0, none⟩ = some (.bool g3) ∧ W.cell? ⟨w.heap.size + 1, 1, none⟩ = some (.string s3) ∧ W.cell? ⟨w.heap.size + 1, 2, none⟩ = some (.bool g4) ∧ W.cell? ⟨w.heap.size + 1, 3, none⟩ = some (.string s4))
        (first | (with_reducible exact FL.out _ KB.1) | (with_reducible exact FL.out _ (Vars.drew KB.1)) | (with_reducible exact FL.out _ (Vars.alloc KB.1 _)) | (with_reducible exact FL.out _ (Vars.drew (Vars.alloc KB.1 _))) | (with_reducible exact FL.out _ (Vars.set4 KB.1 KR.2.1 _ _ _ _)) | go_keep)
        (first
          | (go_at_call 39; (with_reducible refine (rone_any _).mono ?_); rintro e X ⟨rfl, bX⟩; (try unfold ratV); (first | (with_reducible have KR := And.intro (ResRat.keep KR.1 bX) KR.2) | have KR := And.intro (ResRat.keep (ResRat.new _) bX) (And.intro (KB.1.far (Nat.le_refl _)) KB.2.size) | have KR := And.intro (ResRat.keep (ResRat.drew (ResRat.new _)) bX) (And.intro (KB.1.far (Nat.le_refl _)) KB.2.size) | skip); (try obtain ⟨⟨⟨r1, r2, r3, r4⟩, r5, r6, r7, r8⟩, _⟩ := id KR); (first | (with_reducible have KB := And.intro (KB.1.keep bX) (below_more KB.2 (Nat.le_refl _) bX)) | have KB := And.intro ((Vars.drew KB.1).keep bX) (below_more (Below.drew KB.2) (Nat.le_refl _) bX) | have KB := And.intro ((KB.1.alloc _).keep bX) (below_more (below_al KB.2 _) (Nat.le_refl _) bX) | have KB := And.intro ((Vars.drew (KB.1.alloc _)).keep bX) (below_more (Below.drew (below_al KB.2 _)) (Nat.le_refl _) bX)))
          | (go_at_call 30; (with_reducible refine (rof02_eq Io.out (by omega) Ei.out).mono ?_); rintro e X ⟨rfl, bX⟩; (try unfold ratV); (first | (with_reducible have KR := And.intro (ResRat.keep KR.1 bX) KR.2) | have KR := And.intro (ResRat.keep (ResRat.new _) bX) (And.intro (KB.1.far (Nat.le_refl _)) KB.2.size) | have KR := And.intro (ResRat.keep (ResRat.drew (ResRat.new _)) bX) (And.intro (KB.1.far (Nat.le_refl _)) KB.2.size) | skip); (try obtain ⟨⟨⟨r1, r2, r3, r4⟩, r5, r6, r7, r8⟩, _⟩ := id KR); (first | (with_reducible have KB := And.intro (KB.1.keep bX) (below_more KB.2 (Nat.le_refl _) bX)) | have KB := And.intro ((Vars.drew KB.1).keep bX) (below_more (Below.drew KB.2) (Nat.le_refl _) bX) | have KB := And.intro ((KB.1.alloc _).keep bX) (below_more (below_al KB.2 _) (Nat.le_refl _) bX) | have KB := And.intro ((Vars.drew (KB.1.alloc _)).keep bX) (below_more (Below.drew (below_al KB.2 _)) (Nat.le_refl _) bX)))
          | (go_at_call 58; (with_reducible refine (rsub02_any _ _ q qf qu L _ H2.out (ar_ratV Bqf.out) (by omega) Equ.out).mono ?_); rintro e X ⟨rfl, bX⟩; (try unfold ratV); (first | (with_reducible have KR := And.intro (ResRat.keep KR.1 bX) KR.2) | have KR := And.intro (ResRat.keep (ResRat.new _) bX) (And.intro (KB.1.far (Nat.le_refl _)) KB.2.size) | have KR := And.intro (ResRat.keep (ResRat.drew (ResRat.new _)) bX) (And.intro (KB.1.far (Nat.le_refl _)) KB.2.size) | skip); (try obtain ⟨⟨⟨r1, r2, r3, r4⟩, r5, r6, r7, r8⟩, _⟩ := id KR); (first | (with_reducible have KB := And.intro (KB.1.keep bX) (below_more KB.2 (Nat.le_refl _) bX)) | have KB := And.intro ((Vars.drew KB.1).keep bX) (below_more (Below.drew KB.2) (Nat.le_refl _) bX) | have KB := And.intro ((KB.1.alloc _).keep bX) (below_more (below_al KB.2 _) (Nat.le_refl _) bX) | have KB := And.intro ((Vars.drew (KB.1.alloc _)).keep bX) (below_more (Below.drew (below_al KB.2 _)) (Nat.le_refl _) bX)))
          | (go_at_call 61; (with_reducible refine (rquo02_some _ _ qi qu qx L _ (ar_ratV Bqi.out) (ar_ratV Bqu.out) (by omega) Eqx.out Nqu.out).mono ?_); rintro e X ⟨rfl, bX⟩; (try unfold ratV); (first | (with_reducible have KR := And.intro (ResRat.keep KR.1 bX) KR.2) | have KR := And.intro (ResRat.keep (ResRat.new _) bX) (And.intro (KB.1.far (Nat.le_refl _)) KB.2.size) | have KR := And.intro (ResRat.keep (ResRat.drew (ResRat.new _)) bX) (And.intro (KB.1.far (Nat.le_refl _)) KB.2.size) | skip); (try obtain ⟨⟨⟨r1, r2, r3, r4⟩, r5, r6, r7, r8⟩, _⟩ := id KR); (first | (with_reducible have KB := And.intro (KB.1.keep bX) (below_more KB.2 (Nat.le_refl _) bX)) | have KB := And.intro ((Vars.drew KB.1).keep bX) (below_more (Below.drew KB.2) (Nat.le_refl _) bX) | have KB := And.intro ((KB.1.alloc _).keep bX) (below_more (below_al KB.2 _) (Nat.le_refl _) bX) | have KB := And.intro ((Vars.drew (KB.1.alloc _)).keep bX) (below_more (Below.drew (below_al KB.2 _)) (Nat.le_refl _) bX))))
      all_goals go_wp2_with fail
      all_goals go_meet
      all_goals refine ⟨_, rfl, ?_, ?_⟩
      all_goals first | exact Vars.stored (Vars.cons (four_cells r1 r2 r3 r4) KB.1) KR.2.1 _ _ _ _ | exact Vars.new KB.1 _ _ | exact below4s KB.2 _ KR.2.2 _ _ _ _ | exact below_al KB.2 _
    case rest =>
      obtain ⟨pb7, rfl, K9, B9⟩ := hcut
      clear K B
      have K := K9
      have B := B9
      clear K9 B9
      go_upto_region 6 with fail
      go_cut [9] (fun s9 wx => ∃ pb9 : Nat, s9 = .pointer (some ⟨pb9, 0, none⟩) ∧ Vars ((pb9, [.bool (sg qy.num), .string (mg qy.num), .bool (sg (qy.den : Int)), .string (mg (qy.den : Int))]) :: [(pb7, [.bool (sg qx.num), .string (mg qx.num), .bool (sg (qx.den : Int)), .string (mg (qx.den : Int))]), (p7, [.bool (sg qf.num), .string (mg qf.num), .bool (sg (qf.den : Int)), .string (mg (qf.den : Int))]), (p4, [.bool (sg l), .string (mg l)]), (w.heap.size, [.bool g1, .string s1, .bool g2, .string s2]), (w.heap.size + 1, [.bool g3, .string s3, .bool g4, .string s4])]) wx ∧ Below W0.heap.size W0 wx)
      case first =>
        obtain ⟨t1, t2, t3, t4, t5, t6, t7, t8, t9, t10, t11, t12, t13, t14, t15, t16, t17, t18⟩ : wc.cell? ⟨pb7, 0, none⟩ = some (.bool (sg qx.num)) ∧ wc.cell? ⟨pb7, 1, none⟩ = some (.string (mg qx.num)) ∧ wc.cell? ⟨pb7, 2, none⟩ = some (.bool (sg (qx.den : Int))) ∧ wc.cell? ⟨pb7, 3, none⟩ = some (.string (mg (qx.den : Int))) ∧ wc.cell? ⟨p7, 0, none⟩ = some (.bool (sg qf.num)) ∧ wc.cell? ⟨p7, 1, none⟩ = some (.string (mg qf.num)) ∧ wc.cell? ⟨p7, 2, none⟩ = some (.bool (sg (qf.den : Int))) ∧ wc.cell? ⟨p7, 3, none⟩ = some (.string (mg (qf.den : Int))) ∧ wc.cell? ⟨p4, 0, none⟩ = some (.bool (sg l)) ∧ wc.cell? ⟨p4, 1, none⟩ = some (.string (mg l)) ∧ wc.cell? ⟨w.heap.size, 0, none⟩ = some (.bool g1) ∧ wc.cell? ⟨w.heap.size, 1, none⟩ = some (.string s1) ∧ wc.cell? ⟨w.heap.size, 2, none⟩ = some (.bool g2) ∧ wc.cell? ⟨w.heap.size, 3, none⟩ = some (.string s2) ∧ wc.cell? ⟨w.heap.size + 1, 0, none⟩ = some (.bool g3) ∧ wc.cell? ⟨w.heap.size + 1, 1, none⟩ = some (.string s3) ∧ wc.cell? ⟨w.heap.size + 1, 2, none⟩ = some (.bool g4) ∧ wc.cell? ⟨w.heap.size + 1, 3, none⟩ = some (.string s4) := ⟨K.at 0 0 rfl, K.at 0 1 rfl, K.at 0 2 rfl, K.at 0 3 rfl, K.at 1 0 rfl, K.at 1 1 rfl, K.at 1 2 rfl, K.at 1 3 rfl, K.at 2 0 rfl, K.at 2 1 rfl, K.at 3 0 rfl, K.at 3 1 rfl, K.at 3 2 rfl, K.at 3 3 rfl, K.at 4 0 rfl, K.at 4 1 rfl, K.at 4 2 rfl, K.at 4 3 rfl⟩
        have KB := And.intro K B
        have FL := Lib.hid (show ∀ W, Vars [(pb7, [.bool (sg qx.num), .string (mg qx.num), .bool (sg (qx.den : Int)), .string (mg (qx.den : Int))]), (p7, [.bool (sg qf.num), .string (mg qf.num), .bool (sg (qf.den : Int)), .string (mg (qf.den : Int))]), (p4, [.bool (sg l), .string (mg l)]), (w.heap.size, [.bool g1, .string s1, .bool g2, .string s2]), (w.heap.size + 1, [.bool g3, .string s3, .bool g4, .string s4])] W → (W.cell? ⟨pb7, 0, none⟩ = some (.bool (sg qx.num)) ∧ W.cell? ⟨pb7, 1, none⟩ = some (.string (mg qx.num)) ∧ W.cell? ⟨pb7, 2, none⟩ = some (.bool (sg (qx.den : Int))) ∧ W.cell? ⟨pb7, 3, none⟩ = some (.string (mg (qx.den : Int))) ∧ W.cell? ⟨p7, 0, none⟩ = some (.bool (sg qf.num)) ∧ W.cell? ⟨p7, 1, none⟩ = some (.string (mg qf.num)) ∧ W.cell? ⟨p7, 2, none⟩ = some (.bool (sg (qf.den : Int))) ∧ W.cell? ⟨p7, 3, none⟩ = some (.string (mg (qf.den : Int))) ∧ W.cell? ⟨p4, 0, none⟩ = some (.bool (sg l)) ∧ W.cell? ⟨p4, 1, none⟩ = some (.string (mg l)) ∧ W.cell? ⟨w.heap.size, 0, none⟩ = some (.bool g1) ∧ W.cell? ⟨w.heap.size, 1, none⟩ = some (.string s1) ∧ W.cell? ⟨w.heap.size, 2, none⟩ = some (.bool g2) ∧ W.cell? ⟨w.heap.size, 3, none⟩ = some (.string s2) ∧ W.cell? ⟨w.heap.size + 1, 0, none⟩ = some (.bool g3) ∧ W.cell? ⟨w.heap.size + 1, 1, none⟩ = some (.string s3) ∧ W.cell? ⟨w.heap.size + 1, 2, none⟩ = some (.bool g4) ∧ W.cell? ⟨w.heap.size + 1, 3, none⟩ = some (.string s4)) from fun W h => ⟨h.at 0 0 rfl, h.at 0 1 rfl, h.at 0 2 rfl, h.at 0 3 rfl, h.at 1 0 rfl, h.at 1 1 rfl, h.at 1 2 rfl, h.at 1 3 rfl, h.at 2 0 rfl, h.at 2 1 rfl, h.at 3 0 rfl, h.at 3 1 rfl, h.at 3 2 rfl, h.at 3 3 rfl, h.at 4 0 rfl, h.at 4 1 rfl, h.at 4 2 rfl, h.at 4 3 rfl⟩)
        go_region_held3 (fun W => W.cell? ⟨pb7, 0, none⟩ = some (.bool (sg qx.num)) ∧ W.cell? ⟨pb7, 1, none⟩ = some (.string (mg qx.num)) ∧ W.cell? ⟨pb7, 2, none⟩ = some (.bool (sg (qx.den : Int))) ∧ W.cell? ⟨pb7, 3, none⟩ = some (.string (mg (qx.den : Int))) ∧ W.cell? ⟨p7, 0, none⟩ = some (.bool (sg qf.num)) ∧ W.cell? ⟨p7, 1, none⟩ = some (.string (mg qf.num)) ∧ W.cell? ⟨p7, 2, none⟩ = some (.bool (sg (qf.den : Int))) ∧ W.cell? ⟨p7, 3, none⟩ = some (.string (mg (qf.den : Int))) ∧ W.cell? ⟨p4, 0, none⟩ = some (.bool (sg l)) ∧ W.cell? ⟨p4, 1, none⟩ = some (.string (mg l)) ∧ W.cell? ⟨w.heap.size, 0, none⟩ = some (.bool g1) ∧ W.cell? ⟨w.heap.size, 1, none⟩ = some (.string s1) ∧ W.cell? ⟨w.heap.size, 2, none⟩ = some (.bool g2) ∧ W.cell? ⟨w.heap.size, 3, none⟩ = some (.string s2) ∧ W.cell? ⟨w.heap.size + 1, 0, none⟩ = some (.bool g3) ∧ W.cell? ⟨w.heap.size + 1, 1, none⟩ = some (.string s3) ∧ W.cell? ⟨w.heap.size + 1, 2, none⟩ = some (.bool g4) ∧ W.cell? ⟨w.heap.size + 1, 3, none⟩ = some (.string s4))
          (first | (with_reducible exact FL.out _ KB.1) | (with_reducible exact FL.out _ (Vars.drew KB.1)) | (with_reducible exact FL.out _ (Vars.alloc KB.1 _)) | (with_reducible exact FL.out _ (Vars.drew (Vars.alloc KB.1 _))) | (with_reducible exact FL.out _ (Vars.set4 KB.1 KR.2.1 _ _ _ _)) | go_keep)
          (first
            | (go_at_call 39; (with_reducible refine (rone_any _).mono ?_); rintro e X ⟨rfl, bX⟩; (try unfold ratV); (first | (with_reducible have KR := And.intro (ResRat.keep KR.1 bX) KR.2) | have KR := And.intro (ResRat.keep (ResRat.new _) bX) (And.intro (KB.1.far (Nat.le_refl _)) KB.2.size) | have KR := And.intro (ResRat.keep (ResRat.drew (ResRat.new _)) bX) (And.intro (KB.1.far (Nat.le_refl _)) KB.2.size) | skip); (try obtain ⟨⟨⟨r1, r2, r3, r4⟩, r5, r6, r7, r8⟩, _⟩ := id KR); (first | (with_reducible have KB := And.intro (KB.1.keep bX) (below_more KB.2 (Nat.le_refl _) bX)) | have KB := And.intro ((Vars.drew KB.1).keep bX) (below_more (Below.drew KB.2) (Nat.le_refl _) bX) | have KB := And.intro ((KB.1.alloc _).keep bX) (below_more (below_al KB.2 _) (Nat.le_refl _) bX) | have KB := And.intro ((Vars.drew (KB.1.alloc _)).keep bX) (below_more (Below.drew (below_al KB.2 _)) (Nat.le_refl _) bX)))
            | (go_at_call 30; (with_reducible refine (rof02_eq Io.out (by omega) Ei.out).mono ?_); rintro e X ⟨rfl, bX⟩; (try unfold ratV); (first | (with_reducible have KR := And.intro (ResRat.keep KR.1 bX) KR.2) | have KR := And.intro (ResRat.keep (ResRat.new _) bX) (And.intro (KB.1.far (Nat.le_refl _)) KB.2.size) | have KR := And.intro (ResRat.keep (ResRat.drew (ResRat.new _)) bX) (And.intro (KB.1.far (Nat.le_refl _)) KB.2.size) | skip); (try obtain ⟨⟨⟨r1, r2, r3, r4⟩, r5, r6, r7, r8⟩, _⟩ := id KR); (first | (with_reducible have KB := And.intro (KB.1.keep bX) (below_more KB.2 (Nat.le_refl _) bX)) | have KB := And.intro ((Vars.drew KB.1).keep bX) (below_more (Below.drew KB.2) (Nat.le_refl _) bX) | have KB := And.intro ((KB.1.alloc _).keep bX) (below_more (below_al KB.2 _) (Nat.le_refl _) bX) | have KB := And.intro ((Vars.drew (KB.1.alloc _)).keep bX) (below_more (Below.drew (below_al KB.2 _)) (Nat.le_refl _) bX)))
            | (go_at_call 58; (with_reducible refine (rsub02_any _ _ p qf qv L _ H1.out (ar_ratV Bqf.out) (by omega) Eqv.out).mono ?_); rintro e X ⟨rfl, bX⟩; (try unfold ratV); (first | (with_reducible have KR := And.intro (ResRat.keep KR.1 bX) KR.2) | have KR := And.intro (ResRat.keep (ResRat.new _) bX) (And.intro (KB.1.far (Nat.le_refl _)) KB.2.size) | have KR := And.intro (ResRat.keep (ResRat.drew (ResRat.new _)) bX) (And.intro (KB.1.far (Nat.le_refl _)) KB.2.size) | skip); (try obtain ⟨⟨⟨r1, r2, r3, r4⟩, r5, r6, r7, r8⟩, _⟩ := id KR); (first | (with_reducible have KB := And.intro (KB.1.keep bX) (below_more KB.2 (Nat.le_refl _) bX)) | have KB := And.intro ((Vars.drew KB.1).keep bX) (below_more (Below.drew KB.2) (Nat.le_refl _) bX) | have KB := And.intro ((KB.1.alloc _).keep bX) (below_more (below_al KB.2 _) (Nat.le_refl _) bX) | have KB := And.intro ((Vars.drew (KB.1.alloc _)).keep bX) (below_more (Below.drew (below_al KB.2 _)) (Nat.le_refl _) bX)))
            | (go_at_call 61; (with_reducible refine (rquo02_some _ _ qi qv qy L _ (ar_ratV Bqi.out) (ar_ratV Bqv.out) (by omega) Eqy.out Nqv.out).mono ?_); rintro e X ⟨rfl, bX⟩; (try unfold ratV); (first | (with_reducible have KR := And.intro (ResRat.keep KR.1 bX) KR.2) | have KR := And.intro (ResRat.keep (ResRat.new _) bX) (And.intro (KB.1.far (Nat.le_refl _)) KB.2.size) | have KR := And.intro (ResRat.keep (ResRat.drew (ResRat.new _)) bX) (And.intro (KB.1.far (Nat.le_refl _)) KB.2.size) | skip); (try obtain ⟨⟨⟨r1, r2, r3, r4⟩, r5, r6, r7, r8⟩, _⟩ := id KR); (first | (with_reducible have KB := And.intro (KB.1.keep bX) (below_more KB.2 (Nat.le_refl _) bX)) | have KB := And.intro ((Vars.drew KB.1).keep bX) (below_more (Below.drew KB.2) (Nat.le_refl _) bX) | have KB := And.intro ((KB.1.alloc _).keep bX) (below_more (below_al KB.2 _) (Nat.le_refl _) bX) | have KB := And.intro ((Vars.drew (KB.1.alloc _)).keep bX) (below_more (Below.drew (below_al KB.2 _)) (Nat.le_refl _) bX))))
        all_goals go_wp2_with fail
        all_goals go_meet
        all_goals refine ⟨_, rfl, ?_, ?_⟩
        all_goals first | exact Vars.stored (Vars.cons (four_cells r1 r2 r3 r4) KB.1) KR.2.1 _ _ _ _ | exact Vars.new KB.1 _ _ | exact below4s KB.2 _ KR.2.2 _ _ _ _ | exact below_al KB.2 _
      case rest =>
        obtain ⟨pb9, rfl, K9, B9⟩ := hcut
        clear K B
        have K := K9
        have B := B9
        clear K9 B9
        go_upto_region 7 with fail
        go_cut [11] (fun s9 wx => ∃ pb11 : Nat, s9 = .pointer (some ⟨pb11, 0, none⟩) ∧ Vars ((pb11, [.bool (sg qz.num), .string (mg qz.num), .bool (sg (qz.den : Int)), .string (mg (qz.den : Int))]) :: [(pb9, [.bool (sg qy.num), .string (mg qy.num), .bool (sg (qy.den : Int)), .string (mg (qy.den : Int))]), (pb7, [.bool (sg qx.num), .string (mg qx.num), .bool (sg (qx.den : Int)), .string (mg (qx.den : Int))]), (p7, [.bool (sg qf.num), .string (mg qf.num), .bool (sg (qf.den : Int)), .string (mg (qf.den : Int))]), (p4, [.bool (sg l), .string (mg l)]), (w.heap.size, [.bool g1, .string s1, .bool g2, .string s2]), (w.heap.size + 1, [.bool g3, .string s3, .bool g4, .string s4])]) wx ∧ Below W0.heap.size W0 wx)
        case first =>
          obtain ⟨t1, t2, t3, t4, t5, t6, t7, t8, t9, t10, t11, t12, t13, t14, t15, t16, t17, t18, t19, t20, t21, t22⟩ : wc.cell? ⟨pb9, 0, none⟩ = some (.bool (sg qy.num)) ∧ wc.cell? ⟨pb9, 1, none⟩ = some (.string (mg qy.num)) ∧ wc.cell? ⟨pb9, 2, none⟩ = some (.bool (sg (qy.den : Int))) ∧ wc.cell? ⟨pb9, 3, none⟩ = some (.string (mg (qy.den : Int))) ∧ wc.cell? ⟨pb7, 0, none⟩ = some (.bool (sg qx.num)) ∧ wc.cell? ⟨pb7, 1, none⟩ = some (.string (mg qx.num)) ∧ wc.cell? ⟨pb7, 2, none⟩ = some (.bool (sg (qx.den : Int))) ∧ wc.cell? ⟨pb7, 3, none⟩ = some (.string (mg (qx.den : Int))) ∧ wc.cell? ⟨p7, 0, none⟩ = some (.bool (sg qf.num)) ∧ wc.cell? ⟨p7, 1, none⟩ = some (.string (mg qf.num)) ∧ wc.cell? ⟨p7, 2, none⟩ = some (.bool (sg (qf.den : Int))) ∧ wc.cell? ⟨p7, 3, none⟩ = some (.string (mg (qf.den : Int))) ∧ wc.cell? ⟨p4, 0, none⟩ = some (.bool (sg l)) ∧ wc.cell? ⟨p4, 1, none⟩ = some (.string (mg l)) ∧ wc.cell? ⟨w.heap.size, 0, none⟩ = some (.bool g1) ∧ wc.cell? ⟨w.heap.size, 1, none⟩ = some (.string s1) ∧ wc.cell? ⟨w.heap.size, 2, none⟩ = some (.bool g2) ∧ wc.cell? ⟨w.heap.size, 3, none⟩ = some (.string s2) ∧ wc.cell? ⟨w.heap.size + 1, 0, none⟩ = some (.bool g3) ∧ wc.cell? ⟨w.heap.size + 1, 1, none⟩ = some (.string s3) ∧ wc.cell? ⟨w.heap.size + 1, 2, none⟩ = some (.bool g4) ∧ wc.cell? ⟨w.heap.size + 1, 3, none⟩ = some (.string s4) := ⟨K.at 0 0 rfl, K.at 0 1 rfl, K.at 0 2 rfl, K.at 0 3 rfl, K.at 1 0 rfl, K.at 1 1 rfl, K.at 1 2 rfl, K.at 1 3 rfl, K.at 2 0 rfl, K.at 2 1 rfl, K.at 2 2 rfl, K.at 2 3 rfl, K.at 3 0 rfl, K.at 3 1 rfl, K.at 4 0 rfl, K.at 4 1 rfl, K.at 4 2 rfl, K.at 4 3 rfl, K.at 5 0 rfl, K.at 5 1 rfl, K.at 5 2 rfl, K.at 5 3 rfl⟩
          have KB := And.intro K B
          have FL := Lib.hid (show ∀ W, Vars [(pb9, [.bool (sg qy.num), .string (mg qy.num), .bool (sg (qy.den : Int)), .string (mg (qy.den : Int))]), (pb7, [.bool (sg qx.num), .string (mg qx.num), .bool (sg (qx.den : Int)), .string (mg (qx.den : Int))]), (p7, [.bool (sg qf.num), .string (mg qf.num), .bool (sg (qf.den : Int)), .string (mg (qf.den : Int))]), (p4, [.bool (sg l), .string (mg l)]), (w.heap.size, [.bool g1, .string s1, .bool g2, .string s2]), (w.heap.size + 1, [.bool g3, .string s3, .bool g4, .string s4])] W → (W.cell? ⟨pb9, 0, none⟩ = some (.bool (sg qy.num)) ∧ W.cell? ⟨pb9, 1, none⟩ = some (.string (mg qy.num)) ∧ W.cell? ⟨pb9, 2, none⟩ = some (.bool (sg (qy.den : Int))) ∧ W.cell? ⟨pb9, 3, none⟩ = some (.string (mg (qy.den : Int))) ∧ W.cell? ⟨pb7, 0, none⟩ = some (.bool (sg qx.num)) ∧ W.cell? ⟨pb7, 1, none⟩ = some (.string (mg qx.num)) ∧ W.cell? ⟨pb7, 2, none⟩ = some (.bool (sg (qx.den : Int))) ∧ W.cell? ⟨pb7, 3, none⟩ = some (.string (mg (qx.den : Int))) ∧ W.cell? ⟨p7, 0, none⟩ = some (.bool (sg qf.num)) ∧ W.cell? ⟨p7, 1, none⟩ = some (.string (mg qf.num)) ∧ W.cell? ⟨p7, 2, none⟩ = some (.bool (sg (qf.den : Int))) ∧ W.cell? ⟨p7, 3, none⟩ = some (.string (mg (qf.den : Int))) ∧ W.cell? ⟨p4, 0, none⟩ = some (.bool (sg l)) ∧ W.cell? ⟨p4, 1, none⟩ = some (.string (mg l)) ∧ W.cell? ⟨w.heap.size, 0, none⟩ = some (.bool g1) ∧ W.cell? ⟨w.heap.size, 1, none⟩ = some (.string s1) ∧ W.cell? ⟨w.heap.size, 2, none⟩ = some (.bool g2) ∧ W.cell? ⟨w.heap.size, 3, none⟩ = some (.string s2) ∧ W.cell? ⟨w.heap.size + 1, 0, none⟩ = some (.bool g3) ∧ W.cell? ⟨w.heap.size + 1, 1, none⟩ = some (.string s3) ∧ W.cell? ⟨w.heap.size + 1, 2, none⟩ = some (.bool g4) ∧ W.cell? ⟨w.heap.size + 1, 3, none⟩ = some (.string s4)) from fun W h => ⟨h.at 0 0 rfl, h.at 0 1 rfl, h.at 0 2 rfl, h.at 0 3 rfl, h.at 1 0 rfl, h.at 1 1 rfl, h.at 1 2 rfl, h.at 1 3 rfl, h.at 2 0 rfl, h.at 2 1 rfl, h.at 2 2 rfl, h.at 2 3 rfl, h.at 3 0 rfl, h.at 3 1 rfl, h.at 4 0 rfl, h.at 4 1 rfl, h.at 4 2 rfl, h.at 4 3 rfl, h.at 5 0 rfl, h.at 5 1 rfl, h.at 5 2 rfl, h.at 5 3 rfl⟩)
          go_region_held3 (fun W => W.cell? ⟨pb9, 0, none⟩ = some (.bool (sg qy.num)) ∧ W.cell? ⟨pb9, 1, none⟩ = some (.string (mg qy.num)) ∧ W.cell? ⟨pb9, 2, none⟩ = some (.bool (sg (qy.den : Int))) ∧ W.cell? ⟨pb9, 3, none⟩ = some (.string (mg (qy.den : Int))) ∧ W.cell? ⟨pb7, 0, none⟩ = some (.bool (sg qx.num)) ∧ W.cell? ⟨pb7, 1, none⟩ = some (.string (mg qx.num)) ∧ W.cell? ⟨pb7, 2, none⟩ = some (.bool (sg (qx.den : Int))) ∧ W.cell? ⟨pb7, 3, none⟩ = some (.string (mg (qx.den : Int))) ∧ W.cell? ⟨p7, 0, none⟩ = some (.bool (sg qf.num)) ∧ W.cell? ⟨p7, 1, none⟩ = some (.string (mg qf.num)) ∧ W.cell? ⟨p7, 2, none⟩ = some (.bool (sg (qf.den : Int))) ∧ W.cell? ⟨p7, 3, none⟩ = some (.string (mg (qf.den : Int))) ∧ W.cell? ⟨p4, 0, none⟩ = some (.bool (sg l)) ∧ W.cell? ⟨p4, 1, none⟩ = some (.string (mg l)) ∧ W.cell? ⟨w.heap.size, 0, none⟩ = some (.bool g1) ∧ W.cell? ⟨w.heap.size, 1, none⟩ = some (.string s1) ∧ W.cell? ⟨w.heap.size, 2, none⟩ = some (.bool g2) ∧ W.cell? ⟨w.heap.size, 3, none⟩ = some (.string s2) ∧ W.cell? ⟨w.heap.size + 1, 0, none⟩ = some (.bool g3) ∧ W.cell? ⟨w.heap.size + 1, 1, none⟩ = some (.string s3) ∧ W.cell? ⟨w.heap.size + 1, 2, none⟩ = some (.bool g4) ∧ W.cell? ⟨w.heap.size + 1, 3, none⟩ = some (.string s4))
            (first | (with_reducible exact FL.out _ KB.1) | (with_reducible exact FL.out _ (Vars.drew KB.1)) | (with_reducible exact FL.out _ (Vars.alloc KB.1 _)) | (with_reducible exact FL.out _ (Vars.drew (Vars.alloc KB.1 _))) | (with_reducible exact FL.out _ (Vars.set4 KB.1 KR.2.1 _ _ _ _)) | go_keep)
            (first
              | (go_at_call 39; (with_reducible refine (rone_any _).mono ?_); rintro e X ⟨rfl, bX⟩; (try unfold ratV); (first | (with_reducible have KR := And.intro (ResRat.keep KR.1 bX) KR.2) | have KR := And.intro (ResRat.keep (ResRat.new _) bX) (And.intro (KB.1.far (Nat.le_refl _)) KB.2.size) | have KR := And.intro (ResRat.keep (ResRat.drew (ResRat.new _)) bX) (And.intro (KB.1.far (Nat.le_refl _)) KB.2.size) | skip); (try obtain ⟨⟨⟨r1, r2, r3, r4⟩, r5, r6, r7, r8⟩, _⟩ := id KR); (first | (with_reducible have KB := And.intro (KB.1.keep bX) (below_more KB.2 (Nat.le_refl _) bX)) | have KB := And.intro ((Vars.drew KB.1).keep bX) (below_more (Below.drew KB.2) (Nat.le_refl _) bX) | have KB := And.intro ((KB.1.alloc _).keep bX) (below_more (below_al KB.2 _) (Nat.le_refl _) bX) | have KB := And.intro ((Vars.drew (KB.1.alloc _)).keep bX) (below_more (Below.drew (below_al KB.2 _)) (Nat.le_refl _) bX)))
              | (go_at_call 30; (with_reducible refine (rof02_eq Io.out (by omega) Ei.out).mono ?_); rintro e X ⟨rfl, bX⟩; (try unfold ratV); (first | (with_reducible have KR := And.intro (ResRat.keep KR.1 bX) KR.2) | have KR := And.intro (ResRat.keep (ResRat.new _) bX) (And.intro (KB.1.far (Nat.le_refl _)) KB.2.size) | have KR := And.intro (ResRat.keep (ResRat.drew (ResRat.new _)) bX) (And.intro (KB.1.far (Nat.le_refl _)) KB.2.size) | skip); (try obtain ⟨⟨⟨r1, r2, r3, r4⟩, r5, r6, r7, r8⟩, _⟩ := id KR); (first | (with_reducible have KB := And.intro (KB.1.keep bX) (below_more KB.2 (Nat.le_refl _) bX)) | have KB := And.intro ((Vars.drew KB.1).keep bX) (below_more (Below.drew KB.2) (Nat.le_refl _) bX) | have KB := And.intro ((KB.1.alloc _).keep bX) (below_more (below_al KB.2 _) (Nat.le_refl _) bX) | have KB := And.intro ((Vars.drew (KB.1.alloc _)).keep bX) (below_more (Below.drew (below_al KB.2 _)) (Nat.le_refl _) bX)))
              | (go_at_call 31; (with_reducible refine (Hrec.out _).mono ?_); rintro e X ⟨rfl, bX⟩; (try unfold ratV); (first | (with_reducible have KR := And.intro (ResRat.keep KR.1 bX) KR.2) | have KR := And.intro (ResRat.keep (ResRat.new _) bX) (And.intro (KB.1.far (Nat.le_refl _)) KB.2.size) | have KR := And.intro (ResRat.keep (ResRat.drew (ResRat.new _)) bX) (And.intro (KB.1.far (Nat.le_refl _)) KB.2.size) | skip); (try obtain ⟨⟨⟨r1, r2, r3, r4⟩, r5, r6, r7, r8⟩, _⟩ := id KR); (first | (with_reducible have KB := And.intro (KB.1.keep bX) (below_more KB.2 (Nat.le_refl _) bX)) | have KB := And.intro ((Vars.drew KB.1).keep bX) (below_more (Below.drew KB.2) (Nat.le_refl _) bX) | have KB := And.intro ((KB.1.alloc _).keep bX) (below_more (below_al KB.2 _) (Nat.le_refl _) bX) | have KB := And.intro ((Vars.drew (KB.1.alloc _)).keep bX) (below_more (Below.drew (below_al KB.2 _)) (Nat.le_refl _) bX)))
              | (go_at_call 61; (with_reducible refine (rquo02_some _ _ qi qs qz L _ (ar_ratV Bqi.out) (ar_ratV Bqs.out) (by omega) Eqz.out Nqs.out).mono ?_); rintro e X ⟨rfl, bX⟩; (try unfold ratV); (first | (with_reducible have KR := And.intro (ResRat.keep KR.1 bX) KR.2) | have KR := And.intro (ResRat.keep (ResRat.new _) bX) (And.intro (KB.1.far (Nat.le_refl _)) KB.2.size) | have KR := And.intro (ResRat.keep (ResRat.drew (ResRat.new _)) bX) (And.intro (KB.1.far (Nat.le_refl _)) KB.2.size) | skip); (try obtain ⟨⟨⟨r1, r2, r3, r4⟩, r5, r6, r7, r8⟩, _⟩ := id KR); (first | (with_reducible have KB := And.intro (KB.1.keep bX) (below_more KB.2 (Nat.le_refl _) bX)) | have KB := And.intro ((Vars.drew KB.1).keep bX) (below_more (Below.drew KB.2) (Nat.le_refl _) bX) | have KB := And.intro ((KB.1.alloc _).keep bX) (below_more (below_al KB.2 _) (Nat.le_refl _) bX) | have KB := And.intro ((Vars.drew (KB.1.alloc _)).keep bX) (below_more (Below.drew (below_al KB.2 _)) (Nat.le_refl _) bX))))
          all_goals go_wp2_with fail
          all_goals go_meet
          all_goals refine ⟨_, rfl, ?_, ?_⟩
          all_goals first | exact Vars.stored (Vars.cons (four_cells r1 r2 r3 r4) KB.1) KR.2.1 _ _ _ _ | exact Vars.new KB.1 _ _ | exact below4s KB.2 _ KR.2.2 _ _ _ _ | exact below_al KB.2 _
        case rest =>
          obtain ⟨pb11, rfl, K9, B9⟩ := hcut
          clear K B
          have K := K9
          have B := B9
          clear K9 B9
          go_upto_region 8 with fail
          obtain ⟨t1, t2, t3, t4, t5, t6, t7, t8, t9, t10, t11, t12, t13, t14, t15, t16, t17, t18, t19, t20, t21, t22, t23, t24, t25, t26⟩ : wc.cell? ⟨pb11, 0, none⟩ = some (.bool (sg qz.num)) ∧ wc.cell? ⟨pb11, 1, none⟩ = some (.string (mg qz.num)) ∧ wc.cell? ⟨pb11, 2, none⟩ = some (.bool (sg (qz.den : Int))) ∧ wc.cell? ⟨pb11, 3, none⟩ = some (.string (mg (qz.den : Int))) ∧ wc.cell? ⟨pb9, 0, none⟩ = some (.bool (sg qy.num)) ∧ wc.cell? ⟨pb9, 1, none⟩ = some (.string (mg qy.num)) ∧ wc.cell? ⟨pb9, 2, none⟩ = some (.bool (sg (qy.den : Int))) ∧ wc.cell? ⟨pb9, 3, none⟩ = some (.string (mg (qy.den : Int))) ∧ wc.cell? ⟨pb7, 0, none⟩ = some (.bool (sg qx.num)) ∧ wc.cell? ⟨pb7, 1, none⟩ = some (.string (mg qx.num)) ∧ wc.cell? ⟨pb7, 2, none⟩ = some (.bool (sg (qx.den : Int))) ∧ wc.cell? ⟨pb7, 3, none⟩ = some (.string (mg (qx.den : Int))) ∧ wc.cell? ⟨p7, 0, none⟩ = some (.bool (sg qf.num)) ∧ wc.cell? ⟨p7, 1, none⟩ = some (.string (mg qf.num)) ∧ wc.cell? ⟨p7, 2, none⟩ = some (.bool (sg (qf.den : Int))) ∧ wc.cell? ⟨p7, 3, none⟩ = some (.string (mg (qf.den : Int))) ∧ wc.cell? ⟨p4, 0, none⟩ = some (.bool (sg l)) ∧ wc.cell? ⟨p4, 1, none⟩ = some (.string (mg l)) ∧ wc.cell? ⟨w.heap.size, 0, none⟩ = some (.bool g1) ∧ wc.cell? ⟨w.heap.size, 1, none⟩ = some (.string s1) ∧ wc.cell? ⟨w.heap.size, 2, none⟩ = some (.bool g2) ∧ wc.cell? ⟨w.heap.size, 3, none⟩ = some (.string s2) ∧ wc.cell? ⟨w.heap.size + 1, 0, none⟩ = some (.bool g3) ∧ wc.cell? ⟨w.heap.size + 1, 1, none⟩ = some (.string s3) ∧ wc.cell? ⟨w.heap.size + 1, 2, none⟩ = some (.bool g4) ∧ wc.cell? ⟨w.heap.size + 1, 3, none⟩ = some (.string s4) := ⟨K.at 0 0 rfl, K.at 0 1 rfl, K.at 0 2 rfl, K.at 0 3 rfl, K.at 1 0 rfl, K.at 1 1 rfl, K.at 1 2 rfl, K.at 1 3 rfl, K.at 2 0 rfl, K.at 2 1 rfl, K.at 2 2 rfl, K.at 2 3 rfl, K.at 3 0 rfl, K.at 3 1 rfl, K.at 3 2 rfl, K.at 3 3 rfl, K.at 4 0 rfl, K.at 4 1 rfl, K.at 5 0 rfl, K.at 5 1 rfl, K.at 5 2 rfl, K.at 5 3 rfl, K.at 6 0 rfl, K.at 6 1 rfl, K.at 6 2 rfl, K.at 6 3 rfl⟩
          go_wp2_with fail
          refine (radd02_any _ _ qf qz qo L _ (ar_ratV Bqf.out) (ar_ratV Bqz.out) (by omega) Eqo.out).mono ?_
          rintro e W8 ⟨rfl, b8⟩
          have K := K.keep b8
          have B := below_more B (Nat.le_refl _) b8
          clear b8
          clear t1 t2 t3 t4 t5 t6 t7 t8 t9 t10 t11 t12 t13 t14 t15 t16 t17 t18 t19 t20 t21 t22 t23 t24 t25 t26
          obtain ⟨⟨r1, r2, r3, r4⟩, r5, r6, r7, r8⟩ := P0.keep B
          have Bf := below_more Bw (Nat.le_refl _) B
          unfold ratV
          go_wp2_with fail
          exact bodyPost_ret (v := ratV qo) (by simp [results, Tryz.results31, go_sem, r1, r2, r3, r4, r5, r6, r7, r8, ratV]) rfl ⟨rfl, below4s Bf _ (by omega) _ _ _ _⟩
end Go.Proofs.YtcljkdninmldiaaGreatDoor

namespace Go.Proofs.YtcljkdninmldiaaGreatDoor
open Go.RowKit
set_option linter.unusedSimpArgs false
set_option linter.unusedVariables false

theorem rb8_neg {q : Rat} {L : Nat} (h : Rb8 q L) : Rb8 (-q) L := ⟨by show (-q.num).natAbs < _; rw [Int.natAbs_neg]; exact h.1, h.2⟩
theorem cmp_not_pos {p q : Rat} (h : p ≤ q) : decide (cmpQ p q ≤ 0) = true := by
  rw [decide_eq_true_iff]
  have h1 : ¬ 0 < cmpQ p q := fun h2 => absurd (cmpQ_gt.1 h2) (Rat.not_lt.2 h)
  omega
theorem cmp_pos {p q : Rat} (h : q < p) : decide (cmpQ p q ≤ 0) = false := by
  rw [decide_eq_false_iff_not]
  have h1 := cmpQ_gt.2 h
  omega
/-- The least integer that is at least a / b. -/
theorem ceil_facts {a b l : Int} (ha : 0 < a) (hb : 0 < b) (hl : -(-(Rat.divInt a b)).floor = l) : 0 < l ∧ l ≤ a ∧ (a % b = 0 → l = a / b) ∧ (a % b ≠ 0 → l = a / b + 1) := by
  rw [ceil_divInt hb] at hl
  have ea := Int.mul_ediv_add_emod a b
  have r1 := Int.emod_nonneg a (b := b) (by omega)
  have r2 := Int.emod_lt_of_pos a hb
  have t0 : 0 ≤ a / b := Int.ediv_nonneg (by omega) (by omega)
  generalize a / b = t at *
  generalize a % b = r at *
  have t1 : 1 * t ≤ b * t := Int.mul_le_mul_of_nonneg_right (by omega) t0
  split at hl
  · rename_i h
    subst hl
    refine ⟨?_, by omega, fun _ => rfl, fun h2 => absurd h h2⟩
    rcases Int.lt_or_le 0 t with h1 | h1
    · exact h1
    · have h2 : t = 0 := by omega
      rw [h2, Int.mul_zero] at ea
      omega
  · rename_i h
    exact ⟨by omega, by omega, fun h2 => absurd h2 h, fun _ => hl.symm⟩
set_option maxHeartbeats 3200000 in
theorem rsimp_sp {a b c d x y : Int} (h : Sp a b c d x y) : ∀ (L : Nat), 0 < a → 0 < b → 0 < c → 0 < d → a * d ≤ c * b → a.natAbs < 256 ^ L → b.natAbs < 256 ^ L → c.natAbs < 256 ^ L → d.natAbs < 256 ^ L → 1 ≤ L → L ≤ 800000 →
    ∀ (v1 v2 : Value) (w : World), AR v1 (Rat.divInt a b) L → AR v2 (Rat.divInt c d) L → Calls Tryz.prog 31 #[v1, v2] w (RatOut w (Rat.divInt x y)) := by
  induction h with
  | @whole a b c d h =>
    intro L ha hb hc hd hle ba bb bc bd hL1 hL v1 v2 w h1 h2
    obtain ⟨l, hl⟩ : ∃ l, -(-(Rat.divInt a b)).floor = l := ⟨_, rfl⟩
    obtain ⟨l0, l1, l2, -⟩ := ceil_facts ha hb hl
    have hq := l2 h
    refine rsimp_base v1 v2 _ _ _ _ _ _ l _ L w h1 h2 hL1 hL rfl (rb8_neg (rb8_low hb ba bb)) rfl hl (by omega) (by omega) rfl (rb8_int hL1 (by omega)) rfl (cmp_not_pos ?_) ?_
    · rw [← divInt_one, divInt_le_iff (by omega) hd]
      have ea := Int.mul_ediv_add_emod a b
      rw [h, ← hq] at ea
      have e : b * (l * d) ≤ b * (c * 1) := by rw [← ea] at hle; grind
      exact Int.le_of_mul_le_mul_left e hb
    · rw [← hq, divInt_one]
  | @above a b c d h hne =>
    intro L ha hb hc hd hle ba bb bc bd hL1 hL v1 v2 w h1 h2
    obtain ⟨l, hl⟩ : ∃ l, -(-(Rat.divInt a b)).floor = l := ⟨_, rfl⟩
    obtain ⟨l0, l1, -, l2⟩ := ceil_facts ha hb hl
    have hq := l2 h
    refine rsimp_base v1 v2 _ _ _ _ _ _ l _ L w h1 h2 hL1 hL rfl (rb8_neg (rb8_low hb ba bb)) rfl hl (by omega) (by omega) rfl (rb8_int hL1 (by omega)) rfl (cmp_not_pos ?_) ?_
    · rw [← divInt_one, divInt_le_iff (by omega) hd]
      have k := quot_le hb hd hle
      have ec := Int.mul_ediv_add_emod c d
      have s1 := Int.emod_nonneg c (b := d) (by omega)
      have e : l * d ≤ c / d * d := Int.mul_le_mul_of_nonneg_right (by omega) (by omega)
      rw [Int.mul_comm (c / d)] at e
      omega
    · rw [← hq, divInt_one]
  | @more a b c d x y h h2 k ih =>
    intro L ha hb hc hd hle ba bb bc bd hL1 hL v1 v2 w k1 k2
    have ea := Int.mul_ediv_add_emod a b
    have ec := Int.mul_ediv_add_emod c d
    have r1 := Int.emod_nonneg a (b := b) (by omega)
    have r2 := Int.emod_lt_of_pos a hb
    have s1 := Int.emod_nonneg c (b := d) (by omega)
    have s2 := Int.emod_lt_of_pos c hd
    have hk : a % b * d ≤ c % d * b := by
      rw [← h2] at ec
      have e : (d * (a / b) + c % d) * b - (b * (a / b) + a % b) * d = c % d * b - a % b * d := by grind
      rw [ea, ec] at e
      omega
    have hs : 0 < c % d := by
      rcases Int.lt_or_le 0 (c % d) with h9 | h9
      · exact h9
      · exfalso
        have h10 : c % d = 0 := by omega
        rw [h10, Int.zero_mul] at hk
        have h11 : 0 < a % b * d := Int.mul_pos (by omega) hd
        omega
    have hr : 0 < a % b := by omega
    have hk' : d * (a % b) ≤ b * (c % d) := by rw [Int.mul_comm d, Int.mul_comm b]; exact hk
    have t0 : 0 ≤ a / b := Int.ediv_nonneg (by omega) (by omega)
    have t1 : a / b ≤ a := Int.ediv_le_self _ (by omega)
    obtain ⟨l, hl⟩ : ∃ l, -(-(Rat.divInt a b)).floor = l := ⟨_, rfl⟩
    obtain ⟨l0, l1, -, l2⟩ := ceil_facts ha hb hl
    have hq := l2 h
    obtain ⟨x0, y0, -, -, -, mn⟩ := k.good hd hs hb hr hk'
    obtain ⟨m1, m2⟩ := mn d (c % d) hs (Int.le_refl _) hk'
    have bs : (c % d).natAbs < 256 ^ L := by omega
    have br : (a % b).natAbs < 256 ^ L := by omega
    have Bx : Rb8 (Rat.divInt d (c % d)) L := rb8_low hs bd bs
    have By : Rb8 (Rat.divInt b (a % b)) L := rb8_low hr bb br
    refine rsimp_step v1 v2 _ _ _ _ _ _ l _ L w k1 k2 hL1 hL rfl (rb8_neg (rb8_low hb ba bb)) rfl hl (by omega) (by omega) rfl (rb8_int hL1 (by omega)) rfl (cmp_pos ?_)
      (a / b) 1 ((a / b : Int) : Rat) (Rat.divInt (c % d) d) (Rat.divInt d (c % d)) (Rat.divInt (a % b) b) (Rat.divInt b (a % b)) (Rat.divInt x y) (Rat.divInt y x)
      (floor_divInt hb) (by omega) rfl (rb8_int hL1 (by omega)) rfl ?_ (frac_divInt hd h2.symm) (rb8_low hd bs bd) ?_ inv_divInt Bx (frac_divInt hb rfl) (rb8_low hb br bb) ?_ inv_divInt By ?_ (rb8_low y0 (by omega) (by omega)) inv_divInt (rb8_low x0 (by omega) (by omega)) (add_divInt x0) ?_
    · rw [← divInt_one, divInt_lt_iff hd (by omega), hq, h2]
      have e : (c / d + 1) * d = d * (c / d) + d := by grind
      omega
    · exact rb8_int (n := 1) hL1 (by show 1 < _; exact Nat.one_lt_pow (by omega) (by omega))
    · intro e
      have := (divInt_pos_iff hd).2 hs
      rw [e] at this
      exact absurd this (by decide)
    · intro e
      have := (divInt_pos_iff hb).2 hr
      rw [e] at this
      exact absurd this (by decide)
    · intro e
      have := (divInt_pos_iff y0).2 x0
      rw [e] at this
      exact absurd this (by decide)
    · intro w'
      exact ih L hd hs hb hr hk' bd bs bb br hL1 hL _ _ w' (ar_ratV Bx) (ar_ratV By)
theorem spOf_canon {p q : Rat} {x y : Int} (h : SpOf p q x y) (hp : 0 < p) (hle : p ≤ q) : Sp p.num p.den q.num q.den x y ∧ 0 < p.num ∧ 0 < q.num ∧ p.num * (q.den : Int) ≤ q.num * (p.den : Int) := by
  have d1 := p.den_pos
  have d2 := q.den_pos
  obtain ⟨ha, hc, h1⟩ := pos_parts (a := p.num) (b := (p.den : Int)) (c := q.num) (d := (q.den : Int)) (by omega) (by omega) (Rat.num_divInt_den p) (Rat.num_divInt_den q) hp hle
  obtain ⟨x', y', h'⟩ := sp_total (p.den + q.den) p.num p.den q.num q.den ha (by omega) hc (by omega) h1 (by omega)
  have h2 : SpOf p q x' y' := ⟨p.num, p.den, q.num, q.den, by omega, by omega, Rat.num_divInt_den p, Rat.num_divInt_den q, h'⟩
  obtain ⟨rfl, rfl⟩ := h.same h2 hp hle
  exact ⟨h', ha, hc, h1⟩
theorem rsimp02_any (v1 v2 : Value) (p q r : Rat) (x y : Int) (L : Nat) (w : World) (h1 : AR v1 p L) (h2 : AR v2 q L) (hL1 : 1 ≤ L) (hL : L ≤ 700000) (hp : 0 < p) (hle : p ≤ q) (h : SpOf p q x y) (hr : Rat.divInt x y = r) :
    Calls Tryz.prog 31 #[v1, v2] w (RatOut w r) := by
  obtain ⟨hs, ha, hc, hk⟩ := spOf_canon h hp hle
  have d1 := p.den_pos
  have d2 := q.den_pos
  have P := h1.bd
  have Q := h2.bd
  subst hr
  exact rsimp_sp hs (L + 1) ha (by omega) hc (by omega) hk P.1 (by rw [Int.natAbs_natCast]; exact P.2) Q.1 (by rw [Int.natAbs_natCast]; exact Q.2) (by omega) (by omega) v1 v2 w (by rw [Rat.num_divInt_den]; exact h1.wider (Nat.le_succ _)) (by rw [Rat.num_divInt_den]; exact h2.wider (Nat.le_succ _))
end Go.Proofs.YtcljkdninmldiaaGreatDoor

namespace Go.Proofs.YtcljkdninmldiaaGreatDoor
open Go.RowKit
set_option linter.unusedSimpArgs false
set_option linter.unusedVariables false
attribute [local go_sem ↓] fieldNum

set_option maxRecDepth 100000 in
theorem rsgn02_any (v : Value) (q : Rat) (c : Int) (L : Nat) (w : World) (h : AR v q L) (hL : L ≤ 900000) (hc : cmpQ q 0 = c) :
    Calls Tryz.prog 29 #[v] w fun e w' => e = .returned (.int .i64 c) ∧ Below w.heap.size w w' := by
  have H := Lib.hid h
  have Q := Lib.hid h.bd
  have Hc := Lib.hid (show cmpZ q.num 0 = c by rw [cmpQ_sub (p := q) (q := 0) (r := q) (by grind)]; exact hc)
  clear hc
  obtain ⟨g1, s1, g2, s2, _, _, rfl, -, -, -⟩ := h
  have B0 := below1 w (.cells #[.bool g1, .string s1, .bool g2, .string s2] 25)
  go_enter Tryz.func29, Tryz.ntmps29
  go_wp2_with fail
  refine (rcan02_any _ q L _ H.out (by omega)).mono ?_
  rintro e X ⟨rfl, bX⟩
  unfold ratV
  go_wp2_with fail
  refine (rsign_any (ar_num Q.out) (by omega) Hc.out).mono ?_
  rintro e X1 ⟨rfl, b1⟩
  go_wp2_with fail
  go_ret
  exact ⟨rfl, below_more (below_more B0 (Nat.le_refl _) bX) (Nat.le_refl _) b1⟩
theorem cmp_lt {p q : Rat} (h : p < q) : cmpQ p q = -1 := by unfold cmpQ; rw [if_pos h]
theorem cmp_gt {p q : Rat} (h : q < p) : cmpQ p q = 1 := by unfold cmpQ; rw [if_neg (rlt_asymm h), if_pos h]
theorem cmp_le {p q : Rat} (h : p ≤ q) : cmpQ p q = -1 ∨ cmpQ p q = 0 := by
  rcases cmpQ_three p q with ⟨_, e⟩ | ⟨_, e⟩ | ⟨h1, e⟩
  · exact Or.inl e
  · exact Or.inr e
  · exact absurd h1 (Rat.not_lt.2 h)
theorem cmp_ge {p q : Rat} (h : q ≤ p) : cmpQ p q = 1 ∨ cmpQ p q = 0 := by
  rcases cmpQ_three p q with ⟨h1, e⟩ | ⟨_, e⟩ | ⟨_, e⟩
  · exact absurd h1 (Rat.not_lt.2 h)
  · exact Or.inr e
  · exact Or.inl e
theorem rb8_sp {p q r : Rat} {x y : Int} {L : Nat} (h : SpOf p q x y) (hp : 0 < p) (hle : p ≤ q) (hr : Rat.divInt x y = r) (bp : Rb8 p L) (bq : Rb8 q L) : Rb8 r L := by
  obtain ⟨x0, y0, _, _, _, mn⟩ := h.good hp hle
  have d1 := p.den_pos
  obtain ⟨m1, m2⟩ := mn p.num p.den (by omega) (by rw [Rat.num_divInt_den]; exact Rat.le_refl) (by rw [Rat.num_divInt_den]; exact hle)
  have b1 := bp.1
  have b2 := bp.2
  rw [← hr]
  exact rb8_low y0 (by omega) (by omega)
set_option maxRecDepth 100000 in
set_option maxHeartbeats 12800000 in
theorem rsmp02_order (v1 v2 : Value) (p q : Rat) (L : Nat) (w : World) (h1 : AR v1 p L) (h2 : AR v2 q L) (hL1 : 1 ≤ L) (hL : L ≤ 600000) (h : q < p) :
    Calls Tryz.prog 9 #[v1, v2] w (RatFail w 10) := by
  have H1 := Lib.hid h1
  have H2 := Lib.hid h2
  have P := Lib.hid h1.bd
  have Q := Lib.hid h2.bd
  have H0 := Lib.hid (cmp_gt h)
  clear h
  obtain ⟨g1, s1, g2, s2, _, _, rfl, -, -, -⟩ := h1
  obtain ⟨g3, s3, g4, s4, _, _, rfl, -, -, -⟩ := h2
  obtain ⟨W0, hW0⟩ : ∃ W0, W0 = ((w.alloc (.cells #[.bool g1, .string s1, .bool g2, .string s2] 25)).alloc (.cells #[.bool g3, .string s3, .bool g4, .string s4] 25)).alloc (.cells #[.bool false, .string ⟨#[]⟩, .bool false, .string ⟨#[]⟩] 25) := ⟨_, rfl⟩
  have K : Dw w W0 w.heap.size g1 s1 g2 s2 g3 s3 g4 s4 := by rw [hW0]; exact Dw.start w _ _ _ _ _ _ _ _
  have HW := Lib.hid hW0
  clear hW0
  go_enter Tryz.func9, Tryz.ntmps9
  go_upto_region 1 with fail
  rw [← HW.out]
  clear HW
  obtain ⟨⟨⟨x1, x2, x3, x4⟩, x5, x6, x7, x8⟩, ⟨⟨y1, y2, y3, y4⟩, y5, y6, y7, y8⟩, ⟨⟨r1, r2, r3, r4⟩, r5, r6, r7, r8⟩, -⟩ := id K
  go_wp2_with fail
  refine (rcmp02_any _ _ p q 1 L _ H1.out H2.out (by omega) H0.out).mono ?_
  rintro e X1 ⟨rfl, b1⟩
  have K := K.keep b1
  clear b1 x1 x2 x3 x4 x5 x6 x7 x8 y1 y2 y3 y4 y5 y6 y7 y8 r1 r2 r3 r4 r5 r6 r7 r8
  obtain ⟨⟨⟨x1, x2, x3, x4⟩, x5, x6, x7, x8⟩, ⟨⟨y1, y2, y3, y4⟩, y5, y6, y7, y8⟩, ⟨⟨r1, r2, r3, r4⟩, r5, r6, r7, r8⟩, -⟩ := id K
  go_wp2_with fail
  exact bodyPost_ret (v := .tuple #[.agg #[.bool false, .string ⟨#[]⟩, .bool false, .string ⟨#[]⟩], .int .i64 10]) (by simp [results, Tryz.results9, go_sem, r1, r2, r3, r4, r5, r6, r7, r8]) rfl ⟨rfl, below4s K.2.2.2.2.1 _ (by omega) _ _ _ _⟩
set_option maxRecDepth 100000 in
set_option maxHeartbeats 12800000 in
theorem rsmp02_zero (v1 v2 : Value) (p q : Rat) (L : Nat) (w : World) (h1 : AR v1 p L) (h2 : AR v2 q L) (hL1 : 1 ≤ L) (hL : L ≤ 600000) (c0 ca cb : Int) (h0 : cmpQ p q = c0) (ha : cmpQ p 0 = ca) (hb : cmpQ q 0 = cb) (hc0 : c0 = -1 ∨ c0 = 0) (hca : ca = -1 ∨ ca = 0) (hcb : cb = 1 ∨ cb = 0) :
    Calls Tryz.prog 9 #[v1, v2] w (RatGood w 0) := by
  have H1 := Lib.hid h1
  have H2 := Lib.hid h2
  have P := Lib.hid h1.bd
  have Q := Lib.hid h2.bd
  have H0 := Lib.hid h0
  have Ha := Lib.hid ha
  have Hb := Lib.hid hb
  clear h0 ha hb
  obtain ⟨g1, s1, g2, s2, _, _, rfl, -, -, -⟩ := h1
  obtain ⟨g3, s3, g4, s4, _, _, rfl, -, -, -⟩ := h2
  obtain ⟨W0, hW0⟩ : ∃ W0, W0 = ((w.alloc (.cells #[.bool g1, .string s1, .bool g2, .string s2] 25)).alloc (.cells #[.bool g3, .string s3, .bool g4, .string s4] 25)).alloc (.cells #[.bool false, .string ⟨#[]⟩, .bool false, .string ⟨#[]⟩] 25) := ⟨_, rfl⟩
  have K : Dw w W0 w.heap.size g1 s1 g2 s2 g3 s3 g4 s4 := by rw [hW0]; exact Dw.start w _ _ _ _ _ _ _ _
  have HW := Lib.hid hW0
  clear hW0
  go_enter Tryz.func9, Tryz.ntmps9
  go_upto_region 1 with fail
  rw [← HW.out]
  clear HW
  obtain ⟨⟨⟨x1, x2, x3, x4⟩, x5, x6, x7, x8⟩, ⟨⟨y1, y2, y3, y4⟩, y5, y6, y7, y8⟩, ⟨⟨r1, r2, r3, r4⟩, r5, r6, r7, r8⟩, -⟩ := id K
  go_wp2_with fail
  refine (rcmp02_any _ _ p q c0 L _ H1.out H2.out (by omega) H0.out).mono ?_
  rintro e X2 ⟨rfl, b2⟩
  have K := K.keep b2
  clear b2 x1 x2 x3 x4 x5 x6 x7 x8 y1 y2 y3 y4 y5 y6 y7 y8 r1 r2 r3 r4 r5 r6 r7 r8
  obtain ⟨⟨⟨x1, x2, x3, x4⟩, x5, x6, x7, x8⟩, ⟨⟨y1, y2, y3, y4⟩, y5, y6, y7, y8⟩, ⟨⟨r1, r2, r3, r4⟩, r5, r6, r7, r8⟩, -⟩ := id K
  have e0 : decide (0 < c0) = false := by rw [decide_eq_false_iff_not]; omega
  have ea : decide (ca ≤ 0) = true := by rw [decide_eq_true_iff]; omega
  have eb : decide (0 ≤ cb) = true := by rw [decide_eq_true_iff]; omega
  have i0 : ¬ 0 < c0 := by omega
  have ia : ca ≤ 0 := by omega
  have ib : 0 ≤ cb := by omega
  clear hc0 hca hcb
  go_wp2_with fail
  refine (rsgn02_any _ p ca L _ H1.out (by omega) Ha.out).mono ?_
  rintro e X3 ⟨rfl, b3⟩
  have K := K.keep b3
  clear b3 x1 x2 x3 x4 x5 x6 x7 x8 y1 y2 y3 y4 y5 y6 y7 y8 r1 r2 r3 r4 r5 r6 r7 r8
  obtain ⟨⟨⟨x1, x2, x3, x4⟩, x5, x6, x7, x8⟩, ⟨⟨y1, y2, y3, y4⟩, y5, y6, y7, y8⟩, ⟨⟨r1, r2, r3, r4⟩, r5, r6, r7, r8⟩, -⟩ := id K
  go_wp2_with fail
  refine (rsgn02_any _ q cb L _ H2.out (by omega) Hb.out).mono ?_
  rintro e X4 ⟨rfl, b4⟩
  have K := K.keep b4
  clear b4 x1 x2 x3 x4 x5 x6 x7 x8 y1 y2 y3 y4 y5 y6 y7 y8 r1 r2 r3 r4 r5 r6 r7 r8
  obtain ⟨⟨⟨x1, x2, x3, x4⟩, x5, x6, x7, x8⟩, ⟨⟨y1, y2, y3, y4⟩, y5, y6, y7, y8⟩, ⟨⟨r1, r2, r3, r4⟩, r5, r6, r7, r8⟩, -⟩ := id K
  go_wp2_with fail
  refine (rof02_any _ 0 0 _ ai_zero (by omega)).mono ?_
  rintro e X5 ⟨rfl, b5⟩
  have K := K.keep b5
  clear b5 x1 x2 x3 x4 x5 x6 x7 x8 y1 y2 y3 y4 y5 y6 y7 y8 r1 r2 r3 r4 r5 r6 r7 r8
  obtain ⟨⟨⟨x1, x2, x3, x4⟩, x5, x6, x7, x8⟩, ⟨⟨y1, y2, y3, y4⟩, y5, y6, y7, y8⟩, ⟨⟨r1, r2, r3, r4⟩, r5, r6, r7, r8⟩, -⟩ := id K
  unfold ratV
  rw [show ((0 : Int) : Rat) = 0 from rfl]
  go_wp2_with fail
  exact bodyPost_ret (v := .tuple #[ratV 0, .int .i64 0]) (by simp [results, Tryz.results9, go_sem, r1, r2, r3, r4, r5, r6, r7, r8, ratV]) rfl ⟨rfl, below4s K.2.2.2.2.1 _ (by omega) _ _ _ _⟩
set_option maxRecDepth 100000 in
set_option maxHeartbeats 12800000 in
theorem rsmp02_pos (v1 v2 : Value) (p q : Rat) (L : Nat) (w : World) (h1 : AR v1 p L) (h2 : AR v2 q L) (hL1 : 1 ≤ L) (hL : L ≤ 600000) (c0 ca : Int) (h0 : cmpQ p q = c0) (ha : cmpQ p 0 = ca) (hc0 : c0 = -1 ∨ c0 = 0) (hca : ca = 1) (x y : Int) (r : Rat) (hp : 0 < p) (hle : p ≤ q) (hs : SpOf p q x y) (hr : Rat.divInt x y = r) :
    Calls Tryz.prog 9 #[v1, v2] w (RatGood w r) := by
  have H1 := Lib.hid h1
  have H2 := Lib.hid h2
  have P := Lib.hid h1.bd
  have Q := Lib.hid h2.bd
  have H0 := Lib.hid h0
  have Ha := Lib.hid ha
  have HS := Lib.hid (And.intro hp (And.intro hle (And.intro hs hr)))
  clear h0 ha hp hle hs hr
  subst hca
  obtain ⟨g1, s1, g2, s2, _, _, rfl, -, -, -⟩ := h1
  obtain ⟨g3, s3, g4, s4, _, _, rfl, -, -, -⟩ := h2
  obtain ⟨W0, hW0⟩ : ∃ W0, W0 = ((w.alloc (.cells #[.bool g1, .string s1, .bool g2, .string s2] 25)).alloc (.cells #[.bool g3, .string s3, .bool g4, .string s4] 25)).alloc (.cells #[.bool false, .string ⟨#[]⟩, .bool false, .string ⟨#[]⟩] 25) := ⟨_, rfl⟩
  have K : Dw w W0 w.heap.size g1 s1 g2 s2 g3 s3 g4 s4 := by rw [hW0]; exact Dw.start w _ _ _ _ _ _ _ _
  have HW := Lib.hid hW0
  clear hW0
  go_enter Tryz.func9, Tryz.ntmps9
  go_upto_region 1 with fail
  rw [← HW.out]
  clear HW
  obtain ⟨⟨⟨x1, x2, x3, x4⟩, x5, x6, x7, x8⟩, ⟨⟨y1, y2, y3, y4⟩, y5, y6, y7, y8⟩, ⟨⟨r1, r2, r3, r4⟩, r5, r6, r7, r8⟩, -⟩ := id K
  go_wp2_with fail
  refine (rcmp02_any _ _ p q c0 L _ H1.out H2.out (by omega) H0.out).mono ?_
  rintro e X6 ⟨rfl, b6⟩
  have K := K.keep b6
  clear b6 x1 x2 x3 x4 x5 x6 x7 x8 y1 y2 y3 y4 y5 y6 y7 y8 r1 r2 r3 r4 r5 r6 r7 r8
  obtain ⟨⟨⟨x1, x2, x3, x4⟩, x5, x6, x7, x8⟩, ⟨⟨y1, y2, y3, y4⟩, y5, y6, y7, y8⟩, ⟨⟨r1, r2, r3, r4⟩, r5, r6, r7, r8⟩, -⟩ := id K
  have e0 : decide (0 < c0) = false := by rw [decide_eq_false_iff_not]; omega
  have i0 : ¬ 0 < c0 := by omega
  clear hc0
  go_wp2_with fail
  refine (rsgn02_any _ p 1 L _ H1.out (by omega) Ha.out).mono ?_
  rintro e X7 ⟨rfl, b7⟩
  have K := K.keep b7
  clear b7 x1 x2 x3 x4 x5 x6 x7 x8 y1 y2 y3 y4 y5 y6 y7 y8 r1 r2 r3 r4 r5 r6 r7 r8
  obtain ⟨⟨⟨x1, x2, x3, x4⟩, x5, x6, x7, x8⟩, ⟨⟨y1, y2, y3, y4⟩, y5, y6, y7, y8⟩, ⟨⟨r1, r2, r3, r4⟩, r5, r6, r7, r8⟩, -⟩ := id K
  go_wp2_with fail
  refine (rsgn02_any _ p 1 L _ H1.out (by omega) Ha.out).mono ?_
  rintro e X8 ⟨rfl, b8⟩
  have K := K.keep b8
  clear b8 x1 x2 x3 x4 x5 x6 x7 x8 y1 y2 y3 y4 y5 y6 y7 y8 r1 r2 r3 r4 r5 r6 r7 r8
  obtain ⟨⟨⟨x1, x2, x3, x4⟩, x5, x6, x7, x8⟩, ⟨⟨y1, y2, y3, y4⟩, y5, y6, y7, y8⟩, ⟨⟨r1, r2, r3, r4⟩, r5, r6, r7, r8⟩, -⟩ := id K
  go_upto_region 6 with fail
  have KB := K.drew
  clear K x1 x2 x3 x4 x5 x6 x7 x8 y1 y2 y3 y4 y5 y6 y7 y8 r1 r2 r3 r4 r5 r6 r7 r8
  obtain ⟨⟨⟨x1, x2, x3, x4⟩, x5, x6, x7, x8⟩, ⟨⟨y1, y2, y3, y4⟩, y5, y6, y7, y8⟩, ⟨⟨r1, r2, r3, r4⟩, r5, r6, r7, r8⟩, -⟩ := id KB
  go_region_with (first
    | (go_at_call 21; (first | (with_reducible refine (rcan02_any _ p L _ H1.out (by omega)).mono ?_) | (with_reducible refine (rcan02_any _ q L _ H2.out (by omega)).mono ?_)); rintro e X ⟨rfl, bX⟩; unfold ratV; have KB := KB.keep bX; obtain ⟨⟨⟨x1, x2, x3, x4⟩, x5, x6, x7, x8⟩, ⟨⟨y1, y2, y3, y4⟩, y5, y6, y7, y8⟩, ⟨⟨r1, r2, r3, r4⟩, r5, r6, r7, r8⟩, -⟩ := id KB)
    | (go_at_call 31; (first | (with_reducible refine (rsimp02_any _ _ p q r x y (L + 1) _ (ar_ratV P.out) (ar_ratV Q.out) (by omega) (by omega) HS.out.1 HS.out.2.1 HS.out.2.2.1 HS.out.2.2.2).mono ?_)); rintro e X ⟨rfl, bX⟩; unfold ratV; have KB := KB.keep bX; obtain ⟨⟨⟨x1, x2, x3, x4⟩, x5, x6, x7, x8⟩, ⟨⟨y1, y2, y3, y4⟩, y5, y6, y7, y8⟩, ⟨⟨r1, r2, r3, r4⟩, r5, r6, r7, r8⟩, -⟩ := id KB))
  all_goals
    go_wp2_with fail
    exact bodyPost_ret (v := .tuple #[ratV r, .int .i64 0]) (by simp [results, Tryz.results9, go_sem, r1, r2, r3, r4, r5, r6, r7, r8, ratV]) rfl ⟨rfl, below4s KB.2.2.2.2.1 _ (by omega) _ _ _ _⟩
set_option maxRecDepth 100000 in
set_option maxHeartbeats 12800000 in
theorem rsmp02_neg (v1 v2 : Value) (p q : Rat) (L : Nat) (w : World) (h1 : AR v1 p L) (h2 : AR v2 q L) (hL1 : 1 ≤ L) (hL : L ≤ 600000) (c0 ca : Int) (h0 : cmpQ p q = c0) (ha : cmpQ p 0 = ca) (hc0 : c0 = -1 ∨ c0 = 0) (hca : ca = -1) (x y : Int) (r : Rat) (cb : Int) (hb : cmpQ q 0 = cb) (hcb : cb = -1) (mp mq s : Rat) (emp : -p = mp) (emq : -q = mq) (hp : 0 < mq) (hle : mq ≤ mp) (hs : SpOf mq mp x y) (hx : Rat.divInt x y = s) (hr : -s = r) :
    Calls Tryz.prog 9 #[v1, v2] w (RatGood w r) := by
  have H1 := Lib.hid h1
  have H2 := Lib.hid h2
  have P := Lib.hid h1.bd
  have Q := Lib.hid h2.bd
  have H0 := Lib.hid h0
  have Ha := Lib.hid ha
  have Hb := Lib.hid hb
  have Emp := Lib.hid emp
  have Emq := Lib.hid emq
  have Hr := Lib.hid hr
  have MP := Lib.hid (show Rb8 mp (L + 1) from emp ▸ rb8_neg P.out)
  have MQ := Lib.hid (show Rb8 mq (L + 1) from emq ▸ rb8_neg Q.out)
  have MS := Lib.hid (rb8_sp hs hp hle hx MQ.out MP.out)
  have HS := Lib.hid (And.intro hp (And.intro hle (And.intro hs hx)))
  clear h0 ha hb hp hle hs hr emp emq hx
  subst hca hcb
  obtain ⟨g1, s1, g2, s2, _, _, rfl, -, -, -⟩ := h1
  obtain ⟨g3, s3, g4, s4, _, _, rfl, -, -, -⟩ := h2
  obtain ⟨W0, hW0⟩ : ∃ W0, W0 = ((w.alloc (.cells #[.bool g1, .string s1, .bool g2, .string s2] 25)).alloc (.cells #[.bool g3, .string s3, .bool g4, .string s4] 25)).alloc (.cells #[.bool false, .string ⟨#[]⟩, .bool false, .string ⟨#[]⟩] 25) := ⟨_, rfl⟩
  have K : Dw w W0 w.heap.size g1 s1 g2 s2 g3 s3 g4 s4 := by rw [hW0]; exact Dw.start w _ _ _ _ _ _ _ _
  have HW := Lib.hid hW0
  clear hW0
  go_enter Tryz.func9, Tryz.ntmps9
  go_upto_region 1 with fail
  rw [← HW.out]
  clear HW
  obtain ⟨⟨⟨x1, x2, x3, x4⟩, x5, x6, x7, x8⟩, ⟨⟨y1, y2, y3, y4⟩, y5, y6, y7, y8⟩, ⟨⟨r1, r2, r3, r4⟩, r5, r6, r7, r8⟩, -⟩ := id K
  go_wp2_with fail
  refine (rcmp02_any _ _ p q c0 L _ H1.out H2.out (by omega) H0.out).mono ?_
  rintro e X9 ⟨rfl, b9⟩
  have K := K.keep b9
  clear b9 x1 x2 x3 x4 x5 x6 x7 x8 y1 y2 y3 y4 y5 y6 y7 y8 r1 r2 r3 r4 r5 r6 r7 r8
  obtain ⟨⟨⟨x1, x2, x3, x4⟩, x5, x6, x7, x8⟩, ⟨⟨y1, y2, y3, y4⟩, y5, y6, y7, y8⟩, ⟨⟨r1, r2, r3, r4⟩, r5, r6, r7, r8⟩, -⟩ := id K
  have e0 : decide (0 < c0) = false := by rw [decide_eq_false_iff_not]; omega
  have i0 : ¬ 0 < c0 := by omega
  clear hc0
  go_wp2_with fail
  refine (rsgn02_any _ p (-1) L _ H1.out (by omega) Ha.out).mono ?_
  rintro e X10 ⟨rfl, b10⟩
  have K := K.keep b10
  clear b10 x1 x2 x3 x4 x5 x6 x7 x8 y1 y2 y3 y4 y5 y6 y7 y8 r1 r2 r3 r4 r5 r6 r7 r8
  obtain ⟨⟨⟨x1, x2, x3, x4⟩, x5, x6, x7, x8⟩, ⟨⟨y1, y2, y3, y4⟩, y5, y6, y7, y8⟩, ⟨⟨r1, r2, r3, r4⟩, r5, r6, r7, r8⟩, -⟩ := id K
  go_wp2_with fail
  refine (rsgn02_any _ q (-1) L _ H2.out (by omega) Hb.out).mono ?_
  rintro e X11 ⟨rfl, b11⟩
  have K := K.keep b11
  clear b11 x1 x2 x3 x4 x5 x6 x7 x8 y1 y2 y3 y4 y5 y6 y7 y8 r1 r2 r3 r4 r5 r6 r7 r8
  obtain ⟨⟨⟨x1, x2, x3, x4⟩, x5, x6, x7, x8⟩, ⟨⟨y1, y2, y3, y4⟩, y5, y6, y7, y8⟩, ⟨⟨r1, r2, r3, r4⟩, r5, r6, r7, r8⟩, -⟩ := id K
  go_wp2_with fail
  refine (rsgn02_any _ p (-1) L _ H1.out (by omega) Ha.out).mono ?_
  rintro e X12 ⟨rfl, b12⟩
  have K := K.keep b12
  clear b12 x1 x2 x3 x4 x5 x6 x7 x8 y1 y2 y3 y4 y5 y6 y7 y8 r1 r2 r3 r4 r5 r6 r7 r8
  obtain ⟨⟨⟨x1, x2, x3, x4⟩, x5, x6, x7, x8⟩, ⟨⟨y1, y2, y3, y4⟩, y5, y6, y7, y8⟩, ⟨⟨r1, r2, r3, r4⟩, r5, r6, r7, r8⟩, -⟩ := id K
  go_upto_region 7 with fail
  have KB := K.drew
  clear K x1 x2 x3 x4 x5 x6 x7 x8 y1 y2 y3 y4 y5 y6 y7 y8 r1 r2 r3 r4 r5 r6 r7 r8
  obtain ⟨⟨⟨x1, x2, x3, x4⟩, x5, x6, x7, x8⟩, ⟨⟨y1, y2, y3, y4⟩, y5, y6, y7, y8⟩, ⟨⟨r1, r2, r3, r4⟩, r5, r6, r7, r8⟩, -⟩ := id KB
  go_region_with (first
    | (go_at_call 32; (first | (with_reducible refine (rneg02_any _ q mq L _ H2.out (by omega) Emq.out).mono ?_) | (with_reducible refine (rneg02_any _ p mp L _ H1.out (by omega) Emp.out).mono ?_) | (with_reducible refine (rneg02_any _ s r (L + 1) _ (ar_ratV MS.out) (by omega) Hr.out).mono ?_)); rintro e X ⟨rfl, bX⟩; unfold ratV; have KB := KB.keep bX; obtain ⟨⟨⟨x1, x2, x3, x4⟩, x5, x6, x7, x8⟩, ⟨⟨y1, y2, y3, y4⟩, y5, y6, y7, y8⟩, ⟨⟨r1, r2, r3, r4⟩, r5, r6, r7, r8⟩, -⟩ := id KB)
    | (go_at_call 31; (first | (with_reducible refine (rsimp02_any _ _ mq mp s x y (L + 1) _ (ar_ratV MQ.out) (ar_ratV MP.out) (by omega) (by omega) HS.out.1 HS.out.2.1 HS.out.2.2.1 HS.out.2.2.2).mono ?_)); rintro e X ⟨rfl, bX⟩; unfold ratV; have KB := KB.keep bX; obtain ⟨⟨⟨x1, x2, x3, x4⟩, x5, x6, x7, x8⟩, ⟨⟨y1, y2, y3, y4⟩, y5, y6, y7, y8⟩, ⟨⟨r1, r2, r3, r4⟩, r5, r6, r7, r8⟩, -⟩ := id KB))
  all_goals
    go_wp2_with fail
    exact bodyPost_ret (v := .tuple #[ratV r, .int .i64 0]) (by simp [results, Tryz.results9, go_sem, r1, r2, r3, r4, r5, r6, r7, r8, ratV]) rfl ⟨rfl, below4s KB.2.2.2.2.1 _ (by omega) _ _ _ _⟩
end Go.Proofs.YtcljkdninmldiaaGreatDoor
