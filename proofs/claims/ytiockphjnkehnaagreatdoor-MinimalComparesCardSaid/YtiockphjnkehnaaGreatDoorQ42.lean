/- What minimal.firstWord returns with onlyFirst: the first list of labels that leads to a pair as wanted, if there is one. Conditions: the machines can be read; at most 64 states and 256 labels. -/
import Derived.Test.YtiockphjnkehnaaGreatDoorQ29

namespace Go.Proofs.YtiockphjnkehnaaGreatDoor
open Go.RowKit Go.Maps Go.Lib
set_option linter.unusedSimpArgs false
set_option linter.unusedVariables false

set_option maxRecDepth 100000 in
set_option maxHeartbeats 12800000 in
theorem firstWord_of
    (a b : Nat → Nat → Nat) (na nb La s t : Nat) (av bv : Option Addr) (ac bc : Nat) (w : World) (hra : RowsRd w (.slice av (na + 1) ac) (mRows a na La)) (hrb : RowsRd w (.slice bv (nb + 1) bc) (mRows b nb La))
    (hA : ∀ x l, x ≤ na → a x l ≤ na) (hB : ∀ x l, x ≤ nb → b x l ≤ nb) (ha0 : ∀ l, a na l = na) (hb0 : ∀ l, b nb l = nb) (hna : na ≤ 64) (hnb : nb ≤ 64) (hL : La ≤ 256) (hs : s ≤ na) (ht : t ≤ nb) :
    Calls Tryz.prog 40 #[.slice av (na + 1) ac, .slice bv (nb + 1) bc, prV s t, (.func (.func 31) #[] #[])] w (FWOut (fun x y : Bool => x && !y) a b na nb La s t w) := by
  obtain ⟨i0, hi, hz0, hz1, hz2⟩ := info_parts Tryz.infoFound
  have hmx : Tryz.prog.follows .mixedOrders = true := by kernel_rfl
  have hmm := @run_makeMap Tryz.prog
  have HRA := Lib.hid hra
  have HRB := Lib.hid hrb
  have HNA := Lib.hid (fun W => mnone_any av na ac W (by omega))
  have HNB := Lib.hid (fun W => mnone_any bv nb bc W (by omega))
  obtain ⟨D, hDD⟩ : ∃ D : Bool → Bool → Bool, D = (fun x y : Bool => x && !y) := ⟨_, rfl⟩
  have hD0 : D false false = false := by rw [hDD]; rfl
  have HDD := Lib.hid (show ∀ x y w, Calls Tryz.prog 31 #[.bool x, .bool y] w fun e w' => e = .returned (.bool (D x y)) ∧ w' = w by rw [hDD]; exact onlyFirst_any)
  rw [← hDD]
  clear hDD
  have hE : ∀ (args : Array Value) (w : World), (callFunc 31 args).run Tryz.prog w = .ok (.enter 31 args) w := fun args w => by
    simp [callFunc, go_sem, Tryz.func31, Tryz.f31]
  have hst : SmP (s, t) := ⟨by show s ≤ 100000; omega, by show t ≤ 100000; omega⟩
  have hkey := kyP_of hst
  have S0 := Lib.hid (SQ.start D a b La hs ht)
  obtain ⟨NA, hNA⟩ : ∃ N, na + 1 = N := ⟨_, rfl⟩
  obtain ⟨NB, hNB⟩ : ∃ N, nb + 1 = N := ⟨_, rfl⟩
  have HA1 := Lib.hid hNA
  have HB1 := Lib.hid hNB
  rw [hNA] at HRA HNA ⊢
  rw [hNB] at HRB HNB ⊢
  obtain ⟨W0, hW0⟩ : ∃ W0, (w.alloc (.cells #[.int .i64 (s : Int), .int .i64 (t : Int)] 67)).alloc (.cells #[.int .i64 (s : Int), .int .i64 (t : Int), .int .i64 0, .int .i64 0] 88) = W0 := ⟨_, rfl⟩
  have b0 : Below w.heap.size w W0 := by rw [← hW0]; exact below_more (below1 w _) (Nat.le_refl _) (below1 _ _)
  have z0 : W0.heap.size = w.heap.size + 2 := by rw [← hW0, World.size_alloc, World.size_alloc]
  have rs0 : RecsAt W0 w.heap.size (.slice (some ⟨w.heap.size + 1, 0, none⟩) 1 1) [(s, t, 0, 0)] := by
    rw [← hW0]
    have h := recs_one (w.alloc (.cells #[.int .i64 (s : Int), .int .i64 (t : Int)] 67)) s t
    rw [World.size_alloc] at h
    exact own_low h (Nat.le_succ _)
  have x0 : Bx2 W0 w.heap.size s t := by rw [← hW0]; exact (Bx2.new w s t).keep (below1 _ _)
  have hown0 := World.ownsMap_made (H := Unit) W0 Tryz.prog 67 (plainElem Tryz.prog 4)
  rw [z0] at hown0
  obtain ⟨xx1, xx2⟩ := (x0.keep (below1 W0 (.map #[] 0))).cells
  clear hra hrb hNA hNB
  go_enter Tryz.func40, Tryz.ntmps40
  go_upto_region 2 with fail
  have HW0 := Lib.hid hW0
  clear hW0
  go_upto_region 3 with (refine wpList_insert_ownH _ rfl _ _ _ 90 rfl 67 4 Tryz.keyLawP Tryz.underlying90 _ (w.heap.size + 2) 0 _ rfl hown0 (by unfold maxLen; omega) _ _ _ rfl rfl hkey _ [] (plainElem_bool Tryz.underlying4 true) ?_; intro w1 hown1 hgrow1)
  have hg0 := hgrow1.size
  rw [World.size_alloc] at hg0
  have F0 : FS w.heap.size (w.heap.size + 2) w1.heap.size na nb [(s, t, 0, 0)] [(s, t)] (.slice (some ⟨w.heap.size + 1, 0, none⟩) 1 1) w (w1.alloc (.cells #[.int .i64 (na : Int), .int .i64 (nb : Int)] 67)) := by
    refine ⟨(((b0.alloc b0.size _).grown hgrow1 (by rw [World.size_alloc]; omega) (fun k e => by injection e with e; omega)).alloc (by omega) _), ?_, hown1.alloc _, Bx2.new w1 na nb, by omega⟩
    exact World.ownsRow.alloc (World.ownsRow.kept (World.ownsRow.alloc rs0 _) hgrow1 (.inr (by intro e; simp [Value.ownBlock] at e))) _
  have FF0 := Lib.hid F0
  have hz1 : w.heap.size ≤ (w1.alloc (.cells #[.int .i64 (na : Int), .int .i64 (nb : Int)] 67)).heap.size := by rw [World.size_alloc]; omega
  obtain ⟨Bm, hBm⟩ : ∃ Bm, w.heap.size + 2 = Bm := ⟨_, rfl⟩
  obtain ⟨pN, hpN⟩ : ∃ pN, w1.heap.size = pN := ⟨_, rfl⟩
  rw [hBm, hpN] at FF0
  have HBM := Lib.hid hBm
  have HPN := Lib.hid hpN
  clear hown0 xx1 xx2 x0 rs0 b0 F0 hkey
  go_upto_region 4 with (first
    | (go_at_call 70; (with_reducible refine (HNA.out _).mono ?_); rintro e W3 ⟨rfl, rfl⟩)
    | (go_at_call 70; (with_reducible refine (HNB.out _).mono ?_); rintro e W4 ⟨rfl, rfl⟩))
  go_upto_region 5 with fail
  obtain ⟨BND, hBND⟩ : ∃ BND, NA * NB + 1 = BND := ⟨_, rfl⟩
  have HBD := Lib.hid hBND
  have hNA1 : na < NA := by have := HA1.out; omega
  have hNB1 : nb < NB := by have := HB1.out; omega
  have hNA2 : NA ≤ 65 := by have := HA1.out; omega
  have hNB2 : NB ≤ 65 := by have := HB1.out; omega
  have hBD2 : BND ≤ 5000 := by
    have : NA * NB ≤ 65 * 65 := Nat.mul_le_mul hNA2 hNB2
    omega
  generalize (W4.alloc (.cells #[.int .i64 (na : Int), .int .i64 (nb : Int)] 67)) = X at *
  clear hmm hgrow1 hown1 hg0 z0 HW0 hBND hBm hpN hst
  go_loopg [10, 13] BND (fun q s10 s13 wx => ∃ (i : Nat) (R : List Rec) (Q : List (List Int × (Nat × Nat))), s13 = .int .i64 (i : Int) ∧ i + q = BND ∧ i ≤ Q.length ∧ Hid (SQ D a b na nb La s t i 0 R Q) ∧ Hid (FS w.heap.size Bm pN na nb R (Q.map (·.2)) s10 w wx) ∧ w.heap.size ≤ wx.heap.size)
  case atStart => exact ⟨0, _, _, rfl, by omega, Nat.zero_le _, S0, FF0, hz1⟩
  case round =>
    clear S0 FF0 hz1
    obtain ⟨i, R, Q, rfl, hiq, hiQ, HS, HF, hsz⟩ := hrel
    have hlen := HS.out.rq.len
    have hsize := HS.out.size
    rw [HA1.out, HB1.out] at hsize
    have hnB : Q.length < BND := by have := HBD.out; omega
    obtain ⟨a9, c9, hv⟩ := HF.out.rs.slice
    subst hv
    obtain ⟨n, hn⟩ : ∃ n, R.length = n := ⟨_, rfl⟩
    have HN := Lib.hid hn
    rw [hn] at HF hlen ⊢
    have hnQ : Q.length = n := hlen.symm
    obtain ⟨q, rfl⟩ : ∃ q, gk = q + 1 := ⟨gk - 1, by omega⟩
    by_cases hin : i < n
    · obtain ⟨p, hp⟩ : ∃ p, Q[i]? = some p := ⟨_, List.getElem?_eq_getElem (by omega)⟩
      obtain ⟨⟨x, y, bh, lb⟩, hr⟩ : ∃ r, R[i]? = some r := ⟨_, List.getElem?_eq_getElem (by omega)⟩
      have hat := HS.out.rq.at_ i _ p hr hp
      dsimp only at hat
      have hbox := HS.out.box p (List.mem_of_getElem? hp)
      rw [hat] at hbox
      dsimp only at hbox
      obtain ⟨hxa, hyb⟩ := hbox
      have HP := Lib.hid hp
      have HR := Lib.hid hr
      have HPE := Lib.hid hat
      have hrs := HF.out.rs
      obtain ⟨b1, o1, k1, hv1, q1, q2, q3, q4⟩ := hrs.rd.at hr
      rw [hn] at hv1
      injection hv1 with e1 e2 e3
      subst e1
      dsimp only at q1 q2 q3 q4
      have j1 : (i : Int) < (n : Int) := by omega
      obtain ⟨dv, hdv⟩ : ∃ dv, D ((x : Int) != (na : Int)) ((y : Int) != (nb : Int)) = dv := ⟨_, rfl⟩
      have HDV := Lib.hid (show ∀ W, Calls Tryz.prog 31 #[.bool ((x : Int) != (na : Int)), .bool ((y : Int) != (nb : Int))] W fun e w' => e = .returned (.bool dv) ∧ w' = W by rw [← hdv]; exact fun W => HDD.out _ _ W)
      have HDE := Lib.hid (show D (decide (p.2.1 ≠ na)) (decide (p.2.2 ≠ nb)) = dv by
        rw [hat]
        have g1 : decide (x ≠ na) = ((x : Int) != (na : Int)) := by rw [Bool.eq_iff_iff, bne_iff_ne, decide_eq_true_iff]; omega
        have g2 : decide (y ≠ nb) = ((y : Int) != (nb : Int)) := by rw [Bool.eq_iff_iff, bne_iff_ne, decide_eq_true_iff]; omega
        show D (decide (x ≠ na)) (decide (y ≠ nb)) = dv
        rw [g1, g2]
        exact hdv)
      have A1 := Lib.hid (Bx2.new wr x y)
      have F1 := Lib.hid (HF.out.keep hsz (below1 wr (.cells #[.int .i64 (x : Int), .int .i64 (y : Int)] 67)))
      have hsz2 : w.heap.size ≤ (wr.alloc (.cells #[.int .i64 (x : Int), .int .i64 (y : Int)] 67)).heap.size := by rw [World.size_alloc]; omega
      have HIQ := Lib.hid hiq
      clear hp hr hat hrs hn e3 hdv hlen hsize hiq
      go_upto_region 8 with fail
      obtain ⟨P, hP⟩ : ∃ P, wr.heap.size = P := ⟨_, rfl⟩
      rw [hP] at A1 ⊢
      have hPw : w.heap.size ≤ P := by omega
      clear HF q1 q2 q3 q4 hP
      generalize (wr.alloc (.cells #[.int .i64 (x : Int), .int .i64 (y : Int)] 67)) = V at *
      obtain ⟨x1, x2⟩ := A1.out.cells
      go_quiet ((first
        | (go_at_call 70; with_reducible refine Calls.quiet_of_same (HNA.out _))
        | (go_at_call 70; with_reducible refine Calls.quiet_of_same (HNB.out _))
        | (go_at_call 31; with_reducible refine Calls.quiet_of_same (HDV.out _))))
      have hdn := below_drewM (Below.refl V.heap.size V) nq
      have F2 := Lib.hid (F1.out.keep hsz2 hdn)
      have A2 := Lib.hid (A1.out.keep hdn)
      have hsz3 : w.heap.size ≤ (V.drewN nq).heap.size := Nat.le_trans hsz2 hdn.size
      clear F1 A1 x1 x2 hsz2 HDV hdn
      generalize V.drewN nq = Y at *
      have HRC := Lib.hid F2.out.rs.rd
      obtain ⟨b4, o4, k4, hv4, q1, q2, q3, q4⟩ := HRC.out.at HR.out
      rw [HN.out] at hv4
      injection hv4 with e1 e2 e3
      injection e1 with e1
      injection e1 with e1 e4
      subst e1
      subst e4
      dsimp only at q1 q2 q3 q4
      clear e2 e3
      cases dv with
      | true =>
        have HWT := Lib.hid (wordTo_any R Q _ i _ p Y HRC.out HS.out.rq HR.out HP.out (by rw [HN.out]; omega))
        dsimp only at HWT
        have HFW := Lib.hid (HS.out.found hD0 ha0 hb0 HP.out HDE.out)
        go_wp2_with (go_at_call 71; (with_reducible refine HWT.out.mono ?_); rintro e W8 ⟨a8, c8, rfl, i8, b8⟩; (have I8 := Lib.hid i8); (have B8 := Lib.hid (F2.out.bl.trans (b8.mono F2.out.bl.size))); clear i8 b8)
        exact bodyPost_ret (v := .tuple #[.slice a8 p.1.length c8, .bool true]) (by simp [results, Tryz.results40, go_sem]) rfl ⟨a8, c8, p.1, true, rfl, I8.out, HFW.out, B8.out⟩
      | false =>
        obtain ⟨x1, x2⟩ := A2.out.cells
        obtain ⟨b2, o2, k2, u2, hv2, p2, r2⟩ := (HRA.out.keep F2.out.bl).at (mRows_at (m := a) (n := na) (La := La) (j := x) (by omega))
        rw [mRows_len, HA1.out] at hv2
        injection hv2 with e4 e5 e6
        subst e4
        obtain ⟨a7, c7, hu7⟩ := r2.form
        rw [mRow_len] at hu7
        subst hu7
        have jx : (x : Int) < (NA : Int) := by have := HA1.out; omega
        clear e5 e6 r2 q1 q2 q3 q4
        go_upto_region 11 with fail
        clear x1 x2 p2
        go_loopg [10, 63] La (fun q2 s10 s63 wx => ∃ (c : Nat) (R2 : List Rec) (Q2 : List (List Int × (Nat × Nat))), s63 = .int .i64 (c : Int) ∧ c + q2 = La ∧ Hid (SQ D a b na nb La s t i c R2 Q2) ∧ Hid (FS w.heap.size Bm pN na nb R2 (Q2.map (·.2)) s10 w wx) ∧ Hid (Bx2 wx P x y) ∧ Hid (Q2[i]? = some p) ∧ w.heap.size ≤ wx.heap.size)
        case atStart => exact ⟨0, R, Q, rfl, by omega, HS, F2, A2, HP, hsz3⟩
        case round =>
          clear F2 A2 HS HP HR HN HRC hsz3
          obtain ⟨c, R2, Q2, rfl, hcq, HS, HF, HX, HP, hsz⟩ := hrel
          obtain ⟨a10, c10, hv10⟩ := HF.out.rs.slice
          subst hv10
          obtain ⟨n2, hn2⟩ : ∃ n2, R2.length = n2 := ⟨_, rfl⟩
          have HN := Lib.hid hn2
          rw [hn2] at HF ⊢
          rcases gk with _ | q2
          · obtain rfl : c = La := by omega
            have j0 : ¬ ((c : Int) < (c : Int)) := by omega
            have HS2 := Lib.hid (HS.out.next HP.out HDE.out)
            have hiQ2 : i + 1 ≤ Q2.length := (List.getElem?_eq_some_iff.1 HP.out).1
            have hwi : IntKind.i64.wrap ((i : Int) + 1) = ((i + 1 : Nat) : Int) := by rw [IntWalk.i64_in _ (by omega)]; omega
            clear hn2 HS
            go_wp2_with fail
            go_roundg q
            case measure => omega
            case rel => exact ⟨i + 1, R2, Q2, by go_num, by have := HIQ.out; omega, hiQ2, HS2, HF, hsz⟩
          · have hcL : c < La := by omega
            obtain ⟨x', hx'⟩ : ∃ x', a x c = x' := ⟨_, rfl⟩
            obtain ⟨y', hy'⟩ : ∃ y', b y c = y' := ⟨_, rfl⟩
            have hx2 : x' ≤ na := by rw [← hx']; exact hA x c hxa
            have hy2 : y' ≤ nb := by rw [← hy']; exact hB y c hyb
            have hsm : SmP (x', y') := ⟨by show x' ≤ 100000; omega, by show y' ≤ 100000; omega⟩
            have hks : ∀ z ∈ Q2.map (·.2), SmP z := fun z hz => by
              obtain ⟨q, hq, rfl⟩ := List.mem_map.1 hz
              have := HS.out.box q hq
              exact ⟨by show q.2.1 ≤ 100000; omega, by show q.2.2 ≤ 100000; omega⟩
            have HXA := Lib.hid (show a p.2.1 c = x' by rw [HPE.out]; exact hx')
            have HYB := Lib.hid (show b p.2.2 c = y' by rw [HPE.out]; exact hy')
            have hln := HS.out.rq.len
            have hqn : (Q2.map (·.2)).length = n2 := by rw [List.length_map]; omega
            have hn2B : n2 ≤ 5000 := by
              have h1 := HS.out.size
              rw [HA1.out, HB1.out] at h1
              have := HBD.out
              omega
            obtain ⟨x1, x2⟩ := HX.out.cells
            obtain ⟨b2, o2, k2, u2, hv2, p2, r2⟩ := (HRA.out.keep HF.out.bl).at (mRows_at (m := a) (n := na) (La := La) (j := x) (by omega))
            injection hv2 with e4 e5 e6
            injection e4 with e4
            injection e4 with e4 e7
            subst e4
            subst e7
            obtain ⟨a8, c8, hu8⟩ := r2.form
            rw [mRow_len] at hu8
            subst hu8
            obtain ⟨b8, o8, k8, hv8, p8⟩ := r2.at (mRow_at hcL)
            injection hv8 with e11 e12 e13
            subst e11
            obtain ⟨b3, o3, k3, u3, hv3, p3, r3⟩ := (HRB.out.keep HF.out.bl).at (mRows_at (m := b) (n := nb) (La := La) (j := y) (by omega))
            rw [mRows_len, HB1.out] at hv3
            injection hv3 with e14 e15 e16
            subst e14
            obtain ⟨a9, c9, hu9⟩ := r3.form
            rw [mRow_len] at hu9
            subst hu9
            obtain ⟨b9, o9, k9, hv9, p9⟩ := r3.at (mRow_at hcL)
            injection hv9 with e21 e22 e23
            subst e21
            rw [hx'] at p8
            rw [hy'] at p9
            have jy : (y : Int) < (NB : Int) := by have := HB1.out; omega
            have jc : (c : Int) < (La : Int) := by omega
            have F3 := Lib.hid (HF.out.keep hsz (below1 wr (.cells #[.int .i64 (x' : Int), .int .i64 (y' : Int)] 67)).drew)
            have X3 := Lib.hid (HX.out.keep (below1 wr (.cells #[.int .i64 (x' : Int), .int .i64 (y' : Int)] 67)).drew)
            have N3 := Lib.hid (show Bx2 (wr.alloc (.cells #[.int .i64 (x' : Int), .int .i64 (y' : Int)] 67)).drew wr.heap.size x' y' from Bx2.new wr x' y')
            have hsz3 : w.heap.size ≤ (wr.alloc (.cells #[.int .i64 (x' : Int), .int .i64 (y' : Int)] 67)).drew.heap.size := by show w.heap.size ≤ (wr.alloc _).heap.size; rw [World.size_alloc]; omega
            have kk := below1 wr (.cells #[.int .i64 0, .int .i64 0] 67)
            have x1a := cell_keep x1 kk
            have x2a := cell_keep x2 kk
            have p2a := cell_keep p2 kk
            have p3a := cell_keep p3 kk
            have p8a := cell_keep p8 kk
            have p9a := cell_keep p9 kk
            clear e5 e6 e12 e13 e15 e16 e22 e23 r2 r3 hx' hy' hn2 hln kk
            go_upto_region 13 with fail
            go_region
            clear x1a x2a p2a p3a p8a p9a x1 x2 p2 p3 p8 p9 HX
            obtain ⟨PX, hPX⟩ : ∃ PX, wr.heap.size = PX := ⟨_, rfl⟩
            rw [hPX] at N3 ⊢
            have hPX2 : w.heap.size ≤ PX := by omega
            clear hPX HF
            generalize (wr.alloc (.cells #[.int .i64 (x' : Int), .int .i64 (y' : Int)] 67)).drew = Z at *
            obtain ⟨z1, z2⟩ := N3.out.cells
            obtain ⟨n1, n3⟩ := F3.out.nw.cells
            have hneq := fun W => pairNeq x' y' na nb W
            have hgd := pairGuard
            by_cases h1 : x' = na ∧ y' = nb
            · rw [decide_eq_true h1] at hneq
              have HS2 := Lib.hid (HS.out.skip0 HP.out (show a p.2.1 c = na ∧ b p.2.2 c = nb by rw [HXA.out, HYB.out]; exact h1))
              clear h1 HS
              go_wp2_with fail
              go_roundg q2
              case measure => omega
              case rel => exact ⟨c + 1, R2, Q2, by go_num, by omega, HS2, F3, X3, HP, hsz3⟩
            · rw [decide_eq_false h1] at hneq
              have hlk := lookB (p := (x', y')) F3.out.mp hsm hks
              by_cases h2 : (x', y') ∈ Q2.map (·.2)
              · rw [decide_eq_true h2] at hlk
                have HS2 := Lib.hid (HS.out.skip1 HP.out (show ∃ q ∈ Q2, q.2 = (a p.2.1 c, b p.2.2 c) by
                  rw [HXA.out, HYB.out]
                  obtain ⟨q, hq, e⟩ := List.mem_map.1 h2
                  exact ⟨q, hq, e⟩))
                clear h1 h2 HS hks hsm
                go_wp2_with fail
                go_roundg q2
                case measure => omega
                case rel => exact ⟨c + 1, R2, Q2, by go_num, by omega, HS2, F3, X3, HP, hsz3⟩
              · rw [decide_eq_false h2] at hlk
                have hkey2 := kyP_of hsm
                have hmp := F3.out.mp
                have hrow := F3.out.rs
                unfold RecsAt at hrow
                rw [HN.out] at hrow
                have hqm : (Q2.map (·.2)).length < 9223372036854775807 := by rw [hqn]; omega
                have HS2 := Lib.hid (show SQ D a b na nb La s t i (c + 1) (R2 ++ [(x', y', i, c)]) (Q2 ++ [(p.1 ++ [(c : Int)], (x', y'))]) by
                  have h := HS.out.add hcL hA hB HP.out (by rw [HXA.out, HYB.out]; exact h1) (by
                    rw [HXA.out, HYB.out]
                    exact fun q hq e => h2 (List.mem_map.2 ⟨q, hq, e⟩))
                  rw [HXA.out, HYB.out] at h
                  exact h)
                have HP2 := Lib.hid (show (Q2 ++ [(p.1 ++ [(c : Int)], (x', y'))])[i]? = some p by
                  rw [List.getElem?_append_left (List.getElem?_eq_some_iff.1 HP.out).1]; exact HP.out)
                clear h1 h2 HS hks
                go_wp2_with (first
                  | (at_mapUpdate; refine wpList_mapUpdate_own _ rfl _ _ _ 90 rfl 67 4 Tryz.keyLawP Tryz.underlying90 _ Bm (Q2.map (·.2)).length _ rfl hmp (by unfold maxLen; omega) _ _ _ rfl rfl hkey2 _ [] (plainElem_bool Tryz.underlying4 true) ?_; intro w1 hown1 hgrow1; (have N4 := N3.out.grown hgrow1 (N3.out.ne_map hmp)); (obtain ⟨y1, y2⟩ := N4.cells); (have hrow1 := World.ownsRow.kept hrow hgrow1 (.inr (fun e => by obtain ⟨cc, fr, h⟩ := row_cellsH hrow e; exact map_not_cellsH hmp h))); (have hs1 := hgrow1.size))
                  | (at_builtin; refine wpList_append_own_at _ rfl _ _ 89 rfl w.heap.size 88 i0 (.agg #[.int .i64 0, .int .i64 0, .int .i64 0, .int .i64 0]) 4 32 Tryz.underlying89 hi hz0 hz1 hz2 rfl (by decide) _ _ _ rfl (hrow1.alloc _) ⟨w1.heap.size, 0, none⟩ 1 1 [.int .i64 (x' : Int), .int .i64 (y' : Int), .int .i64 (i : Int), .int .i64 (c : Int)] rfl rfl (cell_four_new _ _ _ _ _ _) (by intro u hu; simp at hu; rcases hu with rfl | rfl | rfl | rfl <;> rfl) (by unfold maxLen; omega) (by omega) (by rw [World.size_alloc]; omega) ?_; intro v' w4 hown4 hgrow4 hnil4 hloc4))
                go_roundg q2
                case measure => omega
                case rel =>
                  have hr1 : w1.ownsRow w.heap.size 88 4 (.slice a10 n2 c10) R2.length (rcl R2) := by rw [HN.out]; exact hrow1
                  have hF := F3.out.put (r := (x', y', i, c)) (x := (x', y')) hsz3 hown1 hgrow1 hr1 (by rw [HN.out]; exact hown4) hgrow4
                  have g1 : Bx2 w1 P x y := X3.out.grown hgrow1 (X3.out.ne_map hmp)
                  have g2 : Bx2 (w1.alloc (.cells #[.int .i64 (x' : Int), .int .i64 (y' : Int), .int .i64 (i : Int), .int .i64 (c : Int)] 88)) P x y := g1.keep (below1 w1 _)
                  have hX : Bx2 w4 P x y := g2.grown hgrow4 (g2.ne_row (hrow1.alloc _))
                  exact ⟨c + 1, _, _, by go_num, by omega, HS2, Lib.hid (by rw [List.map_append]; exact hF), Lib.hid hX, HP2, by have h1 := hgrow1.size; have h4 := hgrow4.size; rw [World.size_alloc] at h4; omega⟩
    · obtain rfl : i = n := by omega
      have j0 : ¬ ((i : Int) < (i : Int)) := by omega
      have HW := Lib.hid (HS.out.none (by omega) hD0 ha0 hb0)
      have HBB := Lib.hid HF.out.bl
      clear HS HF hn hnQ hlen hsize hiq
      go_wp2_with fail
      exact bodyPost_ret (v := .tuple #[.slice none 0 0, .bool false]) (by simp [results, Tryz.results40, go_sem]) rfl ⟨none, 0, [], false, rfl, (ints_nil _ 0).rd, HW.out, HBB.out⟩
end Go.Proofs.YtiockphjnkehnaaGreatDoor
