/- What graph.read returns. Conditions: at most 65536 bytes; the library's variables read as LG says. -/
import Derived.Test.YtoekemfgmdbnbaaDoorVyc
import Derived.Test.YtoekemfgmdbnbaaDoorVk
import Derived.Test.YtoekemfgmdbnbaaDoorVua
import Derived.Deep.RegionHeld3
namespace Go.Proofs.YtoekemfgmdbnbaaDoor
open Go.RowKit
set_option linter.unusedSimpArgs false
set_option linter.unusedVariables false

/-- What read returns. -/
def RdG (w : World) (s : List UInt8) (e : Ending) (w' : World) : Prop := ∃ (L S : Int) (v : Value) (b : Bool), e = .returned (.tuple #[grV L S v, .bool b]) ∧ Below w.heap.size w w' ∧
  ((b = true ∧ ∃ (l n : Nat) (es : List E3), L = (l : Int) ∧ S = (n : Int) ∧ Tells s l n es ∧ EdgesAt w' w.heap.size v es) ∨ (b = false ∧ L = 0 ∧ S = 0 ∧ v = .slice none 0 0 ∧ ∀ L n es, ¬ Tells s L n es))
theorem jn_count {c : UInt8} : ∀ (ps : List (List UInt8)), ps.length ≤ (jn c ps).length + 1
  | [] => Nat.zero_le _
  | [a] => by simp
  | a :: b :: r => by
    have := jn_count (c := c) (b :: r)
    rw [jn_two, List.length_append]
    simp only [List.length_cons] at this ⊢
    omega
theorem boxF_lowY {W W' : World} {M p : Nat} {L S : Int} {v : Value} (h : BoxF W p L S v) (hp : p < M) (hb : Below M W W') : BoxF W' p L S v :=
  ⟨⟨(hb.cell (p := ⟨p, 0, none⟩) hp).trans h.1.1, (hb.cell (p := ⟨p, 1, none⟩) hp).trans h.1.2.1, (hb.cell (p := ⟨p, 2, none⟩) hp).trans h.1.2.2⟩, (World.frozen?_of_block (hb.block _ hp)).trans h.2.1, (World.frozen?_of_block (hb.block _ hp)).trans h.2.2.1, (World.frozen?_of_block (hb.block _ hp)).trans h.2.2.2⟩
theorem rdN_yes {line : List UInt8} {k : Nat} {w : World} (hk : k ≤ 1000) (hl : line.length ≤ 65536) (h : LG w) (hok : ¬ ∀ ps, Parts 32 line ps → ¬ (ps.length = k ∧ ∀ p ∈ ps, NumP p)) :
    Calls Tryd.prog 32 #[.string ⟨line.toArray⟩, .int .i64 (k : Int)] w fun e w' => ∃ (ps : List (List UInt8)) (R : Nat), e = .returned (.tuple #[.slice (some ⟨R, 0, none⟩) k k, .bool true]) ∧ Below w.heap.size w w' ∧ Parts 32 line ps ∧ ps.length = k ∧ (∀ p ∈ ps, NumP p) ∧ IRow w' R k (fun i => valP (ps.getD i [])) := by
  refine (rdN_any line k hk hl w h).mono ?_
  rintro e w' ⟨hb, ⟨ps, R, he, h1, h2, h3, h4⟩ | ⟨-, h1⟩⟩
  · exact ⟨ps, R, he, hb, h1, h2, h3, h4⟩
  · exact absurd h1 hok
theorem rdN_no {line : List UInt8} {k : Nat} {w : World} (hk : k ≤ 1000) (hl : line.length ≤ 65536) (h : LG w) (hno : ∀ ps, Parts 32 line ps → ¬ (ps.length = k ∧ ∀ p ∈ ps, NumP p)) :
    Calls Tryd.prog 32 #[.string ⟨line.toArray⟩, .int .i64 (k : Int)] w fun e w' => e = .returned (.tuple #[.slice none 0 0, .bool false]) ∧ Below w.heap.size w w' := by
  refine (rdN_any line k hk hl w h).mono ?_
  rintro e w' ⟨hb, ⟨ps, R, -, h1, h2, h3, -⟩ | ⟨he, -⟩⟩
  · exact absurd ⟨h2, h3⟩ (hno ps h1)
  · exact ⟨he, hb⟩
theorem gph_bytes : (⟨#[103, 114, 97, 112, 104, 32]⟩ : ByteArray).data.toList = gph := rfl
set_option maxRecDepth 100000 in
set_option maxHeartbeats 6400000 in
theorem read_any (s : List UInt8) (hs : s.length ≤ 65536) (w : World) (h : LG w) :
    Calls Tryd.prog 19 #[.string ⟨s.toArray⟩] w (RdG w s) := by
  have hsz : (⟨s.toArray⟩ : ByteArray).size = s.length := rfl
  have HCS := Lib.hid (fun W => Tryd.strings_CutSuffix ⟨s.toArray⟩ ⟨#[10]⟩ W (by rw [hsz]; omega))
  have b1 := below1 w (.cells #[.int .i64 0, .int .i64 0, .slice none 0 0] 24)
  have R1 := Lib.hid (BoxF.new w 0 0 (.slice none 0 0) 24)
  have hZ1 := World.size_alloc w (.cells #[.int .i64 0, .int .i64 0, .slice none 0 0] 24)
  have B1 := Lib.hid b1
  have HLW := Lib.hid h
  obtain ⟨W1, hW1⟩ : ∃ W1, w.alloc (.cells #[.int .i64 0, .int .i64 0, .slice none 0 0] 24) = W1 := ⟨_, rfl⟩
  rw [hW1] at R1 B1 hZ1
  have HW1 := Lib.hid hW1
  clear b1 hW1 h
  obtain ⟨whole, hwh⟩ : ∃ whole, Lib.trimSuffix s [10] = whole := ⟨_, rfl⟩
  obtain ⟨⟨r1, r2, r3⟩, r4, r5, r6⟩ := id R1.out
  cases hsu : Lib.hasSuffix s [10] with
  | false =>
    have HE := Lib.hid (fun L n es => tells_suf (L := L) (n := n) (es := es) hsu)
    simp only [hwh, hsu] at HCS
    clear hsu
    go_enter Tryd.func19, Tryd.ntmps19
    go_upto_region 1 with fail
    rw [HW1.out]
    go_wp2_with (go_at_call 29; (with_reducible refine (HCS.out _).mono ?_); rintro e W2 ⟨rfl, rfl⟩)
    exact bodyPost_ret (v := .tuple #[grV 0 0 (.slice none 0 0), .bool false]) (by simp [results, Tryd.results19, go_sem, r1, r2, r3]) rfl
      ⟨_, _, _, _, rfl, below_over B1.out (Nat.le_refl _) _ _ _, .inr ⟨rfl, rfl, rfl, rfl, HE.out⟩⟩
  | true =>
    have hw : whole ++ [10] = s := by rw [← hwh]; exact suf_yes hsu
    have hwl : whole.length ≤ 65536 := by have := congrArg List.length hw; rw [List.length_append] at this; omega
    have HWH := Lib.hid hw
    simp only [hwh, hsu] at HCS
    obtain ⟨m, hm⟩ := (HLW.out.keep B1.out).m
    obtain ⟨ls, hls, hmap, hlen⟩ := Parts.splitB 10 whole
    have hsw : (⟨whole.toArray⟩ : ByteArray).size = whole.length := rfl
    have HSP := Lib.hid (Tryd.strings_Split ⟨whole.toArray⟩ ⟨#[10]⟩ m W1 (by rw [hsw]; omega) hm (by decide))
    rw [hmap, ← hlen] at HSP
    have HS := Lib.hid (StrsR.new W1 ls 9)
    have b2 := below1 W1 (.cells (ls.map (fun p => Value.string ⟨p.toArray⟩)).toArray 9)
    have R2 := Lib.hid (R1.out.keep b2)
    have B2 := Lib.hid (below_more B1.out (Nat.le_refl _) b2)
    have HZ2 := Lib.hid (World.size_alloc W1 (.cells (ls.map (fun p => Value.string ⟨p.toArray⟩)).toArray 9))
    obtain ⟨W2, hW2⟩ : ∃ W2, W1.alloc (.cells (ls.map (fun p => Value.string ⟨p.toArray⟩)).toArray 9) = W2 := ⟨_, rfl⟩
    obtain ⟨P, hP⟩ : ∃ P, W1.heap.size = P := ⟨_, rfl⟩
    rw [hW2] at HSP HS R2 B2 HZ2
    rw [hP] at HSP HS HZ2
    obtain ⟨n, hn⟩ : ∃ n, ls.length = n := ⟨_, rfl⟩
    rw [hn] at HSP
    have HN := Lib.hid hn
    have HLS := Lib.hid hls
    obtain ⟨first, hf⟩ : ∃ f, ls[0]? = some f := by
      rcases ls with _ | ⟨f, r⟩
      · exact absurd rfl hls.ne
      · exact ⟨f, rfl⟩
    have HF := Lib.hid hf
    have j0 : (0 : Int) < (n : Int) := by
      have := (List.getElem?_eq_some_iff.1 hf).1
      omega
    have c0 := HS.out 0 first hf
    have hll : ∀ p ∈ ls, p.length ≤ 65536 := fun p hp => by
      have := jn_mem_len (c := 10) ls p hp
      rw [hls.all] at this
      omega
    have HLL := Lib.hid hll
    have HNL := Lib.hid (show ls.length ≤ 65537 by have := jn_count (c := 10) ls; rw [hls.all] at this; omega)
    obtain ⟨rest, hrest⟩ : ∃ rest, Lib.trimPrefix first gph = rest := ⟨_, rfl⟩
    have HCP := Lib.hid (fun W => Tryd.strings_CutPrefix ⟨first.toArray⟩ ⟨#[103, 114, 97, 112, 104, 32]⟩ W)
    simp only [gph_bytes, hrest] at HCP
    obtain ⟨⟨q1, q2, q3⟩, q4, q5, q6⟩ := id R2.out
    have HRF := Lib.hid hrest
    clear r1 r2 r3 r4 r5 r6
    have HP := Lib.hid hP
    clear hwh hsu hm hmap hlen b2 hW2 hP hn hf hll hls hrest hw
    cases hpr : Lib.hasPrefix first gph with
    | false =>
      have HE := Lib.hid (fun L n es => tells_pre (L := L) (n := n) (es := es) HWH.out HLS.out HF.out hpr)
      rw [hpr] at HCP
      clear hpr
      have r1 := q1
      have r2 := q2
      have r3 := q3
      go_enter Tryd.func19, Tryd.ntmps19
      go_upto_region 1 with fail
      rw [HW1.out]
      go_wp2_with (first
        | (go_at_call 29; (with_reducible refine (HCS.out _).mono ?_); rintro e W4 ⟨rfl, rfl⟩)
        | (go_at_call 30; (with_reducible refine HSP.out.mono ?_); rintro e W5 ⟨rfl, rfl⟩)
        | (go_at_call 31; (with_reducible refine (HCP.out _).mono ?_); rintro e W6 ⟨rfl, rfl⟩))
      exact bodyPost_ret (v := .tuple #[grV 0 0 (.slice none 0 0), .bool false]) (by simp [results, Tryd.results19, go_sem, r1, r2, r3]) rfl
        ⟨_, _, _, _, rfl, below_over B2.out (Nat.le_refl _) _ _ _, .inr ⟨rfl, rfl, rfl, rfl, HE.out⟩⟩
    | true =>
      have HPR := Lib.hid (show gph ++ rest = first by rw [← HRF.out]; exact pre_yes hpr)
      rw [hpr] at HCP
      have hrl : rest.length ≤ 65536 := by have := congrArg List.length HPR.out; rw [List.length_append] at this; have := HLL.out first (List.mem_of_getElem? HF.out); omega
      clear hpr
      by_cases hno : ∀ ps, Parts 32 rest ps → ¬ (ps.length = 2 ∧ ∀ p ∈ ps, NumP p)
      · have HE := Lib.hid (fun L n es => tells_two (L := L) (n := n) (es := es) HWH.out HLS.out HF.out HPR.out hno)
        have HRD := Lib.hid (rdN_no (by omega) hrl (HLW.out.keep B2.out) hno)
        rw [show ((2 : Nat) : Int) = 2 from rfl] at HRD
        clear hno hrl
        go_enter Tryd.func19, Tryd.ntmps19
        go_upto_region 1 with fail
        rw [HW1.out]
        go_wp2_with (first
          | (go_at_call 29; (with_reducible refine (HCS.out _).mono ?_); rintro e W4 ⟨rfl, rfl⟩)
          | (go_at_call 30; (with_reducible refine HSP.out.mono ?_); rintro e W5 ⟨rfl, rfl⟩)
          | (go_at_call 31; (with_reducible refine (HCP.out _).mono ?_); rintro e W6 ⟨rfl, rfl⟩)
          | (go_at_call 32; (with_reducible refine HRD.out.mono ?_); rintro e W7 ⟨rfl, b7⟩; (have B7 := Lib.hid (below_more B2.out (Nat.le_refl _) b7)); (obtain ⟨⟨r1, r2, r3⟩, r4, r5, r6⟩ := id (R2.out.keep b7)); (clear b7)))
        exact bodyPost_ret (v := .tuple #[grV 0 0 (.slice none 0 0), .bool false]) (by simp [results, Tryd.results19, go_sem, r1, r2, r3]) rfl
          ⟨_, _, _, _, rfl, below_over B7.out (Nat.le_refl _) _ _ _, .inr ⟨rfl, rfl, rfl, rfl, HE.out⟩⟩
      · have HRD := Lib.hid (rdN_yes (by omega) hrl (HLW.out.keep B2.out) hno)
        rw [show ((2 : Nat) : Int) = 2 from rfl] at HRD
        clear hno hrl
        go_enter Tryd.func19, Tryd.ntmps19
        go_upto_region 1 with fail
        rw [HW1.out]
        go_upto_region 11 with (first
          | (go_at_call 29; (with_reducible refine (HCS.out _).mono ?_); rintro e W4 ⟨rfl, rfl⟩)
          | (go_at_call 30; (with_reducible refine HSP.out.mono ?_); rintro e W5 ⟨rfl, rfl⟩)
          | (go_at_call 31; (with_reducible refine (HCP.out _).mono ?_); rintro e W6 ⟨rfl, rfl⟩)
          | (go_at_call 32; (with_reducible refine HRD.out.mono ?_); rintro e W7 ⟨ps, R, rfl, b7, y1, y2, y3, y4⟩; (have B7 := Lib.hid (below_more B2.out (Nat.le_refl _) b7)); (have R7 := Lib.hid (R2.out.keep b7)); (have S7 := Lib.hid (HS.out.keep b7)); (have Y4 := Lib.hid y4); (obtain ⟨Ln, nn, hLn, hnn, z1, z2, z3⟩ := nums_two y1 y2 y3); (clear b7 y1 y2 y3 y4)))
        have k0 : W7.cell? ⟨R, 0, none⟩ = some (.int .i64 (Ln : Int)) := by have h1 := Y4.out.cell (i := 0) (by omega); rw [z2] at h1; exact h1
        have k1 : W7.cell? ⟨R, 1, none⟩ = some (.int .i64 (nn : Int)) := by have h1 := Y4.out.cell (i := 1) (by omega); rw [z3] at h1; exact h1
        have HZ1 := Lib.hid z1
        clear z1 z2 z3 Y4
        go_cut [9] (fun s9 wx => ∃ G, s9 = .pointer (some ⟨G, 0, none⟩) ∧ W7.heap.size ≤ G ∧ BoxF wx G (Ln : Int) (nn : Int) (.slice none 0 0) ∧ Below W7.heap.size W7 wx)
        case first =>
          go_region_held3 (fun W => W.cell? ⟨R, 0, none⟩ = some (.int .i64 (Ln : Int)) ∧ W.cell? ⟨R, 1, none⟩ = some (.int .i64 (nn : Int))) (first | exact ⟨k0, k1⟩ | go_keep) (fail)
          all_goals
            go_wp2_with fail
            go_meet
            exact ⟨_, rfl, Nat.le_refl _, BoxF.new W7 _ _ _ _, (below1 W7 _).drew⟩
        case rest =>
          obtain ⟨G, rfl, hG, hGB, hb⟩ := hcut
          have hGL := World.block_lt_of_cell? _ _ hGB.1.1
          dsimp only at hGL
          have RX := Lib.hid (R7.out.keep hb)
          have SX := Lib.hid (S7.out.keep hb)
          have BX := Lib.hid (below_more B7.out (Nat.le_refl _) hb)
          have GX := Lib.hid hGB
          have hPG : P < G ∧ w.heap.size < G := by
            have h1 := B7.out.size
            have h2 := HZ2.out
            have h3 := World.block_lt_of_cell? _ _ (S7.out 0 first HF.out)
            have h4 := World.block_lt_of_cell? _ _ R7.out.1.1
            dsimp only at h3 h4
            omega
          have HM := Lib.hid hPG
          obtain ⟨c, hc⟩ : ∃ c, n = c + 1 := ⟨n - 1, by omega⟩
          clear hb hGB hG k0 k1 R7 S7 B7 HZ2 hPG
          subst hc
          go_upto_region 12 with fail
          go_cut [50, 51, 52] (fun s50 s51 s52 wx => wx = wc ∧ s51 = .int .i64 (c : Int) ∧ s52 = .int .i64 0 ∧ ∃ off : Nat, s50 = .slice (some ⟨P, off, none⟩) c c ∧ (c ≠ 0 → off = 1))
          case first =>
            by_cases h0 : c = 0
            · subst h0
              go_wp2_with fail
              go_meet
              exact ⟨rfl, rfl, rfl, _, rfl, fun h => absurd rfl h⟩
            · have j1 : ¬ (c + 1 = 1) := by omega
              have j2 : (1 : Int) ≤ ((c + 1 : Nat) : Int) := by omega
              go_wp2_with fail
              go_meet
              exact ⟨rfl, rfl, rfl, 1, rfl, fun _ => rfl⟩
          case rest =>
            obtain ⟨rfl, rfl, rfl, off, rfl, hoff⟩ := hcut
            go_wp2_with fail
            go_loopg [11, 12, 13, 52] c (fun q s11 s12 s13 s52 wx => ∃ (i : Nat) (es : List E3) (u : Value), i + q = c ∧ s52 = .int .i64 (i : Int) ∧ es.length = i ∧ Hid (∀ j e, es[j]? = some e → ls[j + 1]? = some (lnE e) ∧ SmE e) ∧ EdgesAt wx (G + 1) u es ∧ BoxF wx G (Ln : Int) (nn : Int) u ∧ BoxF wx w.heap.size 0 0 (.slice none 0 0) ∧ StrsR wx P ls ∧ Below w.heap.size w wx ∧ G < wx.heap.size)
            case atStart => exact ⟨0, [], _, by omega, rfl, rfl, Lib.hid (fun j e he => by simp at he), edges_nil _ _, GX.out, RX.out, SX.out, BX.out, hGL⟩
            case round =>
              clear GX RX SX BX hGL
              obtain ⟨i, es, u, hiq, rfl, hel, HA, hE, hG, hR, hS, hb, hGL⟩ := hrel
              rcases gk with _ | q
              · have hic : i = c := by omega
                have HT := Lib.hid (show Tells s Ln nn es from tells_yes HWH.out HLS.out (rest := jnT [Ln, nn]) (List.ext_getElem? (fun j => by
                  rcases j with _ | j
                  · rw [HF.out, ← HPR.out, HZ1.out]; rfl
                  · rw [List.getElem?_cons_succ, List.getElem?_map]
                    rcases Nat.lt_or_ge j es.length with hj | hj
                    · have he := List.getElem?_eq_getElem hj
                      rw [(HA.out j _ he).1, he]; rfl
                    · rw [List.getElem?_eq_none (by have := HN.out; omega), List.getElem?_eq_none hj]; rfl)) rfl hLn hnn (fun e he => by
                  obtain ⟨j, hj⟩ := List.getElem?_of_mem he
                  exact (HA.out j e hj).2))
                obtain ⟨au, cu, rfl⟩ := hE.slice
                obtain ⟨⟨r1, r2, r3⟩, r4, r5, r6⟩ := id hR
                obtain ⟨⟨o1, o2, o3⟩, -⟩ := id hG
                have HEE := Lib.hid hE
                rw [hel] at HEE o3
                subst hic
                clear hE hG hR hS
                go_wp2_with fail
                exact bodyPost_ret (v := .tuple #[grV (Ln : Int) (nn : Int) (.slice au i cu), .bool true]) (by simp [results, Tryd.results19, go_sem, r1, r2, r3]) rfl
                  ⟨_, _, _, _, rfl, below_over hb (Nat.le_refl _) _ _ _, .inl ⟨rfl, Ln, nn, es, rfl, rfl, HT.out, edges_over (by rw [hel] at *; exact HEE.out) (show w.heap.size < G + 1 by have := HM.out.2; omega) _ _ _ (by have := HM.out.2; omega)⟩⟩
              · obtain ⟨line, hline⟩ : ∃ l, ls[i + 1]? = some l := ⟨_, List.getElem?_eq_getElem (by have := HN.out; omega)⟩
                obtain rfl := hoff (by omega)
                have hc1 := hS (i + 1) line hline
                have hc2 : wr.cell? ⟨P, 1 + i, none⟩ = some (.string ⟨line.toArray⟩) := by rw [Nat.add_comm]; exact hc1
                have hll := HLL.out line (List.mem_of_getElem? hline)
                have j1 : (i : Int) < (c : Int) := by omega
                have HLI := Lib.hid hline
                have HE0 := Lib.hid hE
                have HG0 := Lib.hid hG
                have HR0 := Lib.hid hR
                have HS0 := Lib.hid hS
                have HB0 := Lib.hid hb
                have HEL := Lib.hid hel
                have HIQ := Lib.hid hiq
                have hL := HLW.out.keep hb
                by_cases hno : ∀ ps, Parts 32 line ps → ¬ (ps.length = 3 ∧ ∀ p ∈ ps, NumP p)
                · have HE := Lib.hid (fun L n es => tells_three (L := L) (n := n) (es := es) HWH.out HLS.out HLI.out hno)
                  have HRD2 := Lib.hid (rdN_no (by omega) hll hL hno)
                  rw [show ((3 : Nat) : Int) = 3 from rfl] at HRD2
                  clear hno hll hL hline hE hG hR hS hb hc1 hel
                  go_wp2_with (go_at_call 32; (with_reducible refine HRD2.out.mono ?_); rintro e W8 ⟨rfl, b8⟩; (have B8 := Lib.hid (below_more HB0.out (Nat.le_refl _) b8)); (obtain ⟨⟨r1, r2, r3⟩, r4, r5, r6⟩ := id (HR0.out.keep b8)); (clear b8))
                  exact bodyPost_ret (v := .tuple #[grV 0 0 (.slice none 0 0), .bool false]) (by simp [results, Tryd.results19, go_sem, r1, r2, r3]) rfl
                    ⟨_, _, _, _, rfl, below_over B8.out (Nat.le_refl _) _ _ _, .inr ⟨rfl, rfl, rfl, rfl, HE.out⟩⟩
                · have HRD2 := Lib.hid (rdN_yes (by omega) hll hL hno)
                  rw [show ((3 : Nat) : Int) = 3 from rfl] at HRD2
                  clear hno hll hL hline hE hG hR hS hb hc1 hel
                  go_upto_region 18 with (go_at_call 32; (with_reducible refine HRD2.out.mono ?_); rintro e W8 ⟨qs, R8, rfl, b8, y1, y2, y3, y4⟩; (have B8 := Lib.hid (below_more HB0.out (Nat.le_refl _) b8)); (have R8' := Lib.hid (HR0.out.keep b8)); (have S8 := Lib.hid (HS0.out.keep b8)); (have E8 := Lib.hid (HE0.out.keep b8)); (have G8 := Lib.hid (HG0.out.keep b8)); (have Z8 := Lib.hid b8.size); (have Y4 := Lib.hid y4); (obtain ⟨e8, hs8, hl8, z1, z2, z3⟩ := nums_three y1 y2 y3); (clear b8 y1 y2 y3 y4))
                  have k0 : W8.cell? ⟨R8, 0, none⟩ = some (.int .i64 e8.1) := by have h1 := Y4.out.cell (i := 0) (by omega); rw [z1] at h1; exact h1
                  have k1 : W8.cell? ⟨R8, 1, none⟩ = some (.int .i64 e8.2.1) := by have h1 := Y4.out.cell (i := 1) (by omega); rw [z2] at h1; exact h1
                  have k2 : W8.cell? ⟨R8, 2, none⟩ = some (.int .i64 e8.2.2) := by have h1 := Y4.out.cell (i := 2) (by omega); rw [z3] at h1; exact h1
                  have HA2 := Lib.hid (show ∀ j e, (es ++ [e8])[j]? = some e → ls[j + 1]? = some (lnE e) ∧ SmE e from fun j e he => by
                    rcases Nat.lt_or_ge j es.length with hj | hj
                    · rw [List.getElem?_append_left hj] at he
                      exact HA.out j e he
                    · rw [List.getElem?_append_right hj] at he
                      obtain h0 : j - es.length = 0 := by
                        rcases Nat.eq_zero_or_pos (j - es.length) with h | h
                        · exact h
                        · rw [List.getElem?_eq_none (by show [_].length ≤ _; simp only [List.length_singleton]; omega)] at he; cases he
                      rw [h0] at he
                      injection he with he
                      subst he
                      rw [show j = i by have := HEL.out; omega, HLI.out, hl8]
                      exact ⟨rfl, hs8⟩)
                  have HK := Lib.hid (show ∀ wx, Below W8.heap.size W8 wx → wx.cell? ⟨R8, 0, none⟩ = some (.int .i64 e8.1) ∧ wx.cell? ⟨R8, 1, none⟩ = some (.int .i64 e8.2.1) ∧ wx.cell? ⟨R8, 2, none⟩ = some (.int .i64 e8.2.2) ∧ BoxF wx G (Ln : Int) (nn : Int) u ∧ EdgesAt wx (G + 1) u es from fun wx h => ⟨cell_keep k0 h, cell_keep k1 h, cell_keep k2 h, G8.out.keep h, E8.out.keep h⟩)
                  have hel2 : es.length ≤ 99999 := by have := HEL.out; have := HN.out; have := HNL.out; omega
                  have hGW1 : G + 1 ≤ W8.heap.size := Nat.le_trans hGL Z8.out
                  have hGW : G ≤ W8.heap.size := by omega
                  have hmx : Tryd.prog.follows .mixedOrders = true := by kernel_rfl
                  have KB : Below W8.heap.size W8 W8.drew := (Below.refl _ _).drew
                  obtain ⟨x, y, z⟩ := e8
                  dsimp only at HK
                  clear k0 k1 k2 z1 z2 z3 Y4 hs8 hl8 HA HE0 HG0 HR0 HS0
                  refine region_inv' (J := (fun Ls act wx => ∃ u64 u65 u66 u67 u68 u69 u70 u71 u72 u73 u74 u75 u76 u77 u78, act = { tmps := #[.string ⟨s.toArray⟩, undef, .pointer (some ⟨w.heap.size, 0, none⟩), u3, .string ⟨whole.toArray⟩, .bool true, .slice (some ⟨P, 0, none⟩) (c + 1) (c + 1), .string ⟨(jnT [Ln, nn]).toArray⟩, .slice (some ⟨R, 0, none⟩) 2 2, .pointer (some ⟨G, 0, none⟩), undef, .string ⟨(lnE (x, y, z)).toArray⟩, .slice (some ⟨R8, 0, none⟩) 3 3, .bool true, u14, u15, u16, u17, u18, u19, u20, u21, u22, u23, u24, u25, u26, u27, u28, u29, u30, u31, u32, u33, u34, u35, u36, u37, u38, u39, u40, u41, u42, u43, u44, u45, u46, u47, u48, u49, .slice (some ⟨P, 1, none⟩) c c, .int .i64 (c : Int), .int .i64 (i : Int), .bool true, .pointer (some ⟨P, 1 + i, none⟩), .string ⟨(lnE (x, y, z)).toArray⟩, .tuple #[.slice (some ⟨R8, 0, none⟩) 3 3, .bool true], .string ⟨(lnE (x, y, z)).toArray⟩, .tuple #[.slice (some ⟨R8, 0, none⟩) 3 3, .bool true], .slice (some ⟨R8, 0, none⟩) 3 3, .bool true, .bool true, .bool false, u63, u64, u65, u66, u67, u68, u69, u70, u71, u72, u73, u74, u75, u76, u77, u78, u79, u80], defers := [] } ∧ Below G W8 wx ∧
                        (Ls.getD 0 false = true → u64 = .pointer (some ⟨G, 2, none⟩)) ∧ (Ls.getD 1 false = true → u65 = u) ∧ (Ls.getD 2 false = true → u66 = .slice (some ⟨R8, 0, none⟩) 3 3) ∧ (Ls.getD 3 false = true → u67 = .pointer (some ⟨R8, 0, none⟩)) ∧ (Ls.getD 4 false = true → u68 = .int .i64 x) ∧ (Ls.getD 5 false = true → u69 = .slice (some ⟨R8, 0, none⟩) 3 3) ∧ (Ls.getD 6 false = true → u70 = .pointer (some ⟨R8, 1, none⟩)) ∧ (Ls.getD 7 false = true → u71 = .int .i64 y) ∧ (Ls.getD 8 false = true → u72 = .slice (some ⟨R8, 0, none⟩) 3 3) ∧ (Ls.getD 9 false = true → u73 = .pointer (some ⟨R8, 2, none⟩)) ∧ (Ls.getD 10 false = true → u74 = .int .i64 z) ∧ (Ls.getD 11 false = true → u75 = .agg #[.int .i64 x, .int .i64 y, .int .i64 z]) ∧ (Ls.getD 12 false = true → Ls.getD 13 false = false → OneE wx W8.heap.size u76 (x, y, z)) ∧ (Ls.getD 13 false = true → Ls.getD 15 false = false → EdgesAt wx (G + 1) u77 (es ++ [(x, y, z)]) ∧ BoxF wx G (Ln : Int) (nn : Int) u) ∧ (Ls.getD 14 false = true → u78 = .pointer (some ⟨G, 2, none⟩)) ∧ (Ls.getD 15 false = true → EdgesAt wx (G + 1) u77 (es ++ [(x, y, z)]) ∧ BoxF wx G (Ln : Int) (nn : Int) u77) ∧ (Ls.getD 13 false = false → Below W8.heap.size W8 wx) ∧ (Ls.getD 11 false = true → Ls.getD 4 false = true) ∧ (Ls.getD 11 false = true → Ls.getD 7 false = true) ∧ (Ls.getD 11 false = true → Ls.getD 10 false = true) ∧ (Ls.getD 12 false = true → Ls.getD 4 false = true) ∧ (Ls.getD 12 false = true → Ls.getD 7 false = true) ∧ (Ls.getD 12 false = true → Ls.getD 10 false = true) ∧ (Ls.getD 13 false = true → Ls.getD 1 false = true) ∧ (Ls.getD 13 false = true → Ls.getD 4 false = true) ∧ (Ls.getD 13 false = true → Ls.getD 7 false = true) ∧ (Ls.getD 13 false = true → Ls.getD 10 false = true) ∧ (Ls.getD 15 false = true → Ls.getD 13 false = true) ∧ Ls.size = 16)) hmx (by kernel_rfl) ?_ ?_ ?_
                  · exact ⟨u64, u65, u66, u67, u68, u69, u70, u71, u72, u73, u74, u75, u76, u77, u78, rfl, KB.mono (by omega), fun h => absurd h (by decide), fun h => absurd h (by decide), fun h => absurd h (by decide), fun h => absurd h (by decide), fun h => absurd h (by decide), fun h => absurd h (by decide), fun h => absurd h (by decide), fun h => absurd h (by decide), fun h => absurd h (by decide), fun h => absurd h (by decide), fun h => absurd h (by decide), fun h => absurd h (by decide), fun h => absurd h (by decide), fun h => absurd h (by decide), fun h => absurd h (by decide), fun h => absurd h (by decide), fun _ => KB, fun h => absurd h (by decide), fun h => absurd h (by decide), fun h => absurd h (by decide), fun h => absurd h (by decide), fun h => absurd h (by decide), fun h => absurd h (by decide), fun h => absurd h (by decide), fun h => absurd h (by decide), fun h => absurd h (by decide), fun h => absurd h (by decide), fun h => absurd h (by decide), rfl⟩
                  · intro i' hi Ls act wx hl hw ⟨u64, u65, u66, u67, u68, u69, u70, u71, u72, u73, u74, u75, u76, u77, u78, ha, lo, c0, c1, c2, c3, c4, c5, c6, c7, c8, c9, c10, c11, c12, c13, c14, c15, kl, k11_4, k11_7, k11_10, k12_4, k12_7, k12_10, k13_1, k13_4, k13_7, k13_10, k15_13, hz⟩
                    subst ha
                    clear KB
                    have hzw := lo.size
                    have hi' : i' = 0 ∨ i' = 1 ∨ i' = 2 ∨ i' = 3 ∨ i' = 4 ∨ i' = 5 ∨ i' = 6 ∨ i' = 7 ∨ i' = 8 ∨ i' = 9 ∨ i' = 10 ∨ i' = 11 ∨ i' = 12 ∨ i' = 13 ∨ i' = 14 ∨ i' = 15 := by
                      have : i' < 16 := hi
                      omega
                    rcases hi' with rfl | rfl | rfl | rfl | rfl | rfl | rfl | rfl | rfl | rfl | rfl | rfl | rfl | rfl | rfl | rfl
                    · refine stepJ (i := 0) rfl (fun K hK => ?_)
                      go_simp
                      refine hK.out _ _ ⟨_, u65, u66, u67, u68, u69, u70, u71, u72, u73, u74, u75, u76, u77, u78, rfl, lo, fun _ => rfl, fun h => c1 (fl (by decide) h), fun h => c2 (fl (by decide) h), fun h => c3 (fl (by decide) h), fun h => c4 (fl (by decide) h), fun h => c5 (fl (by decide) h), fun h => c6 (fl (by decide) h), fun h => c7 (fl (by decide) h), fun h => c8 (fl (by decide) h), fun h => c9 (fl (by decide) h), fun h => c10 (fl (by decide) h), fun h => c11 (fl (by decide) h), fun h h' => (c12 (fl (by decide) h) (ff (by decide) h')), fun h h' => c13 (fl (by decide) h) (ff (by decide) h'), fun h => c14 (fl (by decide) h), fun h => c15 (fl (by decide) h), fun h => kl (ff (by decide) h), fun h => getD_set_true (k11_4 (fl (by decide) h)), fun h => getD_set_true (k11_7 (fl (by decide) h)), fun h => getD_set_true (k11_10 (fl (by decide) h)), fun h => getD_set_true (k12_4 (fl (by decide) h)), fun h => getD_set_true (k12_7 (fl (by decide) h)), fun h => getD_set_true (k12_10 (fl (by decide) h)), fun h => getD_set_true (k13_1 (fl (by decide) h)), fun h => getD_set_true (k13_4 (fl (by decide) h)), fun h => getD_set_true (k13_7 (fl (by decide) h)), fun h => getD_set_true (k13_10 (fl (by decide) h)), fun h => getD_set_true (k15_13 (fl (by decide) h)), (Array.size_setIfInBounds ..).trans hz⟩
                    · refine stepJ (i := 1) rfl (fun K hK => ?_)
                      obtain rfl := c0 (hw 0 (by kernel_rfl))
                      have n13 : Ls.getD 13 false = false := by cases hh : Ls.getD 13 false with | false => rfl | true => exact absurd ((k13_1 hh).symm.trans hl) (by decide)
                      obtain ⟨-, -, -, ⟨⟨g1, g2, g3⟩, -⟩, -⟩ := HK.out wx (kl n13)
                      go_simp
                      refine hK.out _ _ ⟨_, _, u66, u67, u68, u69, u70, u71, u72, u73, u74, u75, u76, u77, u78, rfl, lo, fun _ => rfl, fun _ => rfl, fun h => c2 (fl (by decide) h), fun h => c3 (fl (by decide) h), fun h => c4 (fl (by decide) h), fun h => c5 (fl (by decide) h), fun h => c6 (fl (by decide) h), fun h => c7 (fl (by decide) h), fun h => c8 (fl (by decide) h), fun h => c9 (fl (by decide) h), fun h => c10 (fl (by decide) h), fun h => c11 (fl (by decide) h), fun h h' => (c12 (fl (by decide) h) (ff (by decide) h')), fun h h' => c13 (fl (by decide) h) (ff (by decide) h'), fun h => c14 (fl (by decide) h), fun h => c15 (fl (by decide) h), fun h => kl (ff (by decide) h), fun h => getD_set_true (k11_4 (fl (by decide) h)), fun h => getD_set_true (k11_7 (fl (by decide) h)), fun h => getD_set_true (k11_10 (fl (by decide) h)), fun h => getD_set_true (k12_4 (fl (by decide) h)), fun h => getD_set_true (k12_7 (fl (by decide) h)), fun h => getD_set_true (k12_10 (fl (by decide) h)), fun h => getD_set_true (k13_1 (fl (by decide) h)), fun h => getD_set_true (k13_4 (fl (by decide) h)), fun h => getD_set_true (k13_7 (fl (by decide) h)), fun h => getD_set_true (k13_10 (fl (by decide) h)), fun h => getD_set_true (k15_13 (fl (by decide) h)), (Array.size_setIfInBounds ..).trans hz⟩
                    · refine stepJ (i := 2) rfl (fun K hK => ?_)
                      go_simp
                      refine hK.out _ _ ⟨u64, u65, _, u67, u68, u69, u70, u71, u72, u73, u74, u75, u76, u77, u78, rfl, lo, fun h => c0 (fl (by decide) h), fun h => c1 (fl (by decide) h), fun _ => rfl, fun h => c3 (fl (by decide) h), fun h => c4 (fl (by decide) h), fun h => c5 (fl (by decide) h), fun h => c6 (fl (by decide) h), fun h => c7 (fl (by decide) h), fun h => c8 (fl (by decide) h), fun h => c9 (fl (by decide) h), fun h => c10 (fl (by decide) h), fun h => c11 (fl (by decide) h), fun h h' => (c12 (fl (by decide) h) (ff (by decide) h')), fun h h' => c13 (fl (by decide) h) (ff (by decide) h'), fun h => c14 (fl (by decide) h), fun h => c15 (fl (by decide) h), fun h => kl (ff (by decide) h), fun h => getD_set_true (k11_4 (fl (by decide) h)), fun h => getD_set_true (k11_7 (fl (by decide) h)), fun h => getD_set_true (k11_10 (fl (by decide) h)), fun h => getD_set_true (k12_4 (fl (by decide) h)), fun h => getD_set_true (k12_7 (fl (by decide) h)), fun h => getD_set_true (k12_10 (fl (by decide) h)), fun h => getD_set_true (k13_1 (fl (by decide) h)), fun h => getD_set_true (k13_4 (fl (by decide) h)), fun h => getD_set_true (k13_7 (fl (by decide) h)), fun h => getD_set_true (k13_10 (fl (by decide) h)), fun h => getD_set_true (k15_13 (fl (by decide) h)), (Array.size_setIfInBounds ..).trans hz⟩
                    · refine stepJ (i := 3) rfl (fun K hK => ?_)
                      obtain rfl := c2 (hw 2 (by kernel_rfl))
                      go_simp
                      refine hK.out _ _ ⟨u64, u65, _, _, u68, u69, u70, u71, u72, u73, u74, u75, u76, u77, u78, rfl, lo, fun h => c0 (fl (by decide) h), fun h => c1 (fl (by decide) h), fun _ => rfl, fun _ => rfl, fun h => c4 (fl (by decide) h), fun h => c5 (fl (by decide) h), fun h => c6 (fl (by decide) h), fun h => c7 (fl (by decide) h), fun h => c8 (fl (by decide) h), fun h => c9 (fl (by decide) h), fun h => c10 (fl (by decide) h), fun h => c11 (fl (by decide) h), fun h h' => (c12 (fl (by decide) h) (ff (by decide) h')), fun h h' => c13 (fl (by decide) h) (ff (by decide) h'), fun h => c14 (fl (by decide) h), fun h => c15 (fl (by decide) h), fun h => kl (ff (by decide) h), fun h => getD_set_true (k11_4 (fl (by decide) h)), fun h => getD_set_true (k11_7 (fl (by decide) h)), fun h => getD_set_true (k11_10 (fl (by decide) h)), fun h => getD_set_true (k12_4 (fl (by decide) h)), fun h => getD_set_true (k12_7 (fl (by decide) h)), fun h => getD_set_true (k12_10 (fl (by decide) h)), fun h => getD_set_true (k13_1 (fl (by decide) h)), fun h => getD_set_true (k13_4 (fl (by decide) h)), fun h => getD_set_true (k13_7 (fl (by decide) h)), fun h => getD_set_true (k13_10 (fl (by decide) h)), fun h => getD_set_true (k15_13 (fl (by decide) h)), (Array.size_setIfInBounds ..).trans hz⟩
                    · refine stepJ (i := 4) rfl (fun K hK => ?_)
                      obtain rfl := c3 (hw 3 (by kernel_rfl))
                      have n13 : Ls.getD 13 false = false := by cases hh : Ls.getD 13 false with | false => rfl | true => exact absurd ((k13_4 hh).symm.trans hl) (by decide)
                      obtain ⟨k0, k1, k2, -⟩ := HK.out wx (kl n13)
                      go_simp
                      refine hK.out _ _ ⟨u64, u65, u66, _, _, u69, u70, u71, u72, u73, u74, u75, u76, u77, u78, rfl, lo, fun h => c0 (fl (by decide) h), fun h => c1 (fl (by decide) h), fun h => c2 (fl (by decide) h), fun _ => rfl, fun _ => rfl, fun h => c5 (fl (by decide) h), fun h => c6 (fl (by decide) h), fun h => c7 (fl (by decide) h), fun h => c8 (fl (by decide) h), fun h => c9 (fl (by decide) h), fun h => c10 (fl (by decide) h), fun h => c11 (fl (by decide) h), fun h h' => (c12 (fl (by decide) h) (ff (by decide) h')), fun h h' => c13 (fl (by decide) h) (ff (by decide) h'), fun h => c14 (fl (by decide) h), fun h => c15 (fl (by decide) h), fun h => kl (ff (by decide) h), fun h => getD_set_true (k11_4 (fl (by decide) h)), fun h => getD_set_true (k11_7 (fl (by decide) h)), fun h => getD_set_true (k11_10 (fl (by decide) h)), fun h => getD_set_true (k12_4 (fl (by decide) h)), fun h => getD_set_true (k12_7 (fl (by decide) h)), fun h => getD_set_true (k12_10 (fl (by decide) h)), fun h => getD_set_true (k13_1 (fl (by decide) h)), fun h => getD_set_true (k13_4 (fl (by decide) h)), fun h => getD_set_true (k13_7 (fl (by decide) h)), fun h => getD_set_true (k13_10 (fl (by decide) h)), fun h => getD_set_true (k15_13 (fl (by decide) h)), (Array.size_setIfInBounds ..).trans hz⟩
                    · refine stepJ (i := 5) rfl (fun K hK => ?_)
                      go_simp
                      refine hK.out _ _ ⟨u64, u65, u66, u67, u68, _, u70, u71, u72, u73, u74, u75, u76, u77, u78, rfl, lo, fun h => c0 (fl (by decide) h), fun h => c1 (fl (by decide) h), fun h => c2 (fl (by decide) h), fun h => c3 (fl (by decide) h), fun h => c4 (fl (by decide) h), fun _ => rfl, fun h => c6 (fl (by decide) h), fun h => c7 (fl (by decide) h), fun h => c8 (fl (by decide) h), fun h => c9 (fl (by decide) h), fun h => c10 (fl (by decide) h), fun h => c11 (fl (by decide) h), fun h h' => (c12 (fl (by decide) h) (ff (by decide) h')), fun h h' => c13 (fl (by decide) h) (ff (by decide) h'), fun h => c14 (fl (by decide) h), fun h => c15 (fl (by decide) h), fun h => kl (ff (by decide) h), fun h => getD_set_true (k11_4 (fl (by decide) h)), fun h => getD_set_true (k11_7 (fl (by decide) h)), fun h => getD_set_true (k11_10 (fl (by decide) h)), fun h => getD_set_true (k12_4 (fl (by decide) h)), fun h => getD_set_true (k12_7 (fl (by decide) h)), fun h => getD_set_true (k12_10 (fl (by decide) h)), fun h => getD_set_true (k13_1 (fl (by decide) h)), fun h => getD_set_true (k13_4 (fl (by decide) h)), fun h => getD_set_true (k13_7 (fl (by decide) h)), fun h => getD_set_true (k13_10 (fl (by decide) h)), fun h => getD_set_true (k15_13 (fl (by decide) h)), (Array.size_setIfInBounds ..).trans hz⟩
                    · refine stepJ (i := 6) rfl (fun K hK => ?_)
                      obtain rfl := c5 (hw 5 (by kernel_rfl))
                      go_simp
                      refine hK.out _ _ ⟨u64, u65, u66, u67, u68, _, _, u71, u72, u73, u74, u75, u76, u77, u78, rfl, lo, fun h => c0 (fl (by decide) h), fun h => c1 (fl (by decide) h), fun h => c2 (fl (by decide) h), fun h => c3 (fl (by decide) h), fun h => c4 (fl (by decide) h), fun _ => rfl, fun _ => rfl, fun h => c7 (fl (by decide) h), fun h => c8 (fl (by decide) h), fun h => c9 (fl (by decide) h), fun h => c10 (fl (by decide) h), fun h => c11 (fl (by decide) h), fun h h' => (c12 (fl (by decide) h) (ff (by decide) h')), fun h h' => c13 (fl (by decide) h) (ff (by decide) h'), fun h => c14 (fl (by decide) h), fun h => c15 (fl (by decide) h), fun h => kl (ff (by decide) h), fun h => getD_set_true (k11_4 (fl (by decide) h)), fun h => getD_set_true (k11_7 (fl (by decide) h)), fun h => getD_set_true (k11_10 (fl (by decide) h)), fun h => getD_set_true (k12_4 (fl (by decide) h)), fun h => getD_set_true (k12_7 (fl (by decide) h)), fun h => getD_set_true (k12_10 (fl (by decide) h)), fun h => getD_set_true (k13_1 (fl (by decide) h)), fun h => getD_set_true (k13_4 (fl (by decide) h)), fun h => getD_set_true (k13_7 (fl (by decide) h)), fun h => getD_set_true (k13_10 (fl (by decide) h)), fun h => getD_set_true (k15_13 (fl (by decide) h)), (Array.size_setIfInBounds ..).trans hz⟩
                    · refine stepJ (i := 7) rfl (fun K hK => ?_)
                      obtain rfl := c6 (hw 6 (by kernel_rfl))
                      have n13 : Ls.getD 13 false = false := by cases hh : Ls.getD 13 false with | false => rfl | true => exact absurd ((k13_7 hh).symm.trans hl) (by decide)
                      obtain ⟨k0, k1, k2, -⟩ := HK.out wx (kl n13)
                      go_simp
                      refine hK.out _ _ ⟨u64, u65, u66, u67, u68, u69, _, _, u72, u73, u74, u75, u76, u77, u78, rfl, lo, fun h => c0 (fl (by decide) h), fun h => c1 (fl (by decide) h), fun h => c2 (fl (by decide) h), fun h => c3 (fl (by decide) h), fun h => c4 (fl (by decide) h), fun h => c5 (fl (by decide) h), fun _ => rfl, fun _ => rfl, fun h => c8 (fl (by decide) h), fun h => c9 (fl (by decide) h), fun h => c10 (fl (by decide) h), fun h => c11 (fl (by decide) h), fun h h' => (c12 (fl (by decide) h) (ff (by decide) h')), fun h h' => c13 (fl (by decide) h) (ff (by decide) h'), fun h => c14 (fl (by decide) h), fun h => c15 (fl (by decide) h), fun h => kl (ff (by decide) h), fun h => getD_set_true (k11_4 (fl (by decide) h)), fun h => getD_set_true (k11_7 (fl (by decide) h)), fun h => getD_set_true (k11_10 (fl (by decide) h)), fun h => getD_set_true (k12_4 (fl (by decide) h)), fun h => getD_set_true (k12_7 (fl (by decide) h)), fun h => getD_set_true (k12_10 (fl (by decide) h)), fun h => getD_set_true (k13_1 (fl (by decide) h)), fun h => getD_set_true (k13_4 (fl (by decide) h)), fun h => getD_set_true (k13_7 (fl (by decide) h)), fun h => getD_set_true (k13_10 (fl (by decide) h)), fun h => getD_set_true (k15_13 (fl (by decide) h)), (Array.size_setIfInBounds ..).trans hz⟩
                    · refine stepJ (i := 8) rfl (fun K hK => ?_)
                      go_simp
                      refine hK.out _ _ ⟨u64, u65, u66, u67, u68, u69, u70, u71, _, u73, u74, u75, u76, u77, u78, rfl, lo, fun h => c0 (fl (by decide) h), fun h => c1 (fl (by decide) h), fun h => c2 (fl (by decide) h), fun h => c3 (fl (by decide) h), fun h => c4 (fl (by decide) h), fun h => c5 (fl (by decide) h), fun h => c6 (fl (by decide) h), fun h => c7 (fl (by decide) h), fun _ => rfl, fun h => c9 (fl (by decide) h), fun h => c10 (fl (by decide) h), fun h => c11 (fl (by decide) h), fun h h' => (c12 (fl (by decide) h) (ff (by decide) h')), fun h h' => c13 (fl (by decide) h) (ff (by decide) h'), fun h => c14 (fl (by decide) h), fun h => c15 (fl (by decide) h), fun h => kl (ff (by decide) h), fun h => getD_set_true (k11_4 (fl (by decide) h)), fun h => getD_set_true (k11_7 (fl (by decide) h)), fun h => getD_set_true (k11_10 (fl (by decide) h)), fun h => getD_set_true (k12_4 (fl (by decide) h)), fun h => getD_set_true (k12_7 (fl (by decide) h)), fun h => getD_set_true (k12_10 (fl (by decide) h)), fun h => getD_set_true (k13_1 (fl (by decide) h)), fun h => getD_set_true (k13_4 (fl (by decide) h)), fun h => getD_set_true (k13_7 (fl (by decide) h)), fun h => getD_set_true (k13_10 (fl (by decide) h)), fun h => getD_set_true (k15_13 (fl (by decide) h)), (Array.size_setIfInBounds ..).trans hz⟩
                    · refine stepJ (i := 9) rfl (fun K hK => ?_)
                      obtain rfl := c8 (hw 8 (by kernel_rfl))
                      go_simp
                      refine hK.out _ _ ⟨u64, u65, u66, u67, u68, u69, u70, u71, _, _, u74, u75, u76, u77, u78, rfl, lo, fun h => c0 (fl (by decide) h), fun h => c1 (fl (by decide) h), fun h => c2 (fl (by decide) h), fun h => c3 (fl (by decide) h), fun h => c4 (fl (by decide) h), fun h => c5 (fl (by decide) h), fun h => c6 (fl (by decide) h), fun h => c7 (fl (by decide) h), fun _ => rfl, fun _ => rfl, fun h => c10 (fl (by decide) h), fun h => c11 (fl (by decide) h), fun h h' => (c12 (fl (by decide) h) (ff (by decide) h')), fun h h' => c13 (fl (by decide) h) (ff (by decide) h'), fun h => c14 (fl (by decide) h), fun h => c15 (fl (by decide) h), fun h => kl (ff (by decide) h), fun h => getD_set_true (k11_4 (fl (by decide) h)), fun h => getD_set_true (k11_7 (fl (by decide) h)), fun h => getD_set_true (k11_10 (fl (by decide) h)), fun h => getD_set_true (k12_4 (fl (by decide) h)), fun h => getD_set_true (k12_7 (fl (by decide) h)), fun h => getD_set_true (k12_10 (fl (by decide) h)), fun h => getD_set_true (k13_1 (fl (by decide) h)), fun h => getD_set_true (k13_4 (fl (by decide) h)), fun h => getD_set_true (k13_7 (fl (by decide) h)), fun h => getD_set_true (k13_10 (fl (by decide) h)), fun h => getD_set_true (k15_13 (fl (by decide) h)), (Array.size_setIfInBounds ..).trans hz⟩
                    · refine stepJ (i := 10) rfl (fun K hK => ?_)
                      obtain rfl := c9 (hw 9 (by kernel_rfl))
                      have n13 : Ls.getD 13 false = false := by cases hh : Ls.getD 13 false with | false => rfl | true => exact absurd ((k13_10 hh).symm.trans hl) (by decide)
                      obtain ⟨k0, k1, k2, -⟩ := HK.out wx (kl n13)
                      go_simp
                      refine hK.out _ _ ⟨u64, u65, u66, u67, u68, u69, u70, u71, u72, _, _, u75, u76, u77, u78, rfl, lo, fun h => c0 (fl (by decide) h), fun h => c1 (fl (by decide) h), fun h => c2 (fl (by decide) h), fun h => c3 (fl (by decide) h), fun h => c4 (fl (by decide) h), fun h => c5 (fl (by decide) h), fun h => c6 (fl (by decide) h), fun h => c7 (fl (by decide) h), fun h => c8 (fl (by decide) h), fun _ => rfl, fun _ => rfl, fun h => c11 (fl (by decide) h), fun h h' => (c12 (fl (by decide) h) (ff (by decide) h')), fun h h' => c13 (fl (by decide) h) (ff (by decide) h'), fun h => c14 (fl (by decide) h), fun h => c15 (fl (by decide) h), fun h => kl (ff (by decide) h), fun h => getD_set_true (k11_4 (fl (by decide) h)), fun h => getD_set_true (k11_7 (fl (by decide) h)), fun h => getD_set_true (k11_10 (fl (by decide) h)), fun h => getD_set_true (k12_4 (fl (by decide) h)), fun h => getD_set_true (k12_7 (fl (by decide) h)), fun h => getD_set_true (k12_10 (fl (by decide) h)), fun h => getD_set_true (k13_1 (fl (by decide) h)), fun h => getD_set_true (k13_4 (fl (by decide) h)), fun h => getD_set_true (k13_7 (fl (by decide) h)), fun h => getD_set_true (k13_10 (fl (by decide) h)), fun h => getD_set_true (k15_13 (fl (by decide) h)), (Array.size_setIfInBounds ..).trans hz⟩
                    · refine stepJ (i := 11) rfl (fun K hK => ?_)
                      obtain rfl := c4 (hw 4 (by kernel_rfl))
                      obtain rfl := c7 (hw 7 (by kernel_rfl))
                      obtain rfl := c10 (hw 10 (by kernel_rfl))
                      go_simp
                      refine hK.out _ _ ⟨u64, u65, u66, u67, _, u69, u70, _, u72, u73, _, _, u76, u77, u78, rfl, lo, fun h => c0 (fl (by decide) h), fun h => c1 (fl (by decide) h), fun h => c2 (fl (by decide) h), fun h => c3 (fl (by decide) h), fun _ => rfl, fun h => c5 (fl (by decide) h), fun h => c6 (fl (by decide) h), fun _ => rfl, fun h => c8 (fl (by decide) h), fun h => c9 (fl (by decide) h), fun _ => rfl, fun _ => rfl, fun h h' => (c12 (fl (by decide) h) (ff (by decide) h')), fun h h' => c13 (fl (by decide) h) (ff (by decide) h'), fun h => c14 (fl (by decide) h), fun h => c15 (fl (by decide) h), fun h => kl (ff (by decide) h), fun _ => getD_set_true (hw 4 (by kernel_rfl)), fun _ => getD_set_true (hw 7 (by kernel_rfl)), fun _ => getD_set_true (hw 10 (by kernel_rfl)), fun h => getD_set_true (k12_4 (fl (by decide) h)), fun h => getD_set_true (k12_7 (fl (by decide) h)), fun h => getD_set_true (k12_10 (fl (by decide) h)), fun h => getD_set_true (k13_1 (fl (by decide) h)), fun h => getD_set_true (k13_4 (fl (by decide) h)), fun h => getD_set_true (k13_7 (fl (by decide) h)), fun h => getD_set_true (k13_10 (fl (by decide) h)), fun h => getD_set_true (k15_13 (fl (by decide) h)), (Array.size_setIfInBounds ..).trans hz⟩
                    · refine stepJ (i := 12) rfl (fun K hK => ?_)
                      obtain rfl := c11 (hw 11 (by kernel_rfl))
                      go_simp
                      refine hK.out _ _ ⟨u64, u65, u66, u67, u68, u69, u70, u71, u72, u73, u74, _, _, u77, u78, rfl, lo.alloc (Nat.le_trans hGW hzw) _, fun h => c0 (fl (by decide) h), fun h => c1 (fl (by decide) h), fun h => c2 (fl (by decide) h), fun h => c3 (fl (by decide) h), fun h => c4 (fl (by decide) h), fun h => c5 (fl (by decide) h), fun h => c6 (fl (by decide) h), fun h => c7 (fl (by decide) h), fun h => c8 (fl (by decide) h), fun h => c9 (fl (by decide) h), fun h => c10 (fl (by decide) h), fun _ => rfl, fun _ _ => OneE.new hzw, fun h h' => by obtain ⟨y1, y2⟩ := c13 (fl (by decide) h) (ff (by decide) h'); exact ⟨EdgesAt.keep y1 (below1 wx _), y2.keep (below1 wx _)⟩, fun h => c14 (fl (by decide) h), fun h => by obtain ⟨y1, y2⟩ := c15 (fl (by decide) h); exact ⟨EdgesAt.keep y1 (below1 wx _), y2.keep (below1 wx _)⟩, fun h => (kl (ff (by decide) h)).alloc hzw _, fun h => getD_set_true (k11_4 (fl (by decide) h)), fun h => getD_set_true (k11_7 (fl (by decide) h)), fun h => getD_set_true (k11_10 (fl (by decide) h)), fun _ => getD_set_true (k11_4 (hw 11 (by kernel_rfl))), fun _ => getD_set_true (k11_7 (hw 11 (by kernel_rfl))), fun _ => getD_set_true (k11_10 (hw 11 (by kernel_rfl))), fun h => getD_set_true (k13_1 (fl (by decide) h)), fun h => getD_set_true (k13_4 (fl (by decide) h)), fun h => getD_set_true (k13_7 (fl (by decide) h)), fun h => getD_set_true (k13_10 (fl (by decide) h)), fun h => getD_set_true (k15_13 (fl (by decide) h)), (Array.size_setIfInBounds ..).trans hz⟩
                    · refine stepJ (i := 13) rfl (fun K hK => ?_)
                      have bl := kl hl
                      obtain ⟨-, -, -, hg, he⟩ := HK.out wx bl
                      obtain ⟨p, rfl, bx, hp⟩ := c12 (hw 12 (by kernel_rfl)) hl
                      have e1 := c1 (hw 1 (by kernel_rfl))
                      refine step_appE (by rfl) (.tmp 65) (.tmp 76) (by rfl) e1 he (some ⟨p, 0, none⟩) 1 1 (by rfl) (OneE.rd ⟨p, rfl, bx, hp⟩) (by simp only [List.length_cons, List.length_nil]; omega) (Nat.le_trans hGW1 hzw) ?_
                      intro v' W2 e2 g2 r2
                      have hbG : Below (G + 1) wx W2 := (Below.refl (G + 1) wx).grown g2 (Nat.le_trans hGW1 hzw) (fun p hp => (he.lt p hp).1)
                      (try simp only [Act.put, List.setIfInBounds_toArray, List.set_cons_zero, List.set_cons_succ])
                      refine hK.out _ _ ⟨u64, u65, u66, u67, u68, u69, u70, u71, u72, u73, u74, u75, _, _, u78, rfl, lo.trans (hbG.mono (Nat.le_succ G)), fun h => c0 (fl (by decide) h), fun h => c1 (fl (by decide) h), fun h => c2 (fl (by decide) h), fun h => c3 (fl (by decide) h), fun h => c4 (fl (by decide) h), fun h => c5 (fl (by decide) h), fun h => c6 (fl (by decide) h), fun h => c7 (fl (by decide) h), fun h => c8 (fl (by decide) h), fun h => c9 (fl (by decide) h), fun h => c10 (fl (by decide) h), fun h => c11 (fl (by decide) h), fun _ h' => absurd ((fx (by rw [hz]; decide)).symm.trans h') (by decide), fun _ _ => ⟨e2, boxF_lowY hg (Nat.lt_succ_self G) hbG⟩, fun h => c14 (fl (by decide) h), fun h => absurd ((k15_13 (fl (by decide) h)).symm.trans hl) (by decide), fun h' => absurd ((fx (by rw [hz]; decide)).symm.trans h') (by decide), fun h => getD_set_true (k11_4 (fl (by decide) h)), fun h => getD_set_true (k11_7 (fl (by decide) h)), fun h => getD_set_true (k11_10 (fl (by decide) h)), fun h => getD_set_true (k12_4 (fl (by decide) h)), fun h => getD_set_true (k12_7 (fl (by decide) h)), fun h => getD_set_true (k12_10 (fl (by decide) h)), fun _ => getD_set_true (hw 1 (by kernel_rfl)), fun _ => getD_set_true (k12_4 (hw 12 (by kernel_rfl))), fun _ => getD_set_true (k12_7 (hw 12 (by kernel_rfl))), fun _ => getD_set_true (k12_10 (hw 12 (by kernel_rfl))), fun h => getD_set_true (k15_13 (fl (by decide) h)), (Array.size_setIfInBounds ..).trans hz⟩
                    · refine stepJ (i := 14) rfl (fun K hK => ?_)
                      go_simp
                      refine hK.out _ _ ⟨u64, u65, u66, u67, u68, u69, u70, u71, u72, u73, u74, u75, u76, u77, _, rfl, lo, fun h => c0 (fl (by decide) h), fun h => c1 (fl (by decide) h), fun h => c2 (fl (by decide) h), fun h => c3 (fl (by decide) h), fun h => c4 (fl (by decide) h), fun h => c5 (fl (by decide) h), fun h => c6 (fl (by decide) h), fun h => c7 (fl (by decide) h), fun h => c8 (fl (by decide) h), fun h => c9 (fl (by decide) h), fun h => c10 (fl (by decide) h), fun h => c11 (fl (by decide) h), fun h h' => (c12 (fl (by decide) h) (ff (by decide) h')), fun h h' => c13 (fl (by decide) h) (ff (by decide) h'), fun _ => rfl, fun h => c15 (fl (by decide) h), fun h => kl (ff (by decide) h), fun h => getD_set_true (k11_4 (fl (by decide) h)), fun h => getD_set_true (k11_7 (fl (by decide) h)), fun h => getD_set_true (k11_10 (fl (by decide) h)), fun h => getD_set_true (k12_4 (fl (by decide) h)), fun h => getD_set_true (k12_7 (fl (by decide) h)), fun h => getD_set_true (k12_10 (fl (by decide) h)), fun h => getD_set_true (k13_1 (fl (by decide) h)), fun h => getD_set_true (k13_4 (fl (by decide) h)), fun h => getD_set_true (k13_7 (fl (by decide) h)), fun h => getD_set_true (k13_10 (fl (by decide) h)), fun h => getD_set_true (k15_13 (fl (by decide) h)), (Array.size_setIfInBounds ..).trans hz⟩
                    · refine stepJ (i := 15) rfl (fun K hK => ?_)
                      obtain rfl := c14 (hw 14 (by kernel_rfl))
                      obtain ⟨e13, g13⟩ := c13 (hw 13 (by kernel_rfl)) hl
                      obtain ⟨⟨g1, g2, g3⟩, f1, f2, f3⟩ := id g13
                      obtain ⟨av, cv, hv⟩ := e13.slice
                      have hv2 : u77 = .slice av (es.length + 1) cv := by rw [hv, List.length_append]; rfl
                      subst hv2
                      clear hv
                      go_simp
                      refine hK.out _ _ ⟨u64, u65, u66, u67, u68, u69, u70, u71, u72, u73, u74, u75, u76, _, _, rfl, lo.setCell (p := ⟨G, 2, none⟩) (Nat.le_refl G) _, fun h => c0 (fl (by decide) h), fun h => c1 (fl (by decide) h), fun h => c2 (fl (by decide) h), fun h => c3 (fl (by decide) h), fun h => c4 (fl (by decide) h), fun h => c5 (fl (by decide) h), fun h => c6 (fl (by decide) h), fun h => c7 (fl (by decide) h), fun h => c8 (fl (by decide) h), fun h => c9 (fl (by decide) h), fun h => c10 (fl (by decide) h), fun h => c11 (fl (by decide) h), fun _ h' => absurd ((hw 13 (by kernel_rfl)).symm.trans (ff (by decide) h')) (by decide), fun _ h' => absurd ((fx (by rw [hz]; decide)).symm.trans h') (by decide), fun _ => rfl, fun _ => ⟨ownsRow_setCell_below e13 (a := ⟨G, 2, none⟩) (Nat.lt_succ_self G) _, g13.set2 _⟩, fun h' => absurd ((hw 13 (by kernel_rfl)).symm.trans (ff (by decide) h')) (by decide), fun h => getD_set_true (k11_4 (fl (by decide) h)), fun h => getD_set_true (k11_7 (fl (by decide) h)), fun h => getD_set_true (k11_10 (fl (by decide) h)), fun h => getD_set_true (k12_4 (fl (by decide) h)), fun h => getD_set_true (k12_7 (fl (by decide) h)), fun h => getD_set_true (k12_10 (fl (by decide) h)), fun h => getD_set_true (k13_1 (fl (by decide) h)), fun h => getD_set_true (k13_4 (fl (by decide) h)), fun h => getD_set_true (k13_7 (fl (by decide) h)), fun h => getD_set_true (k13_10 (fl (by decide) h)), fun _ => getD_set_true (hw 13 (by kernel_rfl)), (Array.size_setIfInBounds ..).trans hz⟩
                  · rintro Ls act wx hall ⟨u64, u65, u66, u67, u68, u69, u70, u71, u72, u73, u74, u75, u76, u77, u78, rfl, lo, c0, c1, c2, c3, c4, c5, c6, c7, c8, c9, c10, c11, c12, c13, c14, c15, kl, k11_4, k11_7, k11_10, k12_4, k12_7, k12_10, k13_1, k13_4, k13_7, k13_10, k15_13, hz⟩
                    obtain ⟨P15, Q15⟩ := c15 (hall 15 (by decide))
                    have P15 := Lib.hid P15
                    have Q15 := Lib.hid Q15
                    have LO := Lib.hid lo
                    clear hall lo c0 c1 c2 c3 c4 c5 c6 c7 c8 c9 c10 c11 c12 c13 c14 c15 kl k11_4 k11_7 k11_10 k12_4 k12_7 k12_10 k13_1 k13_4 k13_7 k13_10 k15_13 hz
                    have hib : i ≤ 99999 := by have := HEL.out; omega
                    go_wp2_with fail
                    go_roundg q
                    case measure => omega
                    case rel => exact ⟨i + 1, es ++ [(x, y, z)], _, by have := HIQ.out; omega, by go_num, by rw [List.length_append, HEL.out]; rfl, HA2, P15.out, Q15.out, boxF_lowY R8'.out HM.out.2 LO.out, fun j p hp => (LO.out.cell (p := ⟨P, j, none⟩) HM.out.1).trans (S8.out j p hp), B8.out.trans (LO.out.mono (by have := HM.out.2; omega)), Nat.lt_of_lt_of_le hGW1 LO.out.size⟩
end Go.Proofs.YtoekemfgmdbnbaaDoor
