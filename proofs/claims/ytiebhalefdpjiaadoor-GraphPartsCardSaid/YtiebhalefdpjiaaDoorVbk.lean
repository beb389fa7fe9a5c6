/- GraphParts: the walk. Conditions: the edges can be read. -/
import Derived.Test.YtiebhalefdpjiaaDoorVbj
import Derived.Test.YtiebhalefdpjiaaDoorJnvw
namespace Go.Proofs.YtiebhalefdpjiaaDoor
open Go.RowKit
set_option linter.unusedSimpArgs false
set_option linter.unusedVariables false

/-- The graph's variable, the two chosen lists. -/
structure GP (w : World) (L : Int) (n : Nat) (v vs : Value) (st : List Int) (vi : Value) (inn : List Int) (W : World) : Prop where
  g : BoxG W w.heap.size L (n : Int) v
  s : IntsAt W w.heap.size vs st
  i : IntsAt W w.heap.size vi inn
  b : Below w.heap.size w W
theorem GP.keep {w W W' : World} {L : Int} {n : Nat} {v vs vi : Value} {st inn : List Int} (h : GP w L n v vs st vi inn W) (hb : Below W.heap.size W W') : GP w L n v vs st vi inn W' :=
  ⟨h.g.keep hb, h.s.keep hb, h.i.keep hb, h.b.trans (hb.mono h.b.size)⟩
/-- The graph's variable and its part's. -/
structure GQ (w : World) (L : Int) (n k : Nat) (v : Value) (p : Nat) (vp : Value) (ps : List E3) (W : World) : Prop where
  g : BoxG W w.heap.size L (n : Int) v
  q : BoxG W p L (k : Int) vp
  e : EdgesAt W w.heap.size vp ps
  b : Below w.heap.size w W
theorem GQ.keep {w W W' : World} {L : Int} {n k p : Nat} {v vp : Value} {ps : List E3} (h : GQ w L n k v p vp ps W) (hb : Below W.heap.size W W') : GQ w L n k v p vp ps W' :=
  ⟨h.g.keep hb, h.q.keep hb, EdgesAt.keep h.e hb, h.b.trans (hb.mono h.b.size)⟩
@[go_sem ↓] theorem run_max4z {P : Program} (k : IntKind) (w : World) (ts : Array TypeId) (t : TypeId) :
    (Builtin.max_ ts t #[.int k 0, .int k 0, .int k 0, .int k 0]).run P w = .ok (.int k 0) w := by
  simp [Builtin.max_, Builtin.max2]
theorem run_min16 {P : Program} (k : IntKind) (L : Int) (m : Nat) (h : (m : Int) = min L 16) (w : World) (ts : Array TypeId) (t : TypeId) :
    (Builtin.min_ ts t #[.int k L, .int k 16]).run P w = .ok (.int k (m : Int)) w := by
  by_cases h1 : 16 < L
  · have e : (m : Int) = 16 := by omega
    simp [Builtin.min_, Builtin.min2, h1, e]
  · have e : (m : Int) = L := by omega
    simp [Builtin.min_, Builtin.min2, h1, e]
theorem bothI_snoc {st inn : List Int} {i t : Nat} {x : Int} (hi : inn[i]? = some (t : Int)) (hx : st[t]? = some x) : bothI st (inn.take (i + 1)) = bothI st (inn.take i) ++ [x] := by
  unfold bothI
  rw [List.take_add_one, hi, List.filterMap_append]
  simp [hx]
set_option maxRecDepth 100000 in
set_option maxHeartbeats 12800000 in
theorem gparts_small (L : Int) (n : Nat) (es : List E3) (v : Value) (one two : Nat) (w : World) (h1 : one < 65536) (h2 : two < 65536) (hrd : EdgesRd w v es) (hvg : VG L (n : Int) es) (hfine : fineB L (n : Int) es = true) :
    Calls Tryd.prog 7 #[grV L (n : Int) v, .int .u16 (one : Int), .int .u16 (two : Int)] w fun e w' => e = .returned (.bool true) ∧ Below w.heap.size w w' := by
  have hmx : Tryd.prog.follows .mixedOrders = true := by kernel_rfl
  obtain ⟨i0, hi, hz0, hz1, hz2⟩ := info_parts Tryd.infoI64
  have hlen := hvg.len
  have hn64 : n ≤ 64 := by have := hvg.s2; omega
  have hL := hvg.l1
  have hL2 := hvg.l2
  obtain ⟨st, hst⟩ : ∃ st, mems n (bitB one) = st := ⟨_, rfl⟩
  have hsg : SG (n : Int) st := by rw [← hst]; exact mems_sg n _
  obtain ⟨k, hk⟩ : ∃ k, st.length = k := ⟨_, rfl⟩
  have hkn : k ≤ n := by rw [← hk, ← hst]; exact mems_len n _
  obtain ⟨inn, hinn⟩ : ∃ inn, mems k (bitB two) = inn := ⟨_, rfl⟩
  have hsi : SG (k : Int) inn := by rw [← hinn]; exact mems_sg k _
  obtain ⟨j, hj⟩ : ∃ j, inn.length = j := ⟨_, rfl⟩
  have hjk : j ≤ k := by rw [← hj, ← hinn]; exact mems_len k _
  have hvp : VG L (k : Int) (partE st es) := by rw [← hk]; exact part_vg hvg hsg
  have hsb : SG (n : Int) (bothI st inn) := bothI_sg hsg (by rw [hk]; exact hsi)
  have hbl : (bothI st inn).length = j := by rw [bothI_len (by rw [hk]; exact hsi.bd), hj]
  have hpp : partE (bothI st inn) es = partE inn (partE st es) := (part_part hsg.2 hsi.2 (by rw [hk]; exact hsi.bd)).symm
  have hdp := det_part (st := st) (es := es) hsg.2 hvg.asc
  obtain ⟨ps, hps⟩ : ∃ ps, partE st es = ps := ⟨_, rfl⟩
  rw [hps] at hvp hpp hdp
  obtain ⟨mp, hmp⟩ : ∃ mp, ps.length = mp := ⟨_, rfl⟩
  obtain ⟨qs, hqs⟩ : ∃ qs, partE inn ps = qs := ⟨_, rfl⟩
  rw [hqs] at hpp
  have hvq : VG L (j : Int) qs := by rw [← hqs, ← hj]; exact part_vg hvp hsi
  obtain ⟨mq, hmq⟩ : ∃ mq, qs.length = mq := ⟨_, rfl⟩
  obtain ⟨bw, hbw⟩ : ∃ bw, bothI st inn = bw := ⟨_, rfl⟩
  rw [hbw] at hsb hbl hpp
  have hmql := hvq.len
  have hall : mems n (bitB 65535) = allI n := mems_all (fun i _ => bitB_all i)
  have hsa : SG (n : Int) (allI n) := by rw [← hall]; exact mems_sg n _
  obtain ⟨dE, hdE⟩ : ∃ b, detE es = b := ⟨_, rfl⟩
  obtain ⟨dP, hdP⟩ : ∃ b, detE ps = b := ⟨_, rfl⟩
  have HRD := Lib.hid hrd
  have HF := Lib.hid (fun W h => fine_any L (n : Int) es v W h (by omega))
  have HFB := Lib.hid hfine
  have HAW := Lib.hid (fun W => awake_any W)
  obtain ⟨a, c, rfl⟩ := hrd.form
  have HC1 := Lib.hid (fun W => choose_sl n one k st W hn64 h1 hst hk)
  have HC2 := Lib.hid (fun W => choose_sl k two j inn W (by omega) h2 hinn hj)
  have HCA := Lib.hid (show ∀ W, Calls Tryd.prog 31 #[.int .i64 (n : Int), .int .u16 65535] W fun e w' => ∃ d f, e = .returned (.slice d n f) ∧ IntsAt w' W.heap.size (.slice d n f) (allI n) ∧ Below W.heap.size W w' from fun W => choose_sl n 65535 n (allI n) W hn64 (by decide) hall (allI_len n))
  have HK1 := Lib.hid (fun W u h h' => keep_sl hvg hsg hk hps hmp (.slice a es.length c) u W h h')
  have HK2 := Lib.hid (fun v' u W h h' => keep_sl hvp hsi hj hqs hmq v' u W h h')
  have HK3 := Lib.hid (fun W u h h' => keep_sl hvg hsb hbl hpp hmq (.slice a es.length c) u W h h')
  have HKA := Lib.hid (fun W u h h' => keep_sl hvg hsa (allI_len n) (part_all (fun e he => hvg.ok e he)) rfl (.slice a es.length c) u W h h')
  have HSM1 := Lib.hid (fun v1 v2 W h h' => same_yes L (j : Int) qs v1 v2 W h h' (by omega))
  have HSM2 := Lib.hid (fun v1 v2 W h h' => same_yes L (n : Int) es v1 v2 W h h' (by omega))
  have HST := Lib.hid (fun (s l : Nat) (hs : s < n) (hl : (l : Int) < L) W h => step_one hvg hs hl (.slice a es.length c) W h)
  have HD1 := Lib.hid (fun W h => det_sl hvg hdE (.slice a es.length c) W h)
  have HD2 := Lib.hid (fun v' W h => det_sl hvp hdP v' W h)
  have HDP := Lib.hid (show dE = true → dP = true from fun h => by rw [← hdP]; exact hdp (hdE.trans h))
  have HUQ := Lib.hid (fun (m : Nat) hm => hdE.symm.trans (uq_det (m := m) hvg hm))
  have HBW := Lib.hid hbw
  have HBL := Lib.hid hbl
  have HSI := Lib.hid hsi
  have HKL := Lib.hid hk
  have HJL := Lib.hid hj
  have HMP := Lib.hid hmp
  have HMQ := Lib.hid hmq
  have G0 := Lib.hid (BoxG.new w L (n : Int) (.slice a es.length c) 24)
  have B0 := Lib.hid (below1 w (.cells #[.int .i64 L, .int .i64 (n : Int), .slice a es.length c] 24))
  clear hrd hvg hfine hst hsg hk hinn hsi hj hvp hsb hbl hpp hdp hps hmp hqs hvq hmq hbw hall hsa hdE hdP
  go_enter Tryd.func7, Tryd.ntmps7
  go_wp2_with (first
    | (go_at_call 28; (with_reducible refine (HF.out _ (HRD.out.keep B0.out)).mono ?_); rintro e0 W1 ⟨rfl, b1⟩; (rw [HFB.out]); (have G1 := Lib.hid (G0.out.keep b1)); (have B1 := Lib.hid (below_more B0.out (Nat.le_refl _) b1)); (clear b1 G0 B0); (obtain ⟨g1, g2, g3⟩ := id G1.out))
    | (go_at_call 31; (with_reducible refine (HC1.out _).mono ?_); rintro e0 W2 ⟨d1, f1, rfl, i1, b2⟩; (have G2 := Lib.hid (G1.out.keep b2)); (have B2 := Lib.hid (below_more B1.out (Nat.le_refl _) b2)); (have I2 := Lib.hid (own_low i1 B1.out.size)); (clear b2 i1 G1 B1 g1 g2 g3 HC1))
    | (go_at_call 31; (with_reducible refine (HC2.out _).mono ?_); rintro e0 W3 ⟨d2, f2, rfl, i2, b3⟩; (have P3 := Lib.hid (show GP w L n (.slice a es.length c) (.slice d1 k f1) st (.slice d2 j f2) inn W3 from ⟨G2.out.keep b3, IntsAt.keep I2.out b3, own_low i2 B2.out.size, below_more B2.out (Nat.le_refl _) b3⟩)); (clear b3 i2 G2 B2 I2 HC2)))
  go_loopg [9, 43] j (fun q s9 s43 wx => ∃ i : Nat, i + q = j ∧ s43 = .int .i64 (i : Int) ∧ IntsAt wx W3.heap.size s9 (bothI st (inn.take i)) ∧ Below W3.heap.size W3 wx)
  case atStart => exact ⟨0, by omega, rfl, ints_nil _ _, Below.refl _ _⟩
  case round =>
    obtain ⟨i, hij, rfl, hO, hB⟩ := hrel
    have PR := Lib.hid (P3.out.keep hB)
    obtain ⟨g1, g2, g3⟩ := id PR.out.g
    rcases gk with _ | q
    · obtain rfl : i = j := by omega
      have HT := Lib.hid (show bothI st (inn.take i) = bw by rw [show i = inn.length from HJL.out.symm, List.take_length]; exact HBW.out)
      rw [HT.out] at hO
      obtain ⟨a9, c9, rfl⟩ := hO.slice
      have O0 := Lib.hid hO
      rw [HBL.out] at O0 ⊢
      have hO2 := Lib.hid (show IntsAt wr w.heap.size (.slice a9 i c9) bw from by have := own_low O0.out P3.out.b.size; exact this)
      clear hO HT hij hB P3 O0
      have PZ := PR.out.b.size
      go_upto_region 12 with (go_at_call 23; (with_reducible refine (HK1.out _ _ (HRD.out.keep PR.out.b) (IntsAt.rd PR.out.s)).mono ?_); rintro e0 W4 ⟨a4, c4, rfl, e4, b4⟩; (have bm := below1 W4 (.cells #[.int .i64 L, .int .i64 (k : Int), .slice a4 mp c4] 24)); (have D4 := Lib.hid ((PR.out.keep b4).keep bm)); (have O4 := Lib.hid ((IntsAt.keep (v := .slice a9 i c9) (l := bw) hO2.out b4).keep bm)); (have E4 := Lib.hid (show EdgesAt _ w.heap.size (.slice a4 mp c4) ps from own_low (e4.keep bm) PZ)); (have Q4 := Lib.hid (BoxG.new W4 L (k : Int) (.slice a4 mp c4) 24)); (clear b4 e4 bm PR hO2 PZ g1 g2 g3 HK1))
      obtain ⟨p12, hp12⟩ : ∃ p, W4.heap.size = p := ⟨_, rfl⟩
      obtain ⟨W5, hW5⟩ : ∃ W5, W4.alloc (.cells #[.int .i64 L, .int .i64 (k : Int), .slice a4 mp c4] 24) = W5 := ⟨_, rfl⟩
      rw [hW5] at D4 E4 O4
      rw [hW5, hp12] at Q4 ⊢
      clear hW5 hp12
      obtain ⟨g1, g2, g3⟩ := id D4.out.g
      obtain ⟨q1, q2, q3⟩ := id Q4.out
      have PZ := D4.out.b.size
      go_upto_region 13 with (go_at_call 23; (with_reducible refine (HK2.out _ _ _ (EdgesAt.rd E4.out) (IntsAt.rd D4.out.i)).mono ?_); rintro e0 W6 ⟨a6, c6, rfl, e6, b6⟩; (have bm := below1 W6 (.cells #[.int .i64 L, .int .i64 (i : Int), .slice a6 mq c6] 24)); (have D6 := Lib.hid ((D4.out.keep b6).keep bm)); (have O6 := Lib.hid ((IntsAt.keep O4.out b6).keep bm)); (have E6 := Lib.hid ((EdgesAt.keep E4.out b6).keep bm)); (have Q6 := Lib.hid ((Q4.out.keep b6).keep bm)); (have F6 := Lib.hid (show EdgesAt _ w.heap.size (.slice a6 mq c6) qs from own_low (e6.keep bm) PZ)); (have R6 := Lib.hid (BoxG.new W6 L (i : Int) (.slice a6 mq c6) 24)); (clear b6 e6 bm D4 O4 E4 Q4 PZ g1 g2 g3 q1 q2 q3 HK2))
      obtain ⟨p14, hp14⟩ : ∃ p, W6.heap.size = p := ⟨_, rfl⟩
      obtain ⟨W7, hW7⟩ : ∃ W7, W6.alloc (.cells #[.int .i64 L, .int .i64 (i : Int), .slice a6 mq c6] 24) = W7 := ⟨_, rfl⟩
      rw [hW7] at D6 O6 E6 Q6 F6
      rw [hW7, hp14] at R6 ⊢
      clear hW7 hp14
      obtain ⟨g1, g2, g3⟩ := id D6.out.g
      have PZ := D6.out.b.size
      go_upto_region 14 with (go_at_call 23; (with_reducible refine (HK3.out _ _ (HRD.out.keep D6.out.b) (IntsAt.rd O6.out)).mono ?_); rintro e0 W8 ⟨a8, c8, rfl, e8, b8⟩; (have bm := below1 W8 (.cells #[.int .i64 L, .int .i64 (i : Int), .slice a8 mq c8] 24)); (have D8 := Lib.hid ((D6.out.keep b8).keep bm)); (have E8 := Lib.hid ((EdgesAt.keep E6.out b8).keep bm)); (have Q8 := Lib.hid ((Q6.out.keep b8).keep bm)); (have F8 := Lib.hid ((EdgesAt.keep F6.out b8).keep bm)); (have R8 := Lib.hid ((R6.out.keep b8).keep bm)); (have H8 := Lib.hid (show EdgesAt _ w.heap.size (.slice a8 mq c8) qs from own_low (e8.keep bm) PZ)); (have S8 := Lib.hid (BoxG.new W8 L (i : Int) (.slice a8 mq c8) 24)); (clear b8 e8 bm D6 O6 E6 Q6 F6 R6 PZ g1 g2 g3 HK3))
      obtain ⟨p16, hp16⟩ : ∃ p, W8.heap.size = p := ⟨_, rfl⟩
      obtain ⟨W9, hW9⟩ : ∃ W9, W8.alloc (.cells #[.int .i64 L, .int .i64 (i : Int), .slice a8 mq c8] 24) = W9 := ⟨_, rfl⟩
      rw [hW9] at D8 E8 Q8 F8 R8 H8
      rw [hW9, hp16] at S8 ⊢
      clear hW9 hp16
      have PG := Lib.hid D8.out.g
      have PB := Lib.hid D8.out.b
      have HD8 := Lib.hid (show ∀ W, Below W9.heap.size W9 W → GP w L n (.slice a es.length c) (.slice d1 k f1) st (.slice d2 i f2) inn W from fun W h => D8.out.keep h)
      have KB : Below W9.heap.size W9 W9.drew := (Below.refl _ _).drew
      refine region_inv' (J := (fun Ls act wx => ∃ u74 u75 u76 u77 u78 u73 u79 u80 u18 u19, act = { tmps := #[grV L ((n : Int)) (.slice a es.length c), .int .u16 (one : Int), .int .u16 (two : Int), .pointer (some ⟨w.heap.size, 0, none⟩), undef, undef, .bool false, .slice d1 k f1, .slice d2 i f2, .slice a9 i c9, undef, u11, .pointer (some ⟨p12, 0, none⟩), .int .i64 0, .pointer (some ⟨p14, 0, none⟩), .int .i64 0, .pointer (some ⟨p16, 0, none⟩), .int .i64 0, u18, u19, undef, undef, undef, undef, undef, undef, undef, undef, undef, .agg #[.int .i64 L, .int .i64 (n : Int), .slice a es.length c], .bool true, .bool false, undef, .pointer (some ⟨w.heap.size, 1, none⟩), .int .i64 (n : Int), .int .u16 (one : Int), .slice d1 k f1, .slice d1 k f1, .int .i64 (k : Int), .int .u16 (two : Int), .slice d2 i f2, .slice d2 i f2, .int .i64 (i : Int), .int .i64 (i : Int), .bool false, u45, u46, u47, u48, u49, u50, u51, u52, u53, u54, .tuple #[grV L ((k : Int)) (.slice a4 mp c4), .int .i64 0], .agg #[.int .i64 L, .int .i64 (n : Int), .slice a es.length c], .slice d1 k f1, .tuple #[grV L ((k : Int)) (.slice a4 mp c4), .int .i64 0], grV L ((k : Int)) (.slice a4 mp c4), .int .i64 0, .tuple #[grV L ((i : Int)) (.slice a6 mq c6), .int .i64 0], .agg #[.int .i64 L, .int .i64 (k : Int), .slice a4 mp c4], .slice d2 i f2, .tuple #[grV L ((i : Int)) (.slice a6 mq c6), .int .i64 0], grV L ((i : Int)) (.slice a6 mq c6), .int .i64 0, .tuple #[grV L ((i : Int)) (.slice a8 mq c8), .int .i64 0], .agg #[.int .i64 L, .int .i64 (n : Int), .slice a es.length c], .slice a9 i c9, .tuple #[grV L ((i : Int)) (.slice a8 mq c8), .int .i64 0], grV L ((i : Int)) (.slice a8 mq c8), .int .i64 0, u73, u74, u75, u76, u77, u78, u79, u80, undef, undef, undef, undef, undef, undef, undef, undef, undef, undef, undef, undef, undef, undef, undef, undef, undef, undef, undef, undef, undef, undef, undef, undef, undef, undef, undef, undef, undef, undef, undef, undef, undef, undef, undef, undef, undef, undef, undef, undef, undef, undef, undef, undef, undef, undef, undef, undef, undef, undef, undef, undef, undef, undef, undef, undef, undef, undef, undef, undef, undef, undef, undef, undef, undef, undef, undef, undef, undef, undef, undef, undef, undef, undef, undef, undef, undef, undef, undef, undef, undef], defers := [] } ∧ Below W9.heap.size W9 wx ∧
          (Ls.getD 0 false = true → u74 = .agg #[.int .i64 L, .int .i64 (n : Int), .slice a es.length c]) ∧ (Ls.getD 1 false = true → u75 = .pointer (some ⟨w.heap.size, 1, none⟩)) ∧ (Ls.getD 2 false = true → u76 = .int .i64 (n : Int)) ∧ (Ls.getD 3 false = true → ISl wx w.heap.size u77 n (allI n)) ∧ (Ls.getD 4 false = true → (∃ a' c', u78 = .tuple #[.agg #[.int .i64 L, .int .i64 (n : Int), .slice a' es.length c'], .int .i64 0] ∧ EdgesAt wx w.heap.size (.slice a' es.length c') es)) ∧ (Ls.getD 5 false = true → (∃ a' c', u73 = .tuple #[.agg #[.int .i64 L, .int .i64 (n : Int), .slice a' es.length c'], .int .i64 0] ∧ EdgesAt wx w.heap.size (.slice a' es.length c') es)) ∧ (Ls.getD 6 false = true → (∃ a' c', u79 = .agg #[.int .i64 L, .int .i64 (n : Int), .slice a' es.length c'] ∧ EdgesAt wx w.heap.size (.slice a' es.length c') es)) ∧ (Ls.getD 7 false = true → u80 = .int .i64 0) ∧ (Ls.getD 8 false = true → (∃ p x y z, u18 = .pointer (some ⟨p, 0, none⟩) ∧ W9.heap.size ≤ p ∧ GBox wx p x y z ∧ (Ls.getD 9 false = true → ∃ a' c', x = .int .i64 L ∧ y = .int .i64 (n : Int) ∧ z = .slice a' es.length c' ∧ EdgesAt wx w.heap.size (.slice a' es.length c') es))) ∧ (Ls.getD 10 false = true → u19 = .int .i64 0) ∧ (Ls.getD 9 false = true → Ls.getD 8 false = true))) hmx (by kernel_rfl) ?_ ?_ ?_
      · exact ⟨undef, undef, undef, undef, undef, undef, undef, undef, undef, undef, rfl, KB, fun h => absurd h (by decide), fun h => absurd h (by decide), fun h => absurd h (by decide), fun h => absurd h (by decide), fun h => absurd h (by decide), fun h => absurd h (by decide), fun h => absurd h (by decide), fun h => absurd h (by decide), fun h => absurd h (by decide), fun h => absurd h (by decide), fun h => absurd h (by decide)⟩
      · intro i hi Ls act wx hl hw ⟨u74, u75, u76, u77, u78, u73, u79, u80, u18, u19, ha, lo, c0, c1, c2, c3, c4, c5, c6, c7, c8, c10, k9⟩
        subst ha
        obtain ⟨g1, g2, g3⟩ := id (PG.out.keep lo)
        clear KB
        have hi' : i = 0 ∨ i = 1 ∨ i = 2 ∨ i = 3 ∨ i = 4 ∨ i = 5 ∨ i = 6 ∨ i = 7 ∨ i = 8 ∨ i = 9 ∨ i = 10 := by
          have : i < 11 := hi
          omega
        rcases hi' with rfl | rfl | rfl | rfl | rfl | rfl | rfl | rfl | rfl | rfl | rfl
        · refine stepJ (i := 0) rfl (fun K hK => ?_)
          go_simp
          refine hK.out _ _ ⟨_, u75, u76, u77, u78, u73, u79, u80, u18, u19, rfl, lo, fun _ => rfl, fun h => c1 (fl (by decide) h), fun h => c2 (fl (by decide) h), fun h => (c3 (fl (by decide) h)), fun h => c4 (fl (by decide) h), fun h => c5 (fl (by decide) h), fun h => c6 (fl (by decide) h), fun h => c7 (fl (by decide) h), fun h => by obtain ⟨p, x, y, z, y1, y2, y3, y4⟩ := c8 (fl (by decide) h); exact ⟨p, x, y, z, y1, y2, y3, fun h' => y4 (fl (by decide) h')⟩, fun h => c10 (fl (by decide) h), fun h => getD_set_true (k9 (fl (by decide) h))⟩
        · refine stepJ (i := 1) rfl (fun K hK => ?_)
          go_simp
          refine hK.out _ _ ⟨u74, _, u76, u77, u78, u73, u79, u80, u18, u19, rfl, lo, fun h => c0 (fl (by decide) h), fun _ => rfl, fun h => c2 (fl (by decide) h), fun h => (c3 (fl (by decide) h)), fun h => c4 (fl (by decide) h), fun h => c5 (fl (by decide) h), fun h => c6 (fl (by decide) h), fun h => c7 (fl (by decide) h), fun h => by obtain ⟨p, x, y, z, y1, y2, y3, y4⟩ := c8 (fl (by decide) h); exact ⟨p, x, y, z, y1, y2, y3, fun h' => y4 (fl (by decide) h')⟩, fun h => c10 (fl (by decide) h), fun h => getD_set_true (k9 (fl (by decide) h))⟩
        · refine stepJ (i := 2) rfl (fun K hK => ?_)
          obtain rfl := c1 (hw 1 (by kernel_rfl))
          go_simp
          refine hK.out _ _ ⟨u74, _, _, u77, u78, u73, u79, u80, u18, u19, rfl, lo, fun h => c0 (fl (by decide) h), fun _ => rfl, fun _ => rfl, fun h => (c3 (fl (by decide) h)), fun h => c4 (fl (by decide) h), fun h => c5 (fl (by decide) h), fun h => c6 (fl (by decide) h), fun h => c7 (fl (by decide) h), fun h => by obtain ⟨p, x, y, z, y1, y2, y3, y4⟩ := c8 (fl (by decide) h); exact ⟨p, x, y, z, y1, y2, y3, fun h' => y4 (fl (by decide) h')⟩, fun h => c10 (fl (by decide) h), fun h => getD_set_true (k9 (fl (by decide) h))⟩
        · refine stepJ (i := 3) rfl (fun K hK => ?_)
          obtain rfl := c2 (hw 2 (by kernel_rfl))
          go_simp
          go_at_call 31
          refine (HCA.out _).mono ?_
          rintro e W2 ⟨d', f', rfl, i2, b2⟩
          go_wp2_with fail
          refine hK.out _ _ ⟨u74, u75, _, _, u78, u73, u79, u80, u18, u19, rfl, below_more lo (Nat.le_refl _) b2, fun h => c0 (fl (by decide) h), fun h => c1 (fl (by decide) h), fun _ => rfl, fun _ => ⟨d', f', rfl, own_low i2 (Nat.le_trans PB.out.size lo.size)⟩, fun h => by obtain ⟨a', c', y1, y2⟩ := c4 (fl (by decide) h); exact ⟨a', c', y1, y2.keep b2⟩, fun h => by obtain ⟨a', c', y1, y2⟩ := c5 (fl (by decide) h); exact ⟨a', c', y1, y2.keep b2⟩, fun h => by obtain ⟨a', c', y1, y2⟩ := c6 (fl (by decide) h); exact ⟨a', c', y1, y2.keep b2⟩, fun h => c7 (fl (by decide) h), fun h => by obtain ⟨p, x, y, z, y1, y2, y3, y4⟩ := c8 (fl (by decide) h); exact ⟨p, x, y, z, y1, y2, y3.keep b2, fun h' => by obtain ⟨a', c', z1, z2, z3, z4⟩ := y4 (fl (by decide) h'); exact ⟨a', c', z1, z2, z3, z4.keep b2⟩⟩, fun h => c10 (fl (by decide) h), fun h => getD_set_true (k9 (fl (by decide) h))⟩
        · refine stepJ (i := 4) rfl (fun K hK => ?_)
          obtain rfl := c0 (hw 0 (by kernel_rfl))
          obtain ⟨d', f', rfl, i2⟩ := c3 (hw 3 (by kernel_rfl))
          have i2 := Lib.hid i2
          go_simp
          go_at_call 23
          refine (HKA.out _ _ (HRD.out.keep (PB.out.trans (lo.mono PB.out.size))) i2.out.rd).mono ?_
          rintro e W2 ⟨a', c', rfl, e2, b2⟩
          go_wp2_with fail
          refine hK.out _ _ ⟨_, u75, u76, _, _, u73, u79, u80, u18, u19, rfl, below_more lo (Nat.le_refl _) b2, fun _ => rfl, fun h => c1 (fl (by decide) h), fun h => c2 (fl (by decide) h), fun _ => ⟨d', f', rfl, i2.out.keep b2⟩, fun _ => ⟨a', c', rfl, own_low e2 (Nat.le_trans PB.out.size lo.size)⟩, fun h => by obtain ⟨a', c', y1, y2⟩ := c5 (fl (by decide) h); exact ⟨a', c', y1, y2.keep b2⟩, fun h => by obtain ⟨a', c', y1, y2⟩ := c6 (fl (by decide) h); exact ⟨a', c', y1, y2.keep b2⟩, fun h => c7 (fl (by decide) h), fun h => by obtain ⟨p, x, y, z, y1, y2, y3, y4⟩ := c8 (fl (by decide) h); exact ⟨p, x, y, z, y1, y2, y3.keep b2, fun h' => by obtain ⟨a', c', z1, z2, z3, z4⟩ := y4 (fl (by decide) h'); exact ⟨a', c', z1, z2, z3, z4.keep b2⟩⟩, fun h => c10 (fl (by decide) h), fun h => getD_set_true (k9 (fl (by decide) h))⟩
        · refine stepJ (i := 5) rfl (fun K hK => ?_)
          obtain ⟨a', c', rfl, e2⟩ := c4 (hw 4 (by kernel_rfl))
          have e2 := Lib.hid e2
          go_simp
          refine hK.out _ _ ⟨u74, u75, u76, u77, _, _, u79, u80, u18, u19, rfl, lo, fun h => c0 (fl (by decide) h), fun h => c1 (fl (by decide) h), fun h => c2 (fl (by decide) h), fun h => (c3 (fl (by decide) h)), fun _ => ⟨a', c', rfl, e2.out⟩, fun _ => ⟨a', c', rfl, e2.out⟩, fun h => c6 (fl (by decide) h), fun h => c7 (fl (by decide) h), fun h => by obtain ⟨p, x, y, z, y1, y2, y3, y4⟩ := c8 (fl (by decide) h); exact ⟨p, x, y, z, y1, y2, y3, fun h' => y4 (fl (by decide) h')⟩, fun h => c10 (fl (by decide) h), fun h => getD_set_true (k9 (fl (by decide) h))⟩
        · refine stepJ (i := 6) rfl (fun K hK => ?_)
          obtain ⟨a', c', rfl, e2⟩ := c5 (hw 5 (by kernel_rfl))
          have e2 := Lib.hid e2
          go_simp
          refine hK.out _ _ ⟨u74, u75, u76, u77, u78, _, _, u80, u18, u19, rfl, lo, fun h => c0 (fl (by decide) h), fun h => c1 (fl (by decide) h), fun h => c2 (fl (by decide) h), fun h => (c3 (fl (by decide) h)), fun h => c4 (fl (by decide) h), fun _ => ⟨a', c', rfl, e2.out⟩, fun _ => ⟨a', c', rfl, e2.out⟩, fun h => c7 (fl (by decide) h), fun h => by obtain ⟨p, x, y, z, y1, y2, y3, y4⟩ := c8 (fl (by decide) h); exact ⟨p, x, y, z, y1, y2, y3, fun h' => y4 (fl (by decide) h')⟩, fun h => c10 (fl (by decide) h), fun h => getD_set_true (k9 (fl (by decide) h))⟩
        · refine stepJ (i := 7) rfl (fun K hK => ?_)
          obtain ⟨a', c', rfl, e2⟩ := c5 (hw 5 (by kernel_rfl))
          have e2 := Lib.hid e2
          go_simp
          refine hK.out _ _ ⟨u74, u75, u76, u77, u78, _, u79, _, u18, u19, rfl, lo, fun h => c0 (fl (by decide) h), fun h => c1 (fl (by decide) h), fun h => c2 (fl (by decide) h), fun h => (c3 (fl (by decide) h)), fun h => c4 (fl (by decide) h), fun _ => ⟨a', c', rfl, e2.out⟩, fun h => c6 (fl (by decide) h), fun _ => rfl, fun h => by obtain ⟨p, x, y, z, y1, y2, y3, y4⟩ := c8 (fl (by decide) h); exact ⟨p, x, y, z, y1, y2, y3, fun h' => y4 (fl (by decide) h')⟩, fun h => c10 (fl (by decide) h), fun h => getD_set_true (k9 (fl (by decide) h))⟩
        · refine stepJ (i := 8) rfl (fun K hK => ?_)
          go_simp
          refine hK.out _ _ ⟨u74, u75, u76, u77, u78, u73, u79, u80, _, u19, rfl, lo.alloc lo.size _, fun h => c0 (fl (by decide) h), fun h => c1 (fl (by decide) h), fun h => c2 (fl (by decide) h), fun h => (c3 (fl (by decide) h)).keep (below1 wx _), fun h => by obtain ⟨a', c', y1, y2⟩ := c4 (fl (by decide) h); exact ⟨a', c', y1, y2.keep (below1 wx _)⟩, fun h => by obtain ⟨a', c', y1, y2⟩ := c5 (fl (by decide) h); exact ⟨a', c', y1, y2.keep (below1 wx _)⟩, fun h => by obtain ⟨a', c', y1, y2⟩ := c6 (fl (by decide) h); exact ⟨a', c', y1, y2.keep (below1 wx _)⟩, fun h => c7 (fl (by decide) h), fun _ => ⟨wx.heap.size, _, _, _, rfl, lo.size, GBox.new wx _ _ _, fun h => absurd ((k9 (fl (by decide) h)).symm.trans hl) (by decide)⟩, fun h => c10 (fl (by decide) h), fun h => getD_set_true (k9 (fl (by decide) h))⟩
        · refine stepJ (i := 9) rfl (fun K hK => ?_)
          obtain ⟨a', c', rfl, e2⟩ := c6 (hw 6 (by kernel_rfl))
          obtain ⟨p, x, y, z, rfl, hp, hG, -⟩ := c8 (hw 8 (by kernel_rfl))
          obtain ⟨y1, y2, y3, y4, y5, y6⟩ := hG.cells
          have e2 := Lib.hid e2
          go_simp
          refine hK.out _ _ ⟨u74, u75, u76, u77, u78, u73, _, u80, _, u19, rfl, set3_below lo hp _ _ _, fun h => c0 (fl (by decide) h), fun h => c1 (fl (by decide) h), fun h => c2 (fl (by decide) h), fun h => by obtain ⟨d', f', y1, y2⟩ := c3 (fl (by decide) h); exact ⟨d', f', y1, hG.row (by decide) y2 _ _ _⟩, fun h => by obtain ⟨a', c', y1, y2⟩ := c4 (fl (by decide) h); exact ⟨a', c', y1, hG.row (by decide) y2 _ _ _⟩, fun h => by obtain ⟨a', c', y1, y2⟩ := c5 (fl (by decide) h); exact ⟨a', c', y1, hG.row (by decide) y2 _ _ _⟩, fun _ => ⟨a', c', rfl, hG.row (by decide) e2.out _ _ _⟩, fun h => c7 (fl (by decide) h), fun _ => ⟨p, _, _, _, rfl, hp, hG.set _ _ _, fun _ => ⟨a', c', rfl, rfl, rfl, hG.row (by decide) e2.out _ _ _⟩⟩, fun h => c10 (fl (by decide) h), fun _ => getD_set_true (hw 8 (by kernel_rfl))⟩
        · refine stepJ (i := 10) rfl (fun K hK => ?_)
          obtain rfl := c7 (hw 7 (by kernel_rfl))
          go_simp
          refine hK.out _ _ ⟨u74, u75, u76, u77, u78, u73, u79, _, u18, _, rfl, lo, fun h => c0 (fl (by decide) h), fun h => c1 (fl (by decide) h), fun h => c2 (fl (by decide) h), fun h => (c3 (fl (by decide) h)), fun h => c4 (fl (by decide) h), fun h => c5 (fl (by decide) h), fun h => c6 (fl (by decide) h), fun _ => rfl, fun h => by obtain ⟨p, x, y, z, y1, y2, y3, y4⟩ := c8 (fl (by decide) h); exact ⟨p, x, y, z, y1, y2, y3, fun h' => y4 (fl (by decide) h')⟩, fun _ => rfl, fun h => getD_set_true (k9 (fl (by decide) h))⟩
      · rintro Ls act wx hall ⟨u74, u75, u76, u77, u78, u73, u79, u80, u18, u19, rfl, lo, c0, c1, c2, c3, c4, c5, c6, c7, c8, c10, k9⟩
        obtain rfl := c0 (hall 0 (by decide))
        obtain rfl := c1 (hall 1 (by decide))
        obtain rfl := c2 (hall 2 (by decide))
        obtain rfl := c7 (hall 7 (by decide))
        obtain rfl := c10 (hall 10 (by decide))
        obtain ⟨d77, f77, rfl, -⟩ := c3 (hall 3 (by decide))
        obtain ⟨a78, c78, rfl, -⟩ := c4 (hall 4 (by decide))
        obtain ⟨a73, c73, rfl, -⟩ := c5 (hall 5 (by decide))
        obtain ⟨a79, c79, rfl, -⟩ := c6 (hall 6 (by decide))
        obtain ⟨p18, x18, y18, z18, rfl, hp18, hG18, H18⟩ := c8 (hall 8 (by decide))
        obtain ⟨a18, c18, rfl, rfl, rfl, E18⟩ := H18 (hall 9 (by decide))
        clear hall c0 c1 c2 c3 c4 c5 c6 c7 c8 c10 k9 H18
        have DX := Lib.hid (D8.out.keep lo)
        have EX := Lib.hid (EdgesAt.keep E8.out lo)
        have QX := Lib.hid (Q8.out.keep lo)
        have FX := Lib.hid (EdgesAt.keep F8.out lo)
        have RX := Lib.hid (R8.out.keep lo)
        have HX := Lib.hid (EdgesAt.keep H8.out lo)
        have SX := Lib.hid (S8.out.keep lo)
        have TX := Lib.hid hG18.g
        have VX := Lib.hid E18
        clear lo hG18 hp18 E18 D8 E8 Q8 F8 R8 H8 S8 KB HD8 PG PB HCA HKA
        obtain ⟨g1, g2, g3⟩ := id DX.out.g
        obtain ⟨r1, r2, r3⟩ := id RX.out
        obtain ⟨s1, s2, s3⟩ := id SX.out
        dsimp only
        go_wp2_with (first
          | (go_at_call 15; (with_reducible refine (HSM1.out _ _ _ (EdgesAt.rd FX.out) (EdgesAt.rd HX.out)).mono ?_); rintro e0 W10 ⟨rfl, b10⟩; (have DY := Lib.hid (DX.out.keep b10)); (have EY := Lib.hid (EdgesAt.keep EX.out b10)); (have QY := Lib.hid (QX.out.keep b10)); (have TY := Lib.hid (TX.out.keep b10)); (have VY := Lib.hid (EdgesAt.keep VX.out b10)); (clear b10 DX EX QX TX VX FX HX RX SX g1 g2 g3 r1 r2 r3 s1 s2 s3); (obtain ⟨g1, g2, g3⟩ := id DY.out.g); (obtain ⟨r1, r2, r3⟩ := id TY.out))
          | (go_at_call 15; (with_reducible refine (HSM2.out _ _ _ (EdgesAt.rd VY.out) (HRD.out.keep DY.out.b)).mono ?_); rintro e0 W11 ⟨rfl, b11⟩; (have Z := Lib.hid (show GQ w L n k (.slice a es.length c) p12 (.slice a4 mp c4) ps W11 from ⟨(DY.out.keep b11).g, QY.out.keep b11, EdgesAt.keep EY.out b11, (DY.out.keep b11).b⟩)); (clear b11 DY EY QY TY VY g1 g2 g3 r1 r2 r3); (obtain ⟨g1, g2, g3⟩ := id Z.out.g)))
        obtain ⟨m, hm⟩ : ∃ m : Nat, (m : Int) = min L 16 := ⟨(min L 16).toNat, by omega⟩
        have hmn := run_min16 (P := Tryd.prog) .i64 L m hm
        have HM := Lib.hid hm
        have hm16 : m ≤ 16 := by omega
        have hmL : (m : Int) ≤ L := by omega
        clear hm
        go_loopg [20, 101] n (fun q s20 s101 wy => ∃ s : Nat, s + q = n ∧ s101 = .int .i64 (s : Int) ∧ s20 = .bool (uqA n m es s) ∧ GQ w L n k (.slice a es.length c) p12 (.slice a4 mp c4) ps wy)
        case atStart => exact ⟨0, by omega, rfl, rfl, Z.out⟩
        case round =>
          clear Z g1 g2 g3
          obtain ⟨s, hs, rfl, rfl, hZ⟩ := hrel
          have ZR := Lib.hid hZ
          obtain ⟨g1, g2, g3⟩ := id hZ.g
          obtain ⟨r1, r2, r3⟩ := id hZ.q
          clear hZ
          rcases gk with _ | q
          · obtain rfl : s = n := by omega
            clear hs hmn
            have HDQ := Lib.hid (fun (h : L ≤ 16) => HUQ.out m (by have := HM.out; omega))
            clear HUQ HM HST
            obtain ⟨U, hU⟩ : ∃ U, uqA s m es s = U := ⟨_, rfl⟩
            rw [hU] at HDQ ⊢
            clear hU
            by_cases h16 : 16 < L
            · have d16 : decide (16 < L) = true := decide_eq_true h16
              clear HDQ
              cases dE with
              | true =>
                obtain rfl := HDP.out rfl
                go_wp2_with (first
                  | (go_at_call 21; (with_reducible refine (HD1.out _ (HRD.out.keep ZR.out.b)).mono ?_); rintro e0 W13 ⟨rfl, b13⟩; (have Z13 := Lib.hid (ZR.out.keep b13)); (clear b13 ZR g1 g2 g3 r1 r2 r3); (obtain ⟨r1, r2, r3⟩ := id Z13.out.q))
                  | (go_at_call 21; (with_reducible refine (HD2.out _ _ (EdgesAt.rd Z13.out.e)).mono ?_); rintro e0 W14 ⟨rfl, b14⟩; (have Z14 := Lib.hid (Z13.out.keep b14)); (clear b14 Z13 r1 r2 r3); (obtain ⟨g1, g2, g3⟩ := id Z14.out.g))
                  | (go_at_call 10; (with_reducible refine (HAW.out _).mono ?_); rintro e0 W15 ⟨rfl, b15⟩; (have B15 := Lib.hid (below_more Z14.out.b (Nat.le_refl _) b15)); (clear b15)))
                go_ret
                exact ⟨rfl, B15.out⟩
              | false =>
                cases dP <;>
                · go_wp2_with (first
                    | (go_at_call 21; (with_reducible refine (HD1.out _ (HRD.out.keep ZR.out.b)).mono ?_); rintro e0 W13 ⟨rfl, b13⟩; (have Z13 := Lib.hid (ZR.out.keep b13)); (clear b13 ZR g1 g2 g3 r1 r2 r3); (obtain ⟨r1, r2, r3⟩ := id Z13.out.q))
                    | (go_at_call 21; (with_reducible refine (HD2.out _ _ (EdgesAt.rd Z13.out.e)).mono ?_); rintro e0 W14 ⟨rfl, b14⟩; (have Z14 := Lib.hid (Z13.out.keep b14)); (clear b14 Z13 r1 r2 r3); (obtain ⟨g1, g2, g3⟩ := id Z14.out.g))
                    | (go_at_call 10; (with_reducible refine (HAW.out _).mono ?_); rintro e0 W15 ⟨rfl, b15⟩; (have B15 := Lib.hid (below_more Z14.out.b (Nat.le_refl _) b15)); (clear b15)))
                  go_ret
                  exact ⟨rfl, B15.out⟩
            · have d16 : decide (16 < L) = false := decide_eq_false h16
              obtain rfl : dE = U := HDQ.out (by omega)
              clear HDQ
              cases dE with
              | true =>
                obtain rfl := HDP.out rfl
                go_wp2_with (first
                  | (go_at_call 21; (with_reducible refine (HD1.out _ (HRD.out.keep ZR.out.b)).mono ?_); rintro e0 W13 ⟨rfl, b13⟩; (have Z13 := Lib.hid (ZR.out.keep b13)); (clear b13 ZR g1 g2 g3 r1 r2 r3); (obtain ⟨r1, r2, r3⟩ := id Z13.out.q))
                  | (go_at_call 21; (with_reducible refine (HD2.out _ _ (EdgesAt.rd Z13.out.e)).mono ?_); rintro e0 W14 ⟨rfl, b14⟩; (have Z14 := Lib.hid (Z13.out.keep b14)); (clear b14 Z13 r1 r2 r3); (obtain ⟨g1, g2, g3⟩ := id Z14.out.g))
                  | (go_at_call 10; (with_reducible refine (HAW.out _).mono ?_); rintro e0 W15 ⟨rfl, b15⟩; (have B15 := Lib.hid (below_more Z14.out.b (Nat.le_refl _) b15)); (clear b15)))
                go_ret
                exact ⟨rfl, B15.out⟩
              | false =>
                cases dP <;>
                · go_wp2_with (first
                    | (go_at_call 21; (with_reducible refine (HD1.out _ (HRD.out.keep ZR.out.b)).mono ?_); rintro e0 W13 ⟨rfl, b13⟩; (have Z13 := Lib.hid (ZR.out.keep b13)); (clear b13 ZR g1 g2 g3 r1 r2 r3); (obtain ⟨r1, r2, r3⟩ := id Z13.out.q))
                    | (go_at_call 21; (with_reducible refine (HD2.out _ _ (EdgesAt.rd Z13.out.e)).mono ?_); rintro e0 W14 ⟨rfl, b14⟩; (have Z14 := Lib.hid (Z13.out.keep b14)); (clear b14 Z13 r1 r2 r3); (obtain ⟨g1, g2, g3⟩ := id Z14.out.g))
                    | (go_at_call 10; (with_reducible refine (HAW.out _).mono ?_); rintro e0 W15 ⟨rfl, b15⟩; (have B15 := Lib.hid (below_more Z14.out.b (Nat.le_refl _) b15)); (clear b15)))
                  go_ret
                  exact ⟨rfl, B15.out⟩
          · have j1 : (s : Int) < (n : Int) := by omega
            have hsn : s < n := by omega
            go_wp2_with fail
            go_loopg [20, 107] m (fun q2 s20 s107 wy => ∃ l : Nat, l + q2 = m ∧ s107 = .int .i64 (l : Int) ∧ s20 = .bool (uqB n m es s l) ∧ GQ w L n k (.slice a es.length c) p12 (.slice a4 mp c4) ps wy)
            case atStart => exact ⟨0, by omega, rfl, by rw [uqB_zero], ZR.out⟩
            case round =>
              clear ZR g1 g2 g3 r1 r2 r3 hmn
              obtain ⟨l, hl, rfl, rfl, hZ⟩ := hrel
              have ZS := Lib.hid hZ
              obtain ⟨g1, g2, g3⟩ := id hZ.g
              clear hZ
              rcases gk with _ | q2
              · obtain rfl : l = m := by omega
                have HE := Lib.hid (uqB_end n l es s)
                clear hl
                go_wp2_with fail
                go_roundg q
                case measure => omega
                case rel => exact ⟨s + 1, by omega, by go_num, by rw [HE.out], ZS.out⟩
              · have j2 : (l : Int) < (m : Int) := by omega
                have HS1 := Lib.hid (HST.out s l hsn (by omega) _ (HRD.out.keep ZS.out.b))
                have HSU := Lib.hid (uqB_succ n m es s l)
                obtain ⟨U, hU⟩ : ∃ U, uqB n m es s l = U := ⟨_, rfl⟩
                rw [hU] at HSU ⊢
                clear hU
                go_upto_region 25 with (go_at_call 19; (with_reducible refine HS1.out.mono ?_); rintro e0 W12 ⟨a12, k12, c12, rfl, hk12, b12⟩; (have HK12 := Lib.hid hk12); (have Z12 := Lib.hid (ZS.out.keep b12)); (clear b12 hk12 ZS g1 g2 g3 HS1))
                rcases Nat.lt_or_ge k12 2 with hk | hk
                · have d1 : decide ((k12 : Int) < 2) = true := decide_eq_true (by omega)
                  have d2 : decide (k12 < 2) = true := decide_eq_true hk
                  have HV := Lib.hid (show smL n es s l = true from HK12.out.symm.trans d2)
                  cases U <;>
                  · go_wp2_with fail
                    go_roundg q2
                    case measure => omega
                    case rel => exact ⟨l + 1, by omega, by go_num, by rw [HSU.out, HV.out]; rfl, Z12.out⟩
                · have d1 : decide ((k12 : Int) < 2) = false := decide_eq_false (by omega)
                  have d2 : decide (k12 < 2) = false := decide_eq_false (by omega)
                  have HV := Lib.hid (show smL n es s l = false from HK12.out.symm.trans d2)
                  cases U <;>
                  · go_wp2_with fail
                    go_roundg q2
                    case measure => omega
                    case rel => exact ⟨l + 1, by omega, by go_num, by rw [HSU.out, HV.out]; rfl, Z12.out⟩
    · obtain ⟨x, hx⟩ : ∃ x, inn[i]? = some x := ⟨_, List.getElem?_eq_getElem (by have := HJL.out; omega)⟩
      have hxb := HSI.out.bd x (List.mem_of_getElem? hx)
      obtain ⟨t, rfl⟩ : ∃ t : Nat, x = (t : Int) := ⟨x.toNat, by omega⟩
      obtain ⟨y, hy⟩ : ∃ y, st[t]? = some y := ⟨_, List.getElem?_eq_getElem (by have := HKL.out; omega)⟩
      obtain ⟨bi, oi, ci, hv, k1⟩ := (IntsAt.rd PR.out.i).at hx
      injection hv with e1 e2 e3
      subst e1
      subst e3
      obtain ⟨bs, os, cs, hv, k2⟩ := (IntsAt.rd PR.out.s).at hy
      injection hv with e1 e4 e3
      subst e1
      subst e3
      have HS := Lib.hid (bothI_snoc hx hy)
      have j1 : (i : Int) < (j : Int) := by omega
      have j2 : (t : Int) < (k : Int) := by omega
      have hml : (bothI st (inn.take i)).length ≤ 64 := by
        unfold bothI
        refine Nat.le_trans (List.length_filterMap_le _ _) ?_
        rw [List.length_take]
        omega
      have hlt := hO.lt
      have hown0 := hO
      unfold IntsAt at hown0
      obtain ⟨a9, c9, rfl⟩ := hO.slice
      obtain ⟨mm, hm⟩ : ∃ mm, (bothI st (inn.take i)).length = mm := ⟨_, rfl⟩
      rw [hm] at hown0 hml hlt ⊢
      have HM := Lib.hid hm
      clear hO hm hx hy hxb e2 e4
      go_wp2_with (first | (at_builtin; refine wpList_append_own_at _ rfl _ _ 32 rfl W3.heap.size 3 i0 (.int .i64 0) 1 8 Tryd.underlying32 hi hz0 hz1 hz2 rfl (by decide) _ _ _ rfl (hown0.alloc _) ⟨wr.heap.size, 0, none⟩ 1 1 [.int .i64 y] rfl rfl ?c1 ?c2 ?c3 ?c4 ?c5 ?_))
      case c1 => exact cell_one_new _ _ _
      case c2 => first | rfl | (intro u hu; simp at hu; subst hu; rfl)
      case c3 => unfold maxLen; omega
      case c4 => omega
      case c5 => have := hB.size; first | omega | (rw [World.size_alloc]; omega)
      intro v' W2 hown2 hgrow _ hv'
      have hb2 : Below W3.heap.size W3 W2 := (hB.alloc hB.size _).grown hgrow (by rw [World.size_alloc]; have := hB.size; omega) (fun k hk => (hlt k hk).1)
      rw [← intz_snoc, ← HS.out] at hown2
      have HI2 := Lib.hid (show IntsAt W2 W3.heap.size v' (bothI st (inn.take (i + 1))) by unfold IntsAt; rw [HS.out, List.length_append, HM.out]; rw [HS.out] at hown2; exact hown2)
      obtain ⟨a', c', rfl⟩ := own_slice hown2
      clear hown0 hown2 hgrow hlt hv' hB PR g1 g2 g3 k1 k2
      go_wp2_with fail
      go_roundg q
      case measure => omega
      case rel => exact ⟨i + 1, by omega, by go_num, HI2.out, hb2⟩
end Go.Proofs.YtiebhalefdpjiaaDoor
