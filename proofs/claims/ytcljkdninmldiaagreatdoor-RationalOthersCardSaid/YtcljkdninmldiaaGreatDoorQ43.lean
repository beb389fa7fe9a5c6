/- What the reference implementation's Parse of layer 2 returns. Condition: the text has at most 65536 bytes. The simplest number between two others: between them, with the least denominator, and which it is. Plain facts; no condition. The simplest number between two positive numbers, as it comes about from its end: there is one, and only one. Plain facts; no condition. -/
import Derived.Test.YtcljkdninmldiaaGreatDoorQ42
import Derived.Test.YtcljkdninmldiaaGreatDoorQ39
import Derived.Test.YtcljkdninmldiaaGreatDoorQ36
import Derived.Test.YtcljkdninmldiaaGreatDoorQ32

namespace Go.Proofs.YtcljkdninmldiaaGreatDoor
open Go.RowKit
set_option linter.unusedSimpArgs false
set_option linter.unusedVariables false
attribute [local go_sem ↓] eqlInt guardInt2

theorem run_head_at (l g : List UInt8) (k : Nat) (h : k ≤ l.length) (hg : l.take k = g) (w : World) :
    (Instr.slice 9 (.string ⟨l.toArray⟩) none (some (.int .i64 (k : Int))) none).run Tryz.prog w = .ok (.string ⟨g.toArray⟩) w := by
  have hg' : (l.drop 0).take (k - 0) = g := by rw [List.drop_zero, Nat.sub_zero]; exact hg
  rw [run_slice_string_h w 9 ⟨l.toArray⟩ Tryz.underlying9 .i64 (k : Int) (by omega) (by simp [ByteArray.size]; omega), Int.toNat_natCast, ByteArray.extract_mk, hg']
theorem run_tail_at (l g : List UInt8) (k : Nat) (z : Int) (hz : z = ((k + 1 : Nat) : Int)) (h : k + 1 ≤ l.length) (hg : l.drop (k + 1) = g) (w : World) :
    (Instr.slice 9 (.string ⟨l.toArray⟩) (some (.int .i64 z)) none none).run Tryz.prog w = .ok (.string ⟨g.toArray⟩) w := by
  subst hz
  rw [run_slice_string_l w 9 ⟨l.toArray⟩ Tryz.underlying9 .i64 ((k + 1 : Nat) : Int) (by omega) (by simp [ByteArray.size]; omega), Int.toNat_natCast]
  congr 2
  apply ByteArray.ext
  rw [← hg]
  simp [ByteArray.size]
  exact List.take_of_length_le (by simp)
theorem rp_some {l : List UInt8} {z : Int} {w : World} (hl : l.length ≤ 65536) (h : pz l = some z) : Calls Tryz.prog 35 #[.string ⟨l.toArray⟩] w (GoodOut w z) := by
  have := rparse01_any l w hl
  rw [h] at this
  exact this
theorem rp_none {l : List UInt8} {w : World} (hl : l.length ≤ 65536) (h : pz l = none) : Calls Tryz.prog 35 #[.string ⟨l.toArray⟩] w (FailOut w 3) := by
  have := rparse01_any l w hl
  rw [h] at this
  exact this
theorem pz_one : pz [49] = some 1 := by decide
theorem pq_parts {l a b : List UInt8} {c : Bool} (e : Lib.cut l [47] = (a, b, c)) : pq l = match pz a with
    | none => none
    | some n => if c = false then some (n : Rat) else
      match pz b with
      | none => none
      | some d => if d = 1 ∨ ¬ (n = (Rat.divInt n d).num ∧ d = ((Rat.divInt n d).den : Int)) then none else some (Rat.divInt n d) := by
  unfold pq
  simp only [e]
  rcases pz a with _ | n
  · rfl
  · rcases pz b with _ | d <;> rfl
theorem pq_no1 {l a b : List UInt8} {c : Bool} (e : Lib.cut l [47] = (a, b, c)) (h : pz a = none) : pq l = none := by rw [pq_parts e, h]
theorem pq_no2 {l a b t : List UInt8} {c : Bool} (e : Lib.cut l [47] = (a, b, c)) (ht : t = if c = true then b else [49]) (h : pz t = none) : pq l = none := by
  cases c with
  | false => rw [ht, if_neg (by decide), pz_one] at h; cases h
  | true =>
    rw [if_pos rfl] at ht
    subst ht
    rw [pq_parts e, h]
    rcases pz a with _ | n
    · rfl
    · rfl
theorem pq_some {l a b t : List UInt8} {c : Bool} {n d : Int} (e : Lib.cut l [47] = (a, b, c)) (ht : t = if c = true then b else [49]) (hn : pz a = some n) (hd : pz t = some d) {q : Rat} (h : pq l = some q) : q = Rat.divInt n d ∧ 0 < d := by
  rw [pq_parts e, hn] at h
  dsimp only at h
  cases c with
  | false =>
    rw [ht, if_neg (by decide), pz_one] at hd
    rw [if_pos rfl] at h
    injection h with h
    injection hd with hd
    rw [← h, ← hd, divInt_one]
    exact ⟨rfl, by omega⟩
  | true =>
    rw [if_pos rfl] at ht
    subst ht
    rw [if_neg (by decide), hd] at h
    dsimp only at h
    split at h
    · cases h
    · rename_i hc
      injection h with h
      refine ⟨h.symm, ?_⟩
      have h1 : n = (Rat.divInt n d).num ∧ d = ((Rat.divInt n d).den : Int) := by
        rcases Classical.em (n = (Rat.divInt n d).num ∧ d = ((Rat.divInt n d).den : Int)) with h2 | h2
        · exact h2
        · exact absurd (Or.inr h2) hc
      have := (Rat.divInt n d).den_pos
      omega
theorem pq_no3 {l a b t : List UInt8} {c : Bool} {n d : Int} (e : Lib.cut l [47] = (a, b, c)) (ht : t = if c = true then b else [49]) (hn : pz a = some n) (hd : pz t = some d) (h : d ≤ 0) : pq l = none := by
  cases hq : pq l with
  | none => rfl
  | some q => have := (pq_some e ht hn hd hq).2; omega
theorem pq_no4 {l a b t : List UInt8} {c : Bool} {n d : Int} (e : Lib.cut l [47] = (a, b, c)) (ht : t = if c = true then b else [49]) (hn : pz a = some n) (hd : pz t = some d) (h : prQ (Rat.divInt n d) ≠ l) : pq l = none := by
  cases hq : pq l with
  | none => rfl
  | some q =>
    have h1 := (pq_some e ht hn hd hq).1
    subst h1
    exact absurd (prQ_pq hq) h
theorem ai_pz {l : List UInt8} {z : Int} {K : Nat} (h : pz l = some z) (hl : l.length ≤ K) : AI (.agg #[.bool (sg z), .string (mg z)]) z (4 * K) := by
  refine ai_mg ?_
  have := pz_bd h hl
  rwa [Nat.pow_mul]
/-- An integer's variable. -/
def IV (W : World) (p : Nat) (g : Bool) (s : ByteArray) : Prop := W.cell? ⟨p, 0, none⟩ = some (.bool g) ∧ W.cell? ⟨p, 1, none⟩ = some (.string s)
theorem IV.keep {W W1 : World} {p : Nat} {g : Bool} {s : ByteArray} (h : IV W p g s) (hb : Below W.heap.size W W1) : IV W1 p g s := ⟨cell_keep h.1 hb, cell_keep h.2 hb⟩
theorem IV.new (W : World) (g : Bool) (s : ByteArray) (t : TypeId) : IV (W.alloc (.cells #[.bool g, .string s] t)) W.heap.size g s := by constructor <;> simp [go_sem]

set_option maxRecDepth 100000 in
set_option maxHeartbeats 6400000 in
theorem rprs02_any (l : List UInt8) (w : World) (hl : l.length ≤ 65536) : Calls Tryz.prog 11 #[.string ⟨l.toArray⟩] w (ParseRat w (pq l)) := by
  obtain ⟨K, hK1, hK2⟩ : ∃ K : Nat, 65536 ≤ K ∧ K ≤ 70000 := ⟨65536, by omega, by omega⟩
  obtain ⟨a, b, c, ec⟩ : ∃ a b c, Lib.cut l [47] = (a, b, c) := ⟨_, _, _, rfl⟩
  obtain ⟨t, ht⟩ : ∃ t, t = if c = true then b else [49] := ⟨_, rfl⟩
  obtain ⟨la, lb⟩ := cut_len ec
  have lt : t.length ≤ 65536 := by
    rw [ht]
    split
    · omega
    · simp
  have la6 : a.length ≤ 65536 := by omega
  have Hend := Lib.hid (show (47 : UInt8) ∉ l → a = l ∧ t = [49] by
    intro h
    rw [cut_none h] at ec
    injection ec with e1 e2
    injection e2 with e2 e3
    refine ⟨e1.symm, ?_⟩
    rw [ht, ← e3]
    rfl)
  have Hhit := Lib.hid (show ∀ k, (47 : UInt8) ∉ l.take k → l[k]? = some 47 → l.take k = a ∧ l.drop (k + 1) = t by
    intro k h1 h2
    have h3 : l = l.take k ++ 47 :: l.drop (k + 1) := by
      have hk : k < l.length := (List.getElem?_eq_some_iff.1 h2).1
      have h4 : l.drop k = 47 :: l.drop (k + 1) := by
        rw [List.drop_eq_getElem_cons hk]
        rw [List.getElem?_eq_getElem hk] at h2
        injection h2 with h2
        rw [h2]
      rw [← h4, List.take_append_drop]
    have h5 := cut_hit (a := l.take k) (b := l.drop (k + 1)) h1
    rw [← h3, ec] at h5
    injection h5 with e1 e2
    injection e2 with e2 e3
    refine ⟨e1.symm, ?_⟩
    rw [ht, e3, ← e2]
    rfl)
  have Ec := Lib.hid ec
  have Et := Lib.hid ht
  clear ec ht lb
  have hll : (⟨l.toArray⟩ : ByteArray).size = l.length := by simp [ByteArray.size]
  have P0 := ResRat.new w
  have B0 := below1 w (.cells #[.bool false, .string ⟨#[]⟩, .bool false, .string ⟨#[]⟩] 25)
  obtain ⟨W0, hW0⟩ : ∃ W0, w.alloc (.cells #[.bool false, .string ⟨#[]⟩, .bool false, .string ⟨#[]⟩] 25) = W0 := ⟨_, rfl⟩
  rw [hW0] at P0 B0
  have HW := Lib.hid hW0
  clear hW0
  go_enter Tryz.func11, Tryz.ntmps11
  go_upto_block 0 with fail
  rw [HW.out]
  clear HW
  go_cut [4, 5] (fun s4 s5 wx => s4 = .string ⟨a.toArray⟩ ∧ s5 = .string ⟨t.toArray⟩ ∧ Below W0.heap.size W0 wx)
  case first =>
    go_wp2_with fail
    go_loopg [4, 5, 6] l.length (fun g s4 s5 s6 wx => ∃ k : Nat, k + g = l.length ∧ s4 = .string ⟨l.toArray⟩ ∧ s5 = .string ⟨#[49]⟩ ∧ s6 = .int .i64 (k : Int) ∧ Below W0.heap.size W0 wx ∧ Hid ((47 : UInt8) ∉ l.take k))
    case atStart => exact ⟨0, by omega, rfl, rfl, rfl, Below.refl _ _, by show _ ∉ _; simp⟩
    case round =>
      obtain ⟨k, hk, rfl, rfl, rfl, hb, HN⟩ := hrel
      rcases gk with _ | g
      · obtain rfl : k = l.length := by omega
        have HE := Lib.hid (Hend.out (by have h := HN.out; rwa [List.take_length] at h))
        clear hk HN
        go_wp2_with fail
        go_meet
        exact ⟨by rw [HE.out.1], by rw [HE.out.2], hb⟩
      · obtain ⟨x, hx⟩ : ∃ x, l[k]? = some x := ⟨l[k]'(by omega), List.getElem?_eq_getElem (by omega)⟩
        have hix := run_index_bytes l k x hx (k : Int) rfl
        by_cases h47 : x = 47
        · subst h47
          obtain ⟨e1, e2⟩ := Hhit.out k HN.out hx
          have hsl := run_head_at l a k (by omega) e1
          have hsr := run_tail_at l t k ((k : Int) + 1) (by omega) (by omega) e2
          clear e1 e2 hx HN
          have hk8 : (k : Int) < (l.length : Int) := by omega
          clear hk
          go_wp2_with fail
          go_big_region
          go_wp2_with fail
          go_meet
          exact ⟨rfl, rfl, hb.drew⟩
        · have hne : ((x.toNat : Int) == 47) = false := by
            rw [beq_eq_false_iff_ne]
            intro e
            exact h47 (UInt8.toNat_inj.1 (by simpa using (by omega : x.toNat = 47)))
          have HN2 := Lib.hid (show (47 : UInt8) ∉ l.take (k + 1) by
            rw [List.take_add_one, hx]
            intro hm
            rcases List.mem_append.1 hm with h1 | h1
            · exact HN.out h1
            · exact h47 (List.mem_singleton.1 h1).symm)
          have HK := Lib.hid hk
          have hk8 : (k : Int) < (l.length : Int) := by omega
          clear hx HN hk h47
          go_wp2_with fail
          go_roundg g
          case measure => omega
          case rel => exact ⟨k + 1, by have := HK.out; omega, rfl, rfl, by go_num, hb, HN2⟩
  case rest =>
    obtain ⟨rfl, rfl, hb⟩ := hcut
    have P1 := P0.keep hb
    have B1 := below_more B0 (Nat.le_refl _) hb
    clear P0 B0 hb Hend Hhit
    rcases ha : pz a with _ | n
    · have Ha := Lib.hid ha
      have Hq := Lib.hid (pq_no1 Ec.out ha)
      clear ha
      rcases hd : pz t with _ | d
      · have Hd := Lib.hid hd
        clear hd
        go_wp2_with fail
        refine (rp_none la6 Ha.out).mono ?_
        rintro e W2 ⟨rfl, b2⟩
        have bl := below1 W2 (.cells #[.bool false, .string ⟨#[]⟩] 23)
        have P2 := (P1.keep b2).keep bl
        have B2 := below_more (below_more B1 (Nat.le_refl _) b2) (Nat.le_refl _) bl
        clear P1 B1 b2 bl
        go_upto_region 10 with fail
        generalize W2.alloc (.cells #[.bool false, .string ⟨#[]⟩] 23) = W3 at *
        go_wp2_with fail
        refine (rp_none lt Hd.out).mono ?_
        rintro e W4 ⟨rfl, b4⟩
        have bl := below1 W4 (.cells #[.bool false, .string ⟨#[]⟩] 23)
        have P4 := (P2.keep b4).keep bl
        have B4 := below_more (below_more B2 (Nat.le_refl _) b4) (Nat.le_refl _) bl
        clear P2 B2 b4 bl
        go_upto_region 11 with fail
        generalize W4.alloc (.cells #[.bool false, .string ⟨#[]⟩] 23) = W5 at *
        obtain ⟨⟨r1, r2, r3, r4⟩, r5, r6, r7, r8⟩ := P4
        go_wp2_with fail
        exact bodyPost_ret (v := .tuple #[.agg #[.bool false, .string ⟨#[]⟩, .bool false, .string ⟨#[]⟩], .int .i64 3]) (by simp [results, Tryz.results11, go_sem, r1, r2, r3, r4]) rfl (by rw [Hq.out]; exact ⟨rfl, below4s B4 _ (by omega) _ _ _ _⟩)
      · have Hd := Lib.hid hd
        clear hd
        go_wp2_with fail
        refine (rp_none la6 Ha.out).mono ?_
        rintro e W2 ⟨rfl, b2⟩
        have bl := below1 W2 (.cells #[.bool false, .string ⟨#[]⟩] 23)
        have P2 := (P1.keep b2).keep bl
        have B2 := below_more (below_more B1 (Nat.le_refl _) b2) (Nat.le_refl _) bl
        clear P1 B1 b2 bl
        go_upto_region 10 with fail
        generalize W2.alloc (.cells #[.bool false, .string ⟨#[]⟩] 23) = W3 at *
        go_wp2_with fail
        refine (rp_some lt Hd.out).mono ?_
        rintro e W4 ⟨rfl, b4⟩
        have bl := below1 W4 (.cells #[.bool (sg d), .string (mg d)] 23)
        have P4 := (P2.keep b4).keep bl
        have B4 := below_more (below_more B2 (Nat.le_refl _) b4) (Nat.le_refl _) bl
        clear P2 B2 b4 bl
        go_upto_region 11 with fail
        generalize W4.alloc (.cells #[.bool (sg d), .string (mg d)] 23) = W5 at *
        obtain ⟨⟨r1, r2, r3, r4⟩, r5, r6, r7, r8⟩ := P4
        go_wp2_with fail
        exact bodyPost_ret (v := .tuple #[.agg #[.bool false, .string ⟨#[]⟩, .bool false, .string ⟨#[]⟩], .int .i64 3]) (by simp [results, Tryz.results11, go_sem, r1, r2, r3, r4]) rfl (by rw [Hq.out]; exact ⟨rfl, below4s B4 _ (by omega) _ _ _ _⟩)
    · have Ha := Lib.hid ha
      rcases hd : pz t with _ | d
      · have Hd := Lib.hid hd
        have Hq := Lib.hid (pq_no2 Ec.out Et.out hd)
        clear hd ha
        go_wp2_with fail
        refine (rp_some la6 Ha.out).mono ?_
        rintro e W2 ⟨rfl, b2⟩
        have bl := below1 W2 (.cells #[.bool (sg n), .string (mg n)] 23)
        have P2 := (P1.keep b2).keep bl
        have B2 := below_more (below_more B1 (Nat.le_refl _) b2) (Nat.le_refl _) bl
        clear P1 B1 b2 bl
        go_upto_region 10 with fail
        generalize W2.alloc (.cells #[.bool (sg n), .string (mg n)] 23) = W3 at *
        go_wp2_with fail
        refine (rp_none lt Hd.out).mono ?_
        rintro e W4 ⟨rfl, b4⟩
        have bl := below1 W4 (.cells #[.bool false, .string ⟨#[]⟩] 23)
        have P4 := (P2.keep b4).keep bl
        have B4 := below_more (below_more B2 (Nat.le_refl _) b4) (Nat.le_refl _) bl
        clear P2 B2 b4 bl
        go_upto_region 11 with fail
        generalize W4.alloc (.cells #[.bool false, .string ⟨#[]⟩] 23) = W5 at *
        obtain ⟨⟨r1, r2, r3, r4⟩, r5, r6, r7, r8⟩ := P4
        go_wp2_with fail
        exact bodyPost_ret (v := .tuple #[.agg #[.bool false, .string ⟨#[]⟩, .bool false, .string ⟨#[]⟩], .int .i64 3]) (by simp [results, Tryz.results11, go_sem, r1, r2, r3, r4]) rfl (by rw [Hq.out]; exact ⟨rfl, below4s B4 _ (by omega) _ _ _ _⟩)
      · have Hd := Lib.hid hd
        have In := Lib.hid (ai_pz ha (show a.length ≤ K by omega))
        have Id := Lib.hid (ai_pz hd (show t.length ≤ K by omega))
        clear hd ha
        go_wp2_with fail
        refine (rp_some la6 Ha.out).mono ?_
        rintro e W2 ⟨rfl, b2⟩
        have bl := below1 W2 (.cells #[.bool (sg n), .string (mg n)] 23)
        have P2 := (P1.keep b2).keep bl
        have B2 := below_more (below_more B1 (Nat.le_refl _) b2) (Nat.le_refl _) bl
        have X2 := IV.new W2 (sg n) (mg n) 23
        clear P1 B1 b2 bl
        go_upto_region 10 with fail
        generalize W2.alloc (.cells #[.bool (sg n), .string (mg n)] 23) = W3 at *
        generalize W2.heap.size = p7 at *
        go_wp2_with fail
        refine (rp_some lt Hd.out).mono ?_
        rintro e W4 ⟨rfl, b4⟩
        have bl := below1 W4 (.cells #[.bool (sg d), .string (mg d)] 23)
        have P4 := (P2.keep b4).keep bl
        have B4 := below_more (below_more B2 (Nat.le_refl _) b4) (Nat.le_refl _) bl
        have X4 := (X2.keep b4).keep bl
        have Y4 := IV.new W4 (sg d) (mg d) 23
        clear P2 B2 b4 bl X2
        go_upto_region 11 with fail
        generalize W4.alloc (.cells #[.bool (sg d), .string (mg d)] 23) = W5 at *
        generalize W4.heap.size = p9 at *
        obtain ⟨cd, Hcd⟩ : ∃ c : Int, Hid (cmpZ d 0 = c) := ⟨_, Lib.hid rfl⟩
        have hc3 : (d ≤ 0 ∧ (cd = 0 ∨ cd = -1)) ∨ (0 < d ∧ cd = 1) := by rw [← Hcd.out]; unfold cmpZ; split <;> (try split) <;> omega
        obtain ⟨y1, y2⟩ := id Y4
        rcases hc3 with ⟨h0, hcd⟩ | ⟨h0, rfl⟩
        · have Hq := Lib.hid (pq_no3 Ec.out Et.out Ha.out Hd.out h0)
          clear h0
          have i0 : cd ≤ 0 := by omega
          have e0 : decide (cd ≤ 0) = true := decide_eq_true i0
          clear hcd
          go_wp2_with fail
          refine (rsign_any Id.out (by omega) Hcd.out).mono ?_
          rintro e W6 ⟨rfl, b6⟩
          obtain ⟨⟨r1, r2, r3, r4⟩, r5, r6, r7, r8⟩ := P4.keep b6
          have B6 := below_more B4 (Nat.le_refl _) b6
          clear y1 y2
          go_wp2_with fail
          exact bodyPost_ret (v := .tuple #[.agg #[.bool false, .string ⟨#[]⟩, .bool false, .string ⟨#[]⟩], .int .i64 3]) (by simp [results, Tryz.results11, go_sem, r1, r2, r3, r4]) rfl (by rw [Hq.out]; exact ⟨rfl, below4s B6 _ (by omega) _ _ _ _⟩)
        · have D0 := Lib.hid (show d ≠ 0 by omega)
          clear h0
          obtain ⟨q, Hq⟩ : ∃ q, Hid (Rat.divInt n d = q) := ⟨_, Lib.hid rfl⟩
          have Rq := Lib.hid (show Rb8 q (4 * K + 1) by rw [← Hq.out]; exact rb8_divInt In.out.bd Id.out.bd)
          obtain ⟨T, HT⟩ : ∃ T, Hid (prQ q = T) := ⟨_, Lib.hid rfl⟩
          go_wp2_with fail
          refine (rsign_any Id.out (by omega) Hcd.out).mono ?_
          rintro e W6 ⟨rfl, b6⟩
          have P6 := P4.keep b6
          have B6 := below_more B4 (Nat.le_refl _) b6
          obtain ⟨x1, x2⟩ := X4.keep b6
          obtain ⟨z1, z2⟩ := Y4.keep b6
          clear y1 y2 X4 Y4 P4 B4 b6
          go_wp2_with fail
          refine (rlow02_any _ _ n d q _ _ In.out Id.out (by omega) D0.out Hq.out).mono ?_
          rintro e W7 ⟨rfl, b7⟩
          have bl := below1 W7 (.cells #[.bool (sg q.num), .string (mg q.num), .bool (sg (q.den : Int)), .string (mg (q.den : Int))] 25)
          have P7 := (P6.keep b7).keep bl
          have B7 := below_more (below_more B6 (Nat.le_refl _) b7) (Nat.le_refl _) bl
          have V7 := BR.new W7 25 (sg q.num) (sg (q.den : Int)) (mg q.num) (mg (q.den : Int))
          clear x1 x2 z1 z2 P6 B6 b7 bl
          unfold ratV
          go_upto_region 14 with fail
          generalize W7.alloc (.cells #[.bool (sg q.num), .string (mg q.num), .bool (sg (q.den : Int)), .string (mg (q.den : Int))] 25) = W8 at *
          generalize W7.heap.size = p11 at *
          obtain ⟨⟨v1, v2, v3, v4⟩, -⟩ := id V7
          go_wp2_with fail
          refine (rprt02_any _ q T _ _ (ar_ratV Rq.out) (by omega) HT.out).mono ?_
          rintro e W9 ⟨rfl, b9⟩
          obtain ⟨⟨v5, v6, v7, v8⟩, -⟩ := V7.keep b9
          obtain ⟨⟨r1, r2, r3, r4⟩, r5, r6, r7, r8⟩ := P7.keep b9
          have B9 := below_more B7 (Nat.le_refl _) b9
          clear v1 v2 v3 v4
          by_cases hTl : T = l
          · have Hp := Lib.hid (show pq l = some q by rw [← hTl, ← HT.out]; exact pq_prQ q)
            have hb : (T == l) = true := by rw [beq_iff_eq]; exact hTl
            clear hTl
            go_wp2_with fail
            exact bodyPost_ret (v := .tuple #[ratV q, .int .i64 0]) (by simp [results, Tryz.results11, go_sem, r1, r2, r3, r4, ratV]) rfl (by rw [Hp.out]; exact ⟨rfl, below4s B9 _ (by omega) _ _ _ _⟩)
          · have Hp := Lib.hid (show pq l = none from pq_no4 Ec.out Et.out Ha.out Hd.out (by rw [Hq.out, HT.out]; exact hTl))
            have hb : (T == l) = false := by rw [beq_eq_false_iff_ne]; exact hTl
            clear hTl
            go_wp2_with fail
            exact bodyPost_ret (v := .tuple #[.agg #[.bool false, .string ⟨#[]⟩, .bool false, .string ⟨#[]⟩], .int .i64 3]) (by simp [results, Tryz.results11, go_sem, r1, r2, r3, r4]) rfl (by rw [Hp.out]; exact ⟨rfl, below4s B9 _ (by omega) _ _ _ _⟩)
end Go.Proofs.YtcljkdninmldiaaGreatDoor

namespace Go.Proofs.YtcljkdninmldiaaGreatDoor
open Go.RowKit
set_option linter.unusedSimpArgs false
set_option linter.unusedVariables false

/-- The run from its end to its start: the number x / y. -/
inductive Sp : Int → Int → Int → Int → Int → Int → Prop
  | whole {a b c d : Int} (h : a % b = 0) : Sp a b c d (a / b) 1
  | above {a b c d : Int} (h : a % b ≠ 0) (h2 : a / b ≠ c / d) : Sp a b c d (a / b + 1) 1
  | more {a b c d x y : Int} (h : a % b ≠ 0) (h2 : a / b = c / d) (k : Sp d (c % d) b (a % b) x y) : Sp a b c d (a / b * x + y) x
theorem Sim.sp {a b c d ln ld nn nd rn rd : Int} (h : Sim a b c d ln ld nn nd rn rd) : ∃ x y, Sp a b c d x y ∧ rn = nn * x + ln * y ∧ rd = nd * x + ld * y := by
  induction h with
  | @whole a b c d ln ld nn nd h => exact ⟨_, _, .whole h, by grind, by grind⟩
  | @above a b c d ln ld nn nd h h2 => exact ⟨_, _, .above h h2, by grind, by grind⟩
  | @more a b c d ln ld nn nd rn rd h h2 _ ih =>
    obtain ⟨x, y, h3, e1, e2⟩ := ih
    exact ⟨_, _, .more h h2 h3, by rw [e1]; grind, by rw [e2]; grind⟩
theorem Sp.good {a b c d x y : Int} (h : Sp a b c d x y) : 0 < a → 0 < b → 0 < c → 0 < d → a * d ≤ c * b →
    0 < x ∧ 0 < y ∧ (∀ g : Int, g ∣ x → g ∣ y → g ∣ 1) ∧ a * y ≤ x * b ∧ x * d ≤ c * y ∧ ∀ u v : Int, 0 < v → a * v ≤ u * b → u * d ≤ c * v → x ≤ u ∧ y ≤ v := by
  induction h with
  | @whole a b c d h =>
    intro ha hb hc hd hle
    have ea := Int.mul_ediv_add_emod a b
    rw [h] at ea
    generalize a / b = t at *
    have ht : 0 < t := by
      rcases Int.lt_or_le 0 t with h1 | h1
      · exact h1
      · have : b * t ≤ 0 := Int.mul_nonpos_of_nonneg_of_nonpos (by omega) h1
        omega
    refine ⟨ht, by omega, fun g _ h1 => h1, ?_, ?_, ?_⟩
    · rw [← ea]; grind
    · have e : b * (t * d) ≤ b * (c * 1) := by rw [← ea] at hle; grind
      exact Int.le_of_mul_le_mul_left e hb
    · intro u v hv h1 h2
      refine ⟨?_, by omega⟩
      have e1 : b * (t * v) ≤ b * u := by rw [← ea] at h1; grind
      have e2 := Int.le_of_mul_le_mul_left e1 hb
      have e3 : t * 1 ≤ t * v := Int.mul_le_mul_of_nonneg_left (by omega) (by omega)
      omega
  | @above a b c d h hne =>
    intro ha hb hc hd hle
    have hq := quot_le hb hd hle
    have ea := Int.mul_ediv_add_emod a b
    have ec := Int.mul_ediv_add_emod c d
    have r1 := Int.emod_nonneg a (b := b) (by omega)
    have r2 := Int.emod_lt_of_pos a hb
    have s1 := Int.emod_nonneg c (b := d) (by omega)
    have s2 := Int.emod_lt_of_pos c hd
    have ht : 0 ≤ a / b := Int.ediv_nonneg (by omega) (by omega)
    generalize a / b = t at *
    generalize a % b = r at *
    generalize c / d = t' at *
    generalize c % d = s at *
    refine ⟨by omega, by omega, fun g _ h1 => h1, ?_, ?_, ?_⟩
    · rw [← ea]
      have : (t + 1) * b = b * t + b := by grind
      omega
    · rw [← ec]
      have e : (t + 1) * d ≤ t' * d := Int.mul_le_mul_of_nonneg_right (by omega) (by omega)
      have e2 : t' * d = d * t' := Int.mul_comm _ _
      omega
    · intro u v hv h1 h2
      refine ⟨?_, by omega⟩
      rcases Int.lt_or_le t u with h3 | h3
      · omega
      · exfalso
        have e1 : u * b ≤ t * b := Int.mul_le_mul_of_nonneg_right h3 (by omega)
        have e2 : a * 1 ≤ a * v := Int.mul_le_mul_of_nonneg_left (by omega) (by omega)
        have e3 : t * b = b * t := Int.mul_comm _ _
        omega
  | @more a b c d x y h h2 _ ih =>
    intro ha hb hc hd hle
    have ea := Int.mul_ediv_add_emod a b
    have ec := Int.mul_ediv_add_emod c d
    have r1 := Int.emod_nonneg a (b := b) (by omega)
    have r2 := Int.emod_lt_of_pos a hb
    have s1 := Int.emod_nonneg c (b := d) (by omega)
    have s2 := Int.emod_lt_of_pos c hd
    have ht : 0 ≤ a / b := Int.ediv_nonneg (by omega) (by omega)
    rw [← h2] at ec
    generalize a / b = t at *
    generalize a % b = r at *
    generalize c % d = s at *
    clear h2
    subst ea
    subst ec
    have hrs : r * d ≤ s * b := by
      have e : (d * t + s) * b - (b * t + r) * d = s * b - r * d := by grind
      omega
    have hr : 0 < r := by omega
    have hs : 0 < s := by
      rcases Int.lt_or_le 0 s with h9 | h9
      · exact h9
      · exfalso
        have h10 : s = 0 := by omega
        rw [h10, Int.zero_mul] at hrs
        have h11 : 0 < r * d := Int.mul_pos hr hd
        omega
    obtain ⟨x0, y0, cop, b1, b2, mn⟩ := ih hd hs hb hr (by grind)
    have hx : 0 ≤ t * x := Int.mul_nonneg ht (by omega)
    refine ⟨by omega, x0, ?_, ?_, ?_, ?_⟩
    · intro g h3 h4
      refine cop g h4 ?_
      have h5 : g ∣ t * x := Int.dvd_mul_of_dvd_right h4
      exact (Int.dvd_add_right h5).1 h3
    · have e : (t * x + y) * b - (b * t + r) * x = y * b - r * x := by grind
      have e2 : b * y = y * b := Int.mul_comm _ _
      have e3 : x * r = r * x := Int.mul_comm _ _
      omega
    · have e : (d * t + s) * x - (t * x + y) * d = s * x - y * d := by grind
      have e2 : d * y = y * d := Int.mul_comm _ _
      have e3 : x * s = s * x := Int.mul_comm _ _
      omega
    · intro u v hv h3 h4
      have k1 : r * v ≤ b * (u - t * v) := by
        have e : b * (u - t * v) - r * v = u * b - (b * t + r) * v := by grind
        omega
      have k2 : d * (u - t * v) ≤ v * s := by
        have e : v * s - d * (u - t * v) = (d * t + s) * v - u * d := by grind
        omega
      have k3 : 0 < u - t * v := by
        rcases Int.lt_or_le 0 (u - t * v) with h9 | h9
        · exact h9
        · exfalso
          have h10 : b * (u - t * v) ≤ 0 := Int.mul_nonpos_of_nonneg_of_nonpos (by omega) h9
          have h11 : 0 < r * v := Int.mul_pos hr hv
          omega
      obtain ⟨m1, m2⟩ := mn v (u - t * v) k3 k2 (by rw [Int.mul_comm v r]; exact k1)
      refine ⟨?_, m1⟩
      have e : t * x ≤ t * v := Int.mul_le_mul_of_nonneg_left m1 ht
      omega
theorem Sp.one {a b c d x y : Int} (h : Sp a b c d x y) (ha : 0 < a) (hb : 0 < b) (hc : 0 < c) (hd : 0 < d) (hle : a * d ≤ c * b) (hy : y ≠ 1) {u : Int} (h1 : a * y ≤ u * b) (h2 : u * d ≤ c * y) : u = x := by
  obtain ⟨x0, y0, _, b1, b2, mn⟩ := h.good ha hb hc hd hle
  have m := (mn u y y0 h1 h2).1
  rcases Int.lt_or_eq_of_le m with hlt | he
  · exfalso
    have ex := Int.mul_ediv_add_emod x y
    have r1 := Int.emod_nonneg x (b := y) (by omega)
    have r2 := Int.emod_lt_of_pos x y0
    generalize x / y = t at *
    generalize x % y = r at *
    have k := (mn (x - t) (y - 1) (by omega) ?_ ?_).2
    · omega
    · have e1 : a * y * (y - 1) ≤ x * b * (y - 1) := Int.mul_le_mul_of_nonneg_right b1 (by omega)
      have e2 : (x - t) * b * y - x * b * (y - 1) = b * (x - y * t) := by grind
      have e3 : 0 ≤ b * (x - y * t) := Int.mul_nonneg (by omega) (by omega)
      have e4 : a * (y - 1) * y ≤ (x - t) * b * y := by
        have e5 : a * (y - 1) * y = a * y * (y - 1) := by grind
        omega
      exact Int.le_of_mul_le_mul_right e4 y0
    · have e0 : (x + 1) * d ≤ u * d := Int.mul_le_mul_of_nonneg_right (by omega) (by omega)
      have e1 : (x + 1) * d * (y - 1) ≤ c * y * (y - 1) := Int.mul_le_mul_of_nonneg_right (by omega) (by omega)
      have e2 : (x + 1) * d * (y - 1) - (x - t) * d * y = d * (y - 1 - (x - y * t)) := by grind
      have e3 : 0 ≤ d * (y - 1 - (x - y * t)) := Int.mul_nonneg (by omega) (by omega)
      have e4 : (x - t) * d * y ≤ c * (y - 1) * y := by
        have e5 : c * (y - 1) * y = c * y * (y - 1) := by grind
        omega
      exact Int.le_of_mul_le_mul_right e4 y0
  · exact he.symm
theorem divInt_le_iff {n1 d1 n2 d2 : Int} (h1 : 0 < d1) (h2 : 0 < d2) : Rat.divInt n1 d1 ≤ Rat.divInt n2 d2 ↔ n1 * d2 ≤ n2 * d1 := by
  rw [← Rat.not_lt, divInt_lt_iff h2 h1]
  omega
theorem dvd_one_gcd {x y : Int} (h : ∀ g : Int, g ∣ x → g ∣ y → g ∣ 1) : Nat.gcd x.natAbs y.natAbs = 1 := by
  have h1 := h ((Nat.gcd x.natAbs y.natAbs : Nat) : Int) (Int.ofNat_dvd_left.2 (Nat.gcd_dvd_left _ _)) (Int.ofNat_dvd_left.2 (Nat.gcd_dvd_right _ _))
  have h2 := Int.natAbs_dvd_natAbs.2 h1
  simpa using h2
/-- r is the simplest number from p to q. -/
def Simp (p q r : Rat) : Prop := p ≤ r ∧ r ≤ q ∧ (∀ s : Rat, p ≤ s → s ≤ q → r.den ≤ s.den) ∧ (∀ s : Rat, p ≤ s → s ≤ q → s.den = r.den → r.den ≠ 1 → s = r) ∧ (r.den = 1 → 0 < r → ¬ p ≤ r - 1) ∧ (r.den = 1 → r < 0 → ¬ r + 1 ≤ q)
theorem simOf_simp {p q : Rat} {rn rd : Int} (hp : 0 < p) (hle : p ≤ q) (h : SimOf p q rn rd) : Simp p q (Rat.divInt rn rd) ∧ raw rn rd = ratV (Rat.divInt rn rd) := by
  obtain ⟨a, b, c, d, hb, hd, rfl, rfl, hs⟩ := h
  obtain ⟨x, y, h1, e1, e2⟩ := hs.sp
  have e3 : rn = x := by omega
  have e4 : rd = y := by omega
  clear e1 e2
  subst e3 e4
  have ha : 0 < a := (divInt_pos_iff hb).1 hp
  have hle' := (divInt_le_iff hb hd).1 hle
  have hc : 0 < c := by
    rcases Int.lt_or_le 0 c with h9 | h9
    · exact h9
    · have h10 : c * b ≤ 0 := Int.mul_nonpos_of_nonpos_of_nonneg h9 (by omega)
      have h11 : 0 < a * d := Int.mul_pos ha hd
      omega
  obtain ⟨x0, y0, cop, b1, b2, mn⟩ := h1.good ha hb hc hd hle'
  have hg := dvd_one_gcd cop
  have en : (Rat.divInt rn rd).num = rn := by rw [low_num y0, hg]; simp
  have ed : ((Rat.divInt rn rd).den : Int) = rd := by rw [low_den y0, hg]; simp
  have key : ∀ s : Rat, Rat.divInt a b ≤ s → s ≤ Rat.divInt c d → a * (s.den : Int) ≤ s.num * b ∧ s.num * d ≤ c * (s.den : Int) := by
    intro s h3 h4
    have hs0 := s.den_pos
    rw [← Rat.num_divInt_den s] at h3 h4
    exact ⟨(divInt_le_iff hb (by omega)).1 h3, (divInt_le_iff (by omega) hd).1 h4⟩
  refine ⟨⟨(divInt_le_iff hb y0).2 b1, (divInt_le_iff y0 hd).2 b2, ?_, ?_, ?_, ?_⟩, ?_⟩
  · intro s h3 h4
    obtain ⟨k1, k2⟩ := key s h3 h4
    have := (mn s.num s.den (by have := s.den_pos; omega) k1 k2).2
    omega
  · intro s h3 h4 h5 h6
    obtain ⟨k1, k2⟩ := key s h3 h4
    have h7 : (s.den : Int) = rd := by rw [h5, ed]
    rw [h7] at k1 k2
    have h8 := h1.one ha hb hc hd hle' (by omega) k1 k2
    rw [← Rat.num_divInt_den s, h7, h8]
  · intro h3 h4 h5
    have h6 : rd = 1 := by omega
    subst h6
    have h7 : Rat.divInt rn 1 - 1 = ((rn - 1 : Int) : Rat) := by rw [divInt_one, Rat.intCast_sub]; rfl
    have h8 : Rat.divInt rn 1 - 1 ≤ Rat.divInt c d := Rat.le_trans (by grind) ((divInt_le_iff y0 hd).2 b2)
    rw [h7] at h5 h8
    obtain ⟨k1, k2⟩ := key _ h5 h8
    have := (mn _ _ (by have := ((rn - 1 : Int) : Rat).den_pos; omega) k1 k2).1
    rw [Rat.num_intCast] at this
    omega
  · intro h3 h4
    have h5 : 0 < Rat.divInt rn rd := (divInt_pos_iff y0).2 x0
    exact absurd h5 (by grind)
  · unfold raw ratV
    rw [en, ed]
theorem simp_neg {p q r : Rat} (h : Simp (-q) (-p) r) : Simp p q (-r) := by
  obtain ⟨h1, h2, h3, h4, h5, h6⟩ := h
  refine ⟨by grind, by grind, ?_, ?_, ?_, ?_⟩
  · intro s k1 k2
    exact h3 (-s) (by grind) (by grind)
  · intro s k1 k2 k3 k4
    have := h4 (-s) (by grind) (by grind) k3 k4
    grind
  · intro k1 k2 k3
    exact h6 k1 (by grind) (by grind)
  · intro k1 k2 k3
    exact h5 k1 (by grind) (by grind)
theorem simRes_simp {p q : Rat} {v : Value} {n : Int} (hle : p ≤ q) (h : SimRes p q v n) : ∃ r, Simp p q r ∧ v = ratV r ∧ n = 0 := by
  rcases h with ⟨h, _⟩ | ⟨_, hn, ⟨h1, rn, rd, h2, rfl⟩ | ⟨h1, rn, rd, h2, rfl⟩ | ⟨h1, h2, rfl⟩⟩
  · exact absurd h (Rat.not_lt.2 hle)
  · obtain ⟨k1, k2⟩ := simOf_simp h1 hle h2
    exact ⟨_, k1, k2, hn⟩
  · obtain ⟨k1, _⟩ := simOf_simp (by grind) (by grind) h2
    exact ⟨_, simp_neg k1, rfl, hn⟩
  · refine ⟨0, ⟨h1, h2, ?_, ?_, ?_, ?_⟩, rfl, hn⟩
    · intro s _ _
      have := s.den_pos
      show 1 ≤ s.den
      omega
    · intro s _ _ _ k
      exact absurd rfl k
    · intro _ k
      exact absurd k (by decide)
    · intro _ k
      exact absurd k (by decide)
theorem den_shift (r : Rat) (n : Int) : (r + (n : Rat)).den = r.den := by
  have hp := r.den_pos
  have e : r + (n : Rat) = Rat.divInt (r.num + n * (r.den : Int)) (r.den : Int) := by
    rw [Rat.divInt_eq_div, Rat.intCast_add, Rat.intCast_mul]
    have h1 : r = (r.num : Rat) / ((r.den : Int) : Rat) := by rw [← Rat.divInt_eq_div, Rat.num_divInt_den]
    have h2 : ((r.den : Int) : Rat) ≠ 0 := by
      intro h
      have : (r.den : Int) = 0 := Rat.intCast_inj.1 (by rw [h]; rfl)
      omega
    grind
  have hg : Nat.gcd (r.num + n * (r.den : Int)).natAbs (r.den : Int).natAbs = 1 := by
    have h1 : Nat.gcd r.num.natAbs (r.den : Int).natAbs = 1 := by rw [Int.natAbs_natCast]; exact r.reduced
    have h2 : Int.gcd (r.num + n * (r.den : Int)) (r.den : Int) = Int.gcd r.num (r.den : Int) := by simp
    exact h2.trans h1
  have h3 := low_den (n := r.num + n * (r.den : Int)) (d := (r.den : Int)) (by omega)
  rw [← e, hg] at h3
  have h4 : ((r.den : Int)) / ((1 : Nat) : Int) = (r.den : Int) := by simp
  rw [h4] at h3
  omega
theorem simp_shift {p q r s : Rat} (n : Int) (h1 : Simp p q r) (h2 : Simp (p + (n : Rat)) (q + (n : Rat)) s) (hd : r.den ≠ 1) : s = r + (n : Rat) := by
  obtain ⟨a1, a2, a3, a4, _, _⟩ := h1
  obtain ⟨b1, b2, b3, _, _, _⟩ := h2
  have e1 : (s + ((-n : Int) : Rat)).den = s.den := den_shift s (-n)
  have e2 := den_shift r n
  have e3 : s + ((-n : Int) : Rat) = s - (n : Rat) := by rw [Rat.intCast_neg, Rat.sub_eq_add_neg]
  rw [e3] at e1
  have k1 := a3 (s - (n : Rat)) (by grind) (by grind)
  have k2 := b3 (r + (n : Rat)) (by grind) (by grind)
  have k3 := a4 (s - (n : Rat)) (by grind) (by grind) (by omega) hd
  grind
theorem simp_floor {p q r k m : Rat} {d f : Int} (h : Simp p q r) (h0 : 0 < d) (hd : d < (r.den : Int)) (hm : q * Rat.divInt d 1 = m) (hf : m.floor = f) (hk : Rat.divInt f d = k) : cmpQ k p = -1 := by
  have hdp : (0 : Rat) < (d : Rat) := by
    have : ((0 : Int) : Rat) < (d : Rat) := Rat.intCast_lt_intCast.2 h0
    exact this
  have e1 : (f : Rat) ≤ q * (d : Rat) := by
    have := Rat.floor_le m
    rw [hf, ← hm, divInt_one] at this
    exact this
  have e2 : k * (d : Rat) = (f : Rat) := by
    rw [← hk, Rat.divInt_eq_div]
    exact Rat.div_mul_cancel (by grind)
  have e3 : k ≤ q := by
    rcases (Rat.le_total : k ≤ q ∨ q ≤ k) with h1 | h1
    · exact h1
    · have h2 : 0 ≤ (k - q) * (d : Rat) := Rat.mul_nonneg (by grind) (by grind)
      have h3 : (k - q) * (d : Rat) = k * (d : Rat) - q * (d : Rat) := by grind
      have h4 : (k - q) * (d : Rat) = 0 := by grind
      have h5 : k - q = 0 := by
        rcases Rat.mul_eq_zero.1 h4 with h5 | h5
        · exact h5
        · grind
      grind
  have e4 : k.den ≤ d.natAbs := by rw [← hk]; exact low_den_le h0
  have e5 : ¬ p ≤ k := by
    intro h1
    have := h.2.2.1 k h1 e3
    omega
  unfold cmpQ
  rw [if_pos (Rat.not_le.1 e5)]
theorem simp_bd {p q r : Rat} {k : Nat} (h : Simp p q r) (hp : RatBd p k) (hq : RatBd q k) : RatBd r (k + k) := by
  obtain ⟨h1, h2, h3, _⟩ := h
  have e1 := h3 p Rat.le_refl (Rat.le_trans h1 h2)
  have e2 := (Rat.le_iff _ _).1 h1
  have e3 := (Rat.le_iff _ _).1 h2
  have d1 := p.den_pos
  have d2 := q.den_pos
  have d3 := r.den_pos
  have hk : 1 ≤ 4294967296 ^ k := Nat.pow_pos (by omega)
  have hden : r.den < 4294967296 ^ k := Nat.lt_of_le_of_lt e1 hp.2
  constructor
  · have key : r.num.natAbs ≤ p.num.natAbs * r.den ∨ r.num.natAbs ≤ q.num.natAbs * r.den := by
      rcases Int.lt_or_le r.num 0 with h9 | h9
      · left
        have f1 : r.num * (p.den : Int) ≤ r.num * 1 := Int.mul_le_mul_of_nonpos_left (by omega) (by omega)
        have f2 : p.num * (r.den : Int) ≤ r.num := by omega
        have f3 : ((p.num.natAbs * r.den : Nat) : Int) = (p.num.natAbs : Int) * (r.den : Int) := Int.natCast_mul _ _
        have f4 : -(p.num.natAbs : Int) * (r.den : Int) ≤ p.num * (r.den : Int) := Int.mul_le_mul_of_nonneg_right (by omega) (by omega)
        have f5 : -(p.num.natAbs : Int) * (r.den : Int) = -((p.num.natAbs : Int) * (r.den : Int)) := Int.neg_mul _ _
        omega
      · right
        have f1 : r.num * 1 ≤ r.num * (q.den : Int) := Int.mul_le_mul_of_nonneg_left (by omega) h9
        have f3 : ((q.num.natAbs * r.den : Nat) : Int) = (q.num.natAbs : Int) * (r.den : Int) := Int.natCast_mul _ _
        have f4 : q.num * (r.den : Int) ≤ (q.num.natAbs : Int) * (r.den : Int) := Int.mul_le_mul_of_nonneg_right (by omega) (by omega)
        omega
    rcases key with h9 | h9
    · exact Nat.lt_of_le_of_lt h9 (prod_bound hp.1 hden)
    · exact Nat.lt_of_le_of_lt h9 (prod_bound hq.1 hden)
  · exact Nat.lt_of_lt_of_le hden (Nat.pow_le_pow_right (by omega) (by omega))
/-- Simplest, where it is known what is the simplest number. -/
theorem simplest_eq {v1 v2 : Value} {p q r : Rat} {k : Nat} {w : World} (h1 : IsRat v1 p k) (h2 : IsRat v2 q k) (hk1 : 1 ≤ k) (hk : k ≤ 900000) (hle : p ≤ q) (hr : ∀ r', Simp p q r' → r' = r) :
    Calls Tryz.prog 8 #[v1, v2] w (RatGood w r) := by
  refine (simplest_any v1 v2 p q k w h1 h2 hk1 hk).mono ?_
  rintro e w' ⟨v, n, hs, rfl, hb⟩
  obtain ⟨r', h, rfl, rfl⟩ := simRes_simp hle hs
  rw [hr r' h]
  exact ⟨rfl, hb⟩
end Go.Proofs.YtcljkdninmldiaaGreatDoor

namespace Go.Proofs.YtcljkdninmldiaaGreatDoor
open Go.RowKit
set_option linter.unusedSimpArgs false
set_option linter.unusedVariables false

theorem sp_total : ∀ (n : Nat) (a b c d : Int), 0 < a → 0 < b → 0 < c → 0 < d → a * d ≤ c * b → b + d ≤ (n : Int) → ∃ x y, Sp a b c d x y := by
  intro n
  induction n with
  | zero => intro a b c d _ hb _ hd _ h; omega
  | succ n ih =>
    intro a b c d ha hb hc hd hle h
    by_cases h0 : a % b = 0
    · exact ⟨_, _, .whole h0⟩
    · by_cases h1 : a / b = c / d
      · have ea := Int.mul_ediv_add_emod a b
        have ec := Int.mul_ediv_add_emod c d
        have r1 := Int.emod_nonneg a (b := b) (by omega)
        have r2 := Int.emod_lt_of_pos a hb
        have s1 := Int.emod_nonneg c (b := d) (by omega)
        have s2 := Int.emod_lt_of_pos c hd
        have hk : a % b * d ≤ c % d * b := by
          rw [← h1] at ec
          have e : (d * (a / b) + c % d) * b - (b * (a / b) + a % b) * d = c % d * b - a % b * d := by grind
          rw [ea, ec] at e
          omega
        have hs : 0 < c % d := by
          rcases Int.lt_or_le 0 (c % d) with h9 | h9
          · exact h9
          · exfalso
            have h10 : c % d = 0 := by omega
            rw [h10, Int.zero_mul] at hk
            have h11 : 0 < a % b * d := Int.mul_pos (by omega) hd
            omega
        obtain ⟨x, y, k⟩ := ih d (c % d) b (a % b) hd hs hb (by omega) (by rw [Int.mul_comm d, Int.mul_comm b]; exact hk) (by omega)
        exact ⟨_, _, .more h0 h1 k⟩
      · exact ⟨_, _, .above h0 h1⟩
/-- The simplest number x / y from p to q, as it comes about from its end. -/
def SpOf (p q : Rat) (x y : Int) : Prop := ∃ a b c d : Int, 0 < b ∧ 0 < d ∧ Rat.divInt a b = p ∧ Rat.divInt c d = q ∧ Sp a b c d x y
theorem SimOf.sp {p q : Rat} {rn rd : Int} (h : SimOf p q rn rd) : SpOf p q rn rd := by
  obtain ⟨a, b, c, d, hb, hd, e1, e2, hs⟩ := h
  obtain ⟨x, y, h1, e3, e4⟩ := hs.sp
  have e5 : rn = x := by omega
  have e6 : rd = y := by omega
  subst e5 e6
  exact ⟨a, b, c, d, hb, hd, e1, e2, h1⟩
theorem pos_parts {p q : Rat} {a b c d : Int} (hb : 0 < b) (hd : 0 < d) (e1 : Rat.divInt a b = p) (e2 : Rat.divInt c d = q) (hp : 0 < p) (hle : p ≤ q) : 0 < a ∧ 0 < c ∧ a * d ≤ c * b := by
  subst e1 e2
  have ha : 0 < a := (divInt_pos_iff hb).1 hp
  have hle' := (divInt_le_iff hb hd).1 hle
  refine ⟨ha, ?_, hle'⟩
  rcases Int.lt_or_le 0 c with h9 | h9
  · exact h9
  · have h10 : c * b ≤ 0 := Int.mul_nonpos_of_nonpos_of_nonneg h9 (by omega)
    have h11 : 0 < a * d := Int.mul_pos ha hd
    omega
theorem SpOf.good {p q : Rat} {x y : Int} (h : SpOf p q x y) (hp : 0 < p) (hle : p ≤ q) :
    0 < x ∧ 0 < y ∧ (∀ g : Int, g ∣ x → g ∣ y → g ∣ 1) ∧ p ≤ Rat.divInt x y ∧ Rat.divInt x y ≤ q ∧ ∀ u v : Int, 0 < v → p ≤ Rat.divInt u v → Rat.divInt u v ≤ q → x ≤ u ∧ y ≤ v := by
  obtain ⟨a, b, c, d, hb, hd, e1, e2, hs⟩ := h
  obtain ⟨ha, hc, hle'⟩ := pos_parts hb hd e1 e2 hp hle
  obtain ⟨x0, y0, cop, b1, b2, mn⟩ := hs.good ha hb hc hd hle'
  subst e1 e2
  exact ⟨x0, y0, cop, (divInt_le_iff hb y0).2 b1, (divInt_le_iff y0 hd).2 b2, fun u v hv k1 k2 => mn u v hv ((divInt_le_iff hb hv).1 k1) ((divInt_le_iff hv hd).1 k2)⟩
theorem SpOf.same {p q : Rat} {x y x' y' : Int} (h : SpOf p q x y) (h' : SpOf p q x' y') (hp : 0 < p) (hle : p ≤ q) : x = x' ∧ y = y' := by
  obtain ⟨a1, a2, _, a3, a4, a5⟩ := h.good hp hle
  obtain ⟨b1, b2, _, b3, b4, b5⟩ := h'.good hp hle
  have c1 := a5 _ _ b2 b3 b4
  have c2 := b5 _ _ a2 a3 a4
  omega
theorem spOf_total {p q : Rat} (hp : 0 < p) (hle : p ≤ q) : ∃ x y, SpOf p q x y := by
  have d1 := p.den_pos
  have d2 := q.den_pos
  obtain ⟨ha, hc, h1⟩ := pos_parts (a := p.num) (b := (p.den : Int)) (c := q.num) (d := (q.den : Int)) (by omega) (by omega) (Rat.num_divInt_den p) (Rat.num_divInt_den q) hp hle
  obtain ⟨x, y, h⟩ := sp_total (p.den + q.den) p.num p.den q.num q.den ha (by omega) hc (by omega) h1 (by omega)
  exact ⟨x, y, p.num, p.den, q.num, q.den, by omega, by omega, Rat.num_divInt_den p, Rat.num_divInt_den q, h⟩
theorem SpOf.raw {p q : Rat} {x y : Int} (h : SpOf p q x y) (hp : 0 < p) (hle : p ≤ q) : raw x y = ratV (Rat.divInt x y) := by
  obtain ⟨x0, y0, cop, _⟩ := h.good hp hle
  have hg := dvd_one_gcd cop
  have en : (Rat.divInt x y).num = x := by rw [low_num y0, hg]; simp
  have ed : ((Rat.divInt x y).den : Int) = y := by rw [low_den y0, hg]; simp
  unfold Go.Proofs.YtcljkdninmldiaaGreatDoor.raw ratV
  rw [en, ed]
/-- The least integer that is at least a / b. -/
theorem ceil_divInt {a b : Int} (hb : 0 < b) : -(-(Rat.divInt a b)).floor = if a % b = 0 then a / b else a / b + 1 := by
  rw [Rat.neg_divInt, floor_divInt hb]
  have ea := Int.mul_ediv_add_emod a b
  have r1 := Int.emod_nonneg a (b := b) (by omega)
  have r2 := Int.emod_lt_of_pos a hb
  generalize a / b = t at *
  generalize a % b = r at *
  subst ea
  split
  · rename_i h
    subst h
    have e : -(b * t + 0) = (-t) * b := by grind
    rw [e, Int.mul_ediv_cancel _ (by omega)]
    omega
  · rename_i h
    have e : -(b * t + r) = (b - r) + (-(t + 1)) * b := by grind
    rw [e, Int.add_mul_ediv_right _ _ (by omega), Int.ediv_eq_zero_of_lt (by omega) (by omega)]
    omega
/-- The inverse of what a number is above an integer. -/
theorem frac_divInt {a b t : Int} (hb : 0 < b) (e : a / b = t) : Rat.divInt a b - (t : Rat) = Rat.divInt (a % b) b := by
  have ea := Int.mul_ediv_add_emod a b
  rw [e] at ea
  rw [Rat.divInt_eq_div, Rat.divInt_eq_div, ← ea]
  have h2 : (b : Rat) ≠ 0 := fun h => by
    have : b = 0 := Rat.intCast_inj.1 (by rw [h]; rfl)
    omega
  rw [ea, ← ea, Rat.intCast_add, Rat.intCast_mul]
  have e3 : (b * t + a % b) % b = a % b := by
    rw [ea]
  rw [e3]
  grind
theorem inv_divInt {a b : Int} : 1 / Rat.divInt a b = Rat.divInt b a := by
  have h := divInt_quot (n1 := 1) (d1 := 1) (n2 := a) (d2 := b)
  rw [Int.one_mul, Int.one_mul] at h
  rw [h]
  rfl
theorem add_divInt {t x y : Int} (hx : 0 < x) : (t : Rat) + Rat.divInt y x = Rat.divInt (t * x + y) x := by
  rw [Rat.divInt_eq_div, Rat.divInt_eq_div, Rat.intCast_add, Rat.intCast_mul]
  have h2 : (x : Rat) ≠ 0 := fun h => by
    have : x = 0 := Rat.intCast_inj.1 (by rw [h]; rfl)
    omega
  grind
theorem rb8_low {n d : Int} {L : Nat} (hd : 0 < d) (h1 : n.natAbs < 256 ^ L) (h2 : d.natAbs < 256 ^ L) : Rb8 (Rat.divInt n d) L := by
  have a := low_num_le (n := n) hd
  have b := low_den_le (n := n) hd
  exact ⟨by omega, by omega⟩
theorem rb8_int {n : Int} {L : Nat} (hL : 1 ≤ L) (h : n.natAbs < 256 ^ L) : Rb8 (n : Rat) L :=
  ⟨by rw [Rat.num_intCast]; exact h, by rw [Rat.den_intCast]; exact Nat.one_lt_pow (by omega) (by omega)⟩
theorem ar_out {q : Rat} {L : Nat} (h : Rb8 q L) : AR (ratV q) q L := ar_ratV h
end Go.Proofs.YtcljkdninmldiaaGreatDoor
