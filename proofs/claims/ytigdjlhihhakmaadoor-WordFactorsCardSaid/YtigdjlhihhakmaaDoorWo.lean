/- What the reference implementation's Border, Period, Find, Root and Reverse return. Condition: strings of at most 1000 bytes. -/
import Derived.Test.YtigdjlhihhakmaaDoorWb4
import Derived.Maps.AppendAt
namespace Go.Proofs.YtigdjlhihhakmaaDoor
open Go.RowKit
set_option linter.unusedSimpArgs false
set_option linter.unusedVariables false

theorem top_succ (p : Nat → Bool) (n : Nat) : topOf p (n + 1) = if p (n + 1) then n + 1 else topOf p n := rfl
theorem bord_top (l : List UInt8) : bord l = topOf (fun k => decide (Suf l l k)) (l.length - 1) := rfl
theorem suf_drop {l : List UInt8} {n : Nat} (h : n ≤ l.length) : l.take n = l.drop (l.length - n) ↔ Suf l l n := by
  unfold Suf
  rw [List.suffix_iff_eq_drop, List.length_take, Nat.min_eq_left h]
  exact ⟨fun e => ⟨h, e⟩, fun e => e.2⟩
set_option maxRecDepth 100000 in
set_option maxHeartbeats 1600000 in
theorem refBorder_any (l : List UInt8) (w : World) (hl : l.length ≤ 1000) :
    Calls Tryd.prog 26 #[.string ⟨l.toArray⟩] w fun e w' => e = .returned (.int .i64 (bord l : Int)) ∧ Below w.heap.size w w' := by
  rcases Nat.eq_zero_or_pos l.length with h0 | h0
  · have hl0 := List.eq_nil_of_length_eq_zero h0
    subst hl0
    have hb0 : (bord [] : Int) = 0 := rfl
    rw [hb0]
    go_enter Tryd.func26, Tryd.ntmps26
    go_wp2_with fail
    go_loopg [3] 0 (fun q s3 wx => q = 0 ∧ wx = w ∧ s3 = .int .i64 (-1))
    case atStart => exact ⟨rfl, rfl, rfl⟩
    case round =>
      obtain ⟨rfl, rfl, rfl⟩ := hrel
      go_wp2
      go_ret
      exact ⟨rfl, Below.refl _ _⟩
  · have HB := Lib.hid (bord_top l)
    go_enter Tryd.func26, Tryd.ntmps26
    go_wp2_with fail
    go_loopg [3] (l.length - 1) (fun q s3 wx => s3 = .int .i64 (q : Int) ∧ q < l.length ∧ Hid (bord l = topOf (fun k => decide (Suf l l k)) q) ∧ Below w.heap.size w wx)
    case atStart => exact ⟨by rw [show ((l.length - 1 : Nat) : Int) = (l.length : Int) - 1 by omega], by omega, HB, Below.refl _ _⟩
    case round =>
      obtain ⟨rfl, hq, HT, hb⟩ := hrel
      rcases gk with _ | q
      · have HT2 := Lib.hid (show bord l = 0 from HT.out)
        clear HT
        go_wp2
        go_ret
        exact ⟨by rw [HT2.out]; rfl, hb⟩
      · have hc1 := run_take_at l (l.take (q + 1)) (q + 1) ((q : Int) + 1) (by omega) (by omega) rfl
        have hc2 := run_drop_at l (l.drop (l.length - (q + 1))) (l.length - (q + 1)) ((l.length : Int) - ((q : Int) + 1)) (by omega) (by omega) rfl
        have hw := IntKind.wrap_i64 ((l.length : Int) - ((q : Int) + 1))
        have hw3 : IntKind.i64.wrap ((l.length : Int) - ((q : Int) + 1)) = (l.length : Int) - ((q : Int) + 1) := by rw [IntKind.wrap_i64]; omega
        have hq1 : (q : Int) + 1 - 1 = (q : Int) := by omega
        have hs := suf_drop (l := l) (n := q + 1) (by omega)
        obtain ⟨U, hU⟩ : ∃ U, l.take (q + 1) = U := ⟨_, rfl⟩
        obtain ⟨V, hV⟩ : ∃ V, l.drop (l.length - (q + 1)) = V := ⟨_, rfl⟩
        rw [hU] at hc1 hs
        rw [hV] at hc2 hs
        clear hU hV hw
        by_cases hk : Suf l l (q + 1)
        · have HT2 := Lib.hid (show bord l = q + 1 by rw [HT.out, top_succ, if_pos (decide_eq_true hk)])
          have he := hs.2 hk
          subst he
          have hee : (U == U) = true := by simp
          clear hk hs HT
          go_wp2_with fail
          go_quiet (fail)
          go_wp2_with fail
          go_ret
          exact ⟨by rw [HT2.out]; simp, below_drewM hb _⟩
        · have HT2 := Lib.hid (show bord l = topOf (fun k => decide (Suf l l k)) q by rw [HT.out, top_succ, if_neg (by rw [decide_eq_true_iff]; exact hk)])
          have hne : (U == V) = false := by rw [beq_eq_false_iff_ne]; exact fun e => hk (hs.1 e)
          clear hk hs HT
          go_wp2_with fail
          go_quiet (fail)
          go_wp2_with fail
          go_roundg q
          case measure => omega
          case rel => exact ⟨by go_num, by omega, HT2, below_drewM hb _⟩
set_option maxRecDepth 100000 in
set_option maxHeartbeats 1600000 in
theorem refPeriod_any (l : List UInt8) (w : World) (hl : l.length ≤ 1000) :
    Calls Tryd.prog 28 #[.string ⟨l.toArray⟩] w fun e w' => e = .returned (.int .i64 (per l : Int)) ∧ Below w.heap.size w w' := by
  have hle := bord_le l
  obtain ⟨p, Hp⟩ : ∃ p : Nat, Hid (per l = p) := ⟨_, Lib.hid rfl⟩
  obtain ⟨b, Hb⟩ : ∃ b : Nat, Hid (bord l = b) := ⟨_, Lib.hid rfl⟩
  have hpb : (l.length : Int) - (b : Int) = (p : Int) := by
    rw [← Hp.out, ← Hb.out]; unfold per; omega
  have HP := Lib.hid hpb
  rw [Hb.out] at hle
  rw [Hp.out]
  clear hpb
  go_enter Tryd.func28, Tryd.ntmps28
  go_wp2_with (go_at_call 26; refine (refBorder_any l _ hl).mono ?_; rintro e W1 ⟨rfl, hb⟩; (rw [Hb.out]))
  go_ret
  exact ⟨by show Ending.returned (.int .i64 ((l.length : Int) - (b : Int))) = _; rw [HP.out], hb⟩

/-! Find. -/
def fpre (w u : List UInt8) (i : Nat) : List Nat := (List.range i).filter fun j => decide (u <+: w.drop j)
theorem fpre_len (w u : List UInt8) (i : Nat) : (fpre w u i).length ≤ i := by
  have := List.length_filter_le (fun j => decide (u <+: w.drop j)) (List.range i)
  rwa [List.length_range] at this
theorem fpre_yes {w u : List UInt8} {i : Nat} (h : u <+: w.drop i) : fpre w u (i + 1) = fpre w u i ++ [i] := by
  unfold fpre
  rw [List.range_succ, List.filter_append]
  simp [h]
theorem fpre_no {w u : List UInt8} {i : Nat} (h : ¬ u <+: w.drop i) : fpre w u (i + 1) = fpre w u i := by
  unfold fpre
  rw [List.range_succ, List.filter_append]
  simp [h]
theorem fpre_all {w u : List UInt8} {i : Nat} (h : i = if u.length ≤ w.length then w.length - u.length + 1 else 0) : fpre w u i = occ w u := by
  refine sorted_same ?_ (occ_sorted _ _) fun x => ?_
  · unfold fpre
    exact List.Pairwise.filter _ (List.pairwise_lt_range)
  · unfold fpre
    rw [List.mem_filter, List.mem_range, mem_occ, decide_eq_true_iff]
    split at h
    · constructor
      · rintro ⟨a, b⟩; exact ⟨by omega, b⟩
      · rintro ⟨a, b⟩; exact ⟨by omega, b⟩
    · constructor
      · rintro ⟨a, b⟩; omega
      · rintro ⟨a, b⟩; omega
theorem cut_pre {w u : List UInt8} {i : Nat} (h : i + u.length ≤ w.length) : (w.drop i).take u.length = u ↔ u <+: w.drop i := by
  rw [List.prefix_iff_eq_take]
  exact ⟨fun e => e.symm, fun e => e.symm⟩
set_option maxRecDepth 100000 in
set_option maxHeartbeats 3200000 in
theorem refFind_any (wl ul : List UInt8) (w : World) (hlw : wl.length ≤ 1000) (hlu : ul.length ≤ 1000) :
    Calls Tryd.prog 24 #[.string ⟨wl.toArray⟩, .string ⟨ul.toArray⟩] w (NumsOut w (occ wl ul)) := by
  obtain ⟨i0, hi, hz0, hz1, hz2⟩ := info_parts Tryd.infoI64
  obtain ⟨N, Hn⟩ : ∃ N, Hid (N = if ul.length ≤ wl.length then wl.length - ul.length + 1 else 0) := ⟨_, Lib.hid rfl⟩
  have hN : (ul.length ≤ wl.length ∧ N + ul.length = wl.length + 1) ∨ (wl.length < ul.length ∧ N = 0) := by
    have := Hn.out
    split at this
    · exact Or.inl ⟨by omega, by omega⟩
    · exact Or.inr ⟨by omega, this⟩
  go_enter Tryd.func24, Tryd.ntmps24
  go_wp2_with fail
  go_loopg [5, 6] N (fun q s5 s6 wx => ∃ i : Nat, i + q = N ∧ s6 = .int .i64 (i : Int) ∧ wx.ownsRow w.heap.size 3 1 s5 (fpre wl ul i).length (ints (fpre wl ul i)) ∧ Below w.heap.size w wx)
  case atStart =>
    refine ⟨0, by omega, rfl, ?_, below1 w _⟩
    refine ⟨rfl, .inr ⟨w.heap.size, 0, #[], rfl, Nat.le_refl _, heap_alloc_new w _, Nat.le_refl _, by unfold maxLen; omega, rfl, rfl⟩⟩
  case round =>
    obtain ⟨i, hiN, rfl, hown, hb⟩ := hrel
    rcases gk with _ | q
    · obtain rfl : i = N := by omega
      have HF := Lib.hid (fpre_all Hn.out)
      have hgt : (wl.length : Int) < (i : Int) + (ul.length : Int) := by omega
      have hi9 : i ≤ 1001 := by omega
      clear hN
      go_wp2
      go_ret
      exact ⟨_, rfl, by rw [← HF.out]; exact hown, hb⟩
    · have hle : i + ul.length ≤ wl.length := by omega
      have hcut := run_cut_at wl ((wl.drop i).take ul.length) i (i + ul.length) (i : Int) ((i : Int) + (ul.length : Int)) rfl (by omega) (by omega) hle (by rw [show i + ul.length - i = ul.length by omega])
      have hcp := cut_pre hle
      have hfl := fpre_len wl ul i
      obtain ⟨U, hU⟩ : ∃ U, (wl.drop i).take ul.length = U := ⟨_, rfl⟩
      rw [hU] at hcut hcp
      clear hU hN
      by_cases hk : ul <+: wl.drop i
      · have he := hcp.2 hk
        subst he
        have HF := Lib.hid (fpre_yes hk)
        have hee : (U == U) = true := by simp
        have hlt := hown.lt
        clear hk hcp
        go_wp2_with (first | (at_builtin; refine wpList_append_own_at _ rfl _ _ 37 rfl w.heap.size 3 i0 (.int .i64 0) 1 8 Tryd.underlying37 hi hz0 hz1 hz2 rfl (by decide) _ _ _ rfl (hown.alloc _) ⟨wr.heap.size, 0, none⟩ 1 1 [.int .i64 (i : Int)] rfl rfl ?c1 ?c2 ?c3 ?c4 ?c5 ?_))
        case c1 => exact cell_one_new _ _ _
        case c2 => intro u hu; simp at hu; subst hu; rfl
        case c3 => unfold maxLen; omega
        case c4 => omega
        case c5 => rw [World.size_alloc]; have := hb.size; omega
        intro v' W2 hown2 hgrow _ hv'
        have hb2 : Below w.heap.size w W2 := (hb.alloc hb.size _).grown hgrow (by rw [World.size_alloc]; have := hb.size; omega) (fun k hk => (hlt k hk).1)
        rw [← ints_snoc, ← HF.out, show (fpre wl U i).length + 1 = (fpre wl U (i + 1)).length by rw [HF.out, List.length_append]; rfl] at hown2
        clear hown hgrow hlt hv' hb
        go_wp2
        go_roundg q
        case measure => omega
        case rel => exact ⟨i + 1, by omega, by go_num, hown2, hb2⟩
      · have HF := Lib.hid (fpre_no hk)
        have hne : (U == ul) = false := by rw [beq_eq_false_iff_ne]; exact fun e => hk (hcp.1 e)
        clear hk hcp
        go_wp2
        go_roundg q
        case measure => omega
        case rel => exact ⟨i + 1, by omega, by go_num, by rw [HF.out]; exact hown, hb⟩

/-! Root. -/
def NoRoot (l : List UInt8) (n : Nat) : Prop := ∀ m, 1 ≤ m → m < n → m ∣ l.length → ¬ Per l m
theorem NoRoot.next {l : List UInt8} {n : Nat} (h : NoRoot l n) (h2 : n ∣ l.length → ¬ Per l n) : NoRoot l (n + 1) := fun m h1 hm hd => by
  rcases Nat.lt_or_ge m n with h3 | h3
  · exact h m h1 h3 hd
  · obtain rfl : m = n := by omega
    exact h2 hd
theorem NoRoot.found {l : List UInt8} {n : Nat} (h : NoRoot l n) (h1 : 1 ≤ n) (hd : n ∣ l.length) (hp : Per l n) (hl : n ≤ l.length) : rlen l = n :=
  rlen_one (fun e => by rw [e] at hl; simp at hl; omega) h1 hd hp fun q hq hqd hqp => by
    rcases Nat.lt_or_ge q n with h3 | h3
    · exact absurd hqp (h q hq h3 hqd)
    · exact h3
theorem NoRoot.nil {l : List UInt8} (h : NoRoot l (l.length + 1)) : l = [] := by
  rcases Nat.eq_zero_or_pos l.length with h0 | h0
  · exact List.eq_nil_of_length_eq_zero h0
  · exact absurd (per_self l) (h l.length h0 (by omega) (Nat.dvd_refl _))
def SameTo (l : List UInt8) (n i : Nat) : Prop := ∀ j, j + n < i → l[j]? = l[j + n]?
theorem SameTo.next {l : List UInt8} {n i : Nat} (hn : n ≤ i) : SameTo l n (i + 1) ↔ SameTo l n i ∧ l[i - n]? = l[i]? := by
  unfold SameTo
  constructor
  · intro h
    refine ⟨fun j hj => h j (by omega), ?_⟩
    have := h (i - n) (by omega)
    rwa [Nat.sub_add_cancel hn] at this
  · rintro ⟨h1, h2⟩ j hj
    rcases Nat.lt_or_ge (j + n) i with h3 | h3
    · exact h1 j h3
    · have : j = i - n := by omega
      subst this
      rw [Nat.sub_add_cancel hn]; exact h2
set_option maxRecDepth 100000 in
set_option maxHeartbeats 3200000 in
theorem refRoot_any (l : List UInt8) (w : World) (hl : l.length ≤ 1000) :
    Calls Tryd.prog 21 #[.string ⟨l.toArray⟩] w fun e w' => e = .returned (.tuple #[.string ⟨(rootL l).toArray⟩, .int .i64 (rootN l : Int)]) ∧ Below w.heap.size w w' := by
  go_enter Tryd.func21, Tryd.ntmps21
  go_wp2_with fail
  go_loopg [4] l.length (fun q s4 wx => ∃ n : Nat, n + q = l.length + 1 ∧ 1 ≤ n ∧ s4 = .int .i64 (n : Int) ∧ Hid (NoRoot l n) ∧ Below w.heap.size w wx)
  case atStart => exact ⟨1, by omega, by omega, rfl, Lib.hid (fun m h1 h2 => by omega), Below.refl _ _⟩
  case round =>
    obtain ⟨n, hn, hn1, rfl, HN, hb⟩ := hrel
    rcases gk with _ | q
    · obtain rfl : n = l.length + 1 := by omega
      have hl0 := NoRoot.nil HN.out
      subst hl0
      have HR := Lib.hid (show rootL [] = [] from rfl)
      have HRN := Lib.hid (show rootN [] = 0 from rfl)
      clear HN
      go_wp2
      exact bodyPost_ret (v := .tuple #[.string ⟨#[]⟩, .int .i64 0]) (by simp [results, Tryd.results21, go_sem]) rfl ⟨by rw [HR.out, HRN.out]; rfl, hb⟩
    · have hnl : n ≤ l.length := by omega
      have hr : Int.tmod (l.length : Int) (n : Int) = ((l.length % n : Nat) : Int) := by rw [Int.tmod_eq_emod_of_nonneg (by omega)]; rfl
      have hm0 : ¬ (n : Int) = 0 := by omega
      have hdv := Nat.dvd_iff_mod_eq_zero (m := n) (n := l.length)
      have hrl := Nat.mod_lt l.length (show n > 0 by omega)
      obtain ⟨r, hrr⟩ : ∃ r, l.length % n = r := ⟨_, rfl⟩
      rw [hrr] at hr hdv hrl
      have HRR := Lib.hid hrr
      clear hrr
      by_cases hr0 : r = 0
      · have HD := Lib.hid (hdv.2 hr0)
        subst hr0
        clear hdv hrl
        go_wp2_with fail
        go_loopg [5, 6] (l.length - n) (fun p s5 s6 wx => ∃ (i : Nat) (b : Bool), i + p = l.length ∧ n ≤ i ∧ s6 = .int .i64 (i : Int) ∧ s5 = .bool b ∧ Hid (b = true ↔ SameTo l n i) ∧ Below w.heap.size w wx)
        case atStart => exact ⟨n, true, by omega, Nat.le_refl _, rfl, rfl, Lib.hid ⟨fun _ j hj => by omega, fun _ => rfl⟩, hb⟩
        case round =>
          obtain ⟨i, b, hip, hni, rfl, rfl, HB, hb2⟩ := hrel
          clear hb
          rcases gk with _ | p
          · obtain rfl : i = l.length := by omega
            cases b with
            | true =>
              have HL := Lib.hid (HN.out.found hn1 HD.out (HB.out.1 rfl) hnl)
              have hcut := run_take_at l (l.take n) n (n : Int) rfl hnl rfl
              have HU := Lib.hid (show rootL l = l.take n by unfold rootL; rw [HL.out])
              have HQ := Lib.hid (show rootN l = l.length / n by unfold rootN; rw [HL.out])
              have hq : Int.tdiv (l.length : Int) (n : Int) = ((l.length / n : Nat) : Int) := by rw [Int.tdiv_eq_ediv_of_nonneg (by omega)]; rfl
              have hql := Nat.div_le_self l.length n
              obtain ⟨k, hk⟩ : ∃ k, l.length / n = k := ⟨_, rfl⟩
              rw [hk] at hq hql HQ
              clear hk HB
              go_wp2_with fail
              go_quiet (fail)
              go_wp2_with fail
              exact bodyPost_ret (v := .tuple #[.string ⟨(l.take n).toArray⟩, .int .i64 (k : Int)]) (by simp [results, Tryd.results21, go_sem]) rfl ⟨by rw [HU.out, HQ.out], below_drewM hb2 _⟩
            | false =>
              have HN2 := Lib.hid (HN.out.next (fun _ hp => by have := HB.out.2 hp; cases this))
              clear HB
              go_wp2_with fail
              go_roundg q
              case measure => omega
              case rel => exact ⟨n + 1, by omega, by omega, by go_num, HN2, hb2⟩
          · obtain ⟨c, hc⟩ : ∃ c, l[i]? = some c := ⟨_, List.getElem?_eq_getElem (by omega)⟩
            obtain ⟨d, hd⟩ : ∃ d, l[i - n]? = some d := ⟨_, List.getElem?_eq_getElem (by omega)⟩
            have hix1 := run_at_bytes l i c hc (i : Int) rfl
            have hix2 := run_at_bytes l (i - n) d hd ((i : Int) - (n : Int)) (by omega)
            have hw3 : IntKind.i64.wrap ((i : Int) - (n : Int)) = (i : Int) - (n : Int) := by rw [IntKind.wrap_i64]; omega
            have hnext := SameTo.next (l := l) hni
            rw [hc, hd] at hnext
            have hcl := c.toNat_lt
            have hdl := d.toNat_lt
            clear hc hd
            by_cases hcd : c = d
            · subst hcd
              have HB2 := Lib.hid (show b = true ↔ SameTo l n (i + 1) from ⟨fun h => hnext.2 ⟨HB.out.1 h, rfl⟩, fun h => HB.out.2 (hnext.1 h).1⟩)
              have hee : ((c.toNat : Int) == (c.toNat : Int)) = true := by simp
              clear hnext HB
              go_wp2_with fail
              go_quiet (fail)
              go_wp2_with fail
              go_roundg p
              case measure => omega
              case rel => exact ⟨i + 1, b, by omega, by omega, by go_num, rfl, HB2, below_drewM hb2 _⟩
            · have HB2 := Lib.hid (show false = true ↔ SameTo l n (i + 1) from ⟨fun h => (by cases h), fun h => absurd (Option.some.inj (hnext.1 h).2).symm hcd⟩)
              have hne : ((c.toNat : Int) == (d.toNat : Int)) = false := by
                rw [beq_eq_false_iff_ne]
                intro e
                exact hcd (UInt8.toNat_inj.1 (by omega))
              clear hnext HB hcd
              go_wp2_with fail
              go_quiet (fail)
              go_wp2_with fail
              go_roundg p
              case measure => omega
              case rel => exact ⟨i + 1, false, by omega, by omega, by go_num, rfl, HB2, below_drewM hb2 _⟩
      · have HN2 := Lib.hid (HN.out.next (fun h _ => hr0 (hdv.1 h)))
        have hne : ((r : Int) == 0) = false := by rw [beq_eq_false_iff_ne]; omega
        clear hdv hr0
        go_wp2_with fail
        go_roundg q
        case measure => omega
        case rel => exact ⟨n + 1, by omega, by omega, by go_num, HN2, hb⟩

/-! Reverse. -/
def bvs (l : List UInt8) : List Value := l.map encB
theorem bvs_len (l : List UInt8) : (bvs l).length = l.length := List.length_map _
theorem Tryd.infoU8w : (Tryd.prog.info? 5).map (fun i => (i.zero, i.size, i.bytes)) = some (some (.int .u8 0), 1, 1) := by kernel_rfl
theorem drop_rev {l : List UInt8} {q : Nat} {c : UInt8} (h : l[q]? = some c) : (l.drop q).reverse = (l.drop (q + 1)).reverse ++ [c] := by
  have hq := (List.getElem?_eq_some_iff.1 h)
  obtain ⟨hq1, hq2⟩ := hq
  rw [List.drop_eq_getElem_cons hq1, List.reverse_cons, hq2]
set_option maxRecDepth 100000 in
set_option maxHeartbeats 3200000 in
theorem refReverse_any (l : List UInt8) (w : World) (hl : l.length ≤ 1000) :
    Calls Tryd.prog 30 #[.string ⟨l.toArray⟩] w fun e w' => e = .returned (.string ⟨l.reverse.toArray⟩) ∧ Below w.heap.size w w' := by
  obtain ⟨i0, hi, hz0, hz1, hz2⟩ := info_parts Tryd.infoU8w
  obtain ⟨R, hR⟩ : ∃ R, l.reverse = R := ⟨_, rfl⟩
  have HRR := Lib.hid hR
  rw [hR]
  clear hR
  go_enter Tryd.func30, Tryd.ntmps30
  go_wp2_with fail
  go_loopg [3, 4] l.length (fun q s3 s4 wx => q ≤ l.length ∧ s4 = .int .i64 ((q : Int) - 1) ∧ (∃ g c, s3 = .slice (some ⟨g, 0, none⟩) (l.length - q) c) ∧ wx.ownsRow w.heap.size 5 1 s3 (l.length - q) (bvs (l.drop q).reverse) ∧ Below w.heap.size w wx)
  case atStart =>
    refine ⟨Nat.le_refl _, rfl, ⟨w.heap.size, 0, by rw [Nat.sub_self]⟩, ?_, below1 w _⟩
    rw [Nat.sub_self, List.drop_length]
    exact ⟨rfl, .inr ⟨w.heap.size, 0, #[], rfl, Nat.le_refl _, heap_alloc_new w _, Nat.le_refl _, by unfold maxLen; omega, rfl, rfl⟩⟩
  case round =>
    obtain ⟨hq, rfl, ⟨g, c, rfl⟩, hown, hb⟩ := hrel
    rcases gk with _ | q
    · rw [List.drop_zero] at hown
      have hlr : l.reverse.length = l.length := List.length_reverse
      rw [Nat.sub_zero] at hown
      have hbk : (convert 70 9 (.slice (some ⟨g, 0, none⟩) l.length c)).run Tryd.prog wr = .ok (.string ⟨l.reverse.toArray⟩) wr := by
        rw [← hlr]
        refine run_convert_bytes_back _ 70 9 5 ⟨g, 0, none⟩ c l.reverse Tryd.underlying70 Tryd.underlying5 Tryd.underlying9 (fun j hj => ?_)
        rw [show (⟨g, 0, none⟩ : Addr).add j = ⟨g, j, none⟩ by unfold Addr.add; split <;> simp_all, hown.cellAt j (by omega)]
        unfold bvs
        rw [List.getElem?_map, List.getElem?_eq_getElem hj]; rfl
      rw [HRR.out] at hbk
      rw [Nat.sub_zero]
      clear hown hlr
      go_wp2
      go_ret
      exact ⟨rfl, hb⟩
    · obtain ⟨x, hx⟩ : ∃ x, l[q]? = some x := ⟨_, List.getElem?_eq_getElem (by omega)⟩
      have hix := run_at_bytes l q x hx (q : Int) rfl
      have HD := Lib.hid (drop_rev hx)
      have hlt := hown.lt
      have hxl := x.toNat_lt
      have hq1 : ((q + 1 : Nat) : Int) - 1 = (q : Int) := by omega
      have hbs := hb.size
      rw [hq1]
      clear hx hq1
      go_wp2_with (first | (at_builtin; refine wpList_append_own_at _ rfl _ _ 70 rfl w.heap.size 5 i0 (.int .u8 0) 1 1 Tryd.underlying70 hi hz0 hz1 hz2 rfl (by decide) _ _ _ rfl (hown.alloc _) ⟨wr.heap.size, 0, none⟩ 1 1 [.int .u8 (x.toNat : Int)] rfl rfl ?c1 ?c2 ?c3 ?c4 ?c5 ?_))
      case c1 => exact cell_one_new _ _ _
      case c2 => intro u hu; simp at hu; subst hu; rfl
      case c3 => unfold maxLen; omega
      case c4 => omega
      case c5 => rw [World.size_alloc]; omega
      intro v' W2 hown2 hgrow _ hv'
      have hb2 : Below w.heap.size w W2 := (hb.alloc hbs _).grown hgrow (by rw [World.size_alloc]; omega) (fun k hk => (hlt k hk).1)
      rw [show bvs (l.drop (q + 1)).reverse ++ [.int .u8 (x.toNat : Int)] = bvs (l.drop q).reverse by rw [HD.out]; unfold bvs; rw [List.map_append]; rfl, show l.length - (q + 1) + 1 = l.length - q by omega] at hown2
      obtain ⟨g2, c2, rfl, -, -⟩ := hown2.form (by omega)
      clear hown hgrow hlt hv' hb
      go_wp2
      go_roundg q
      case measure => omega
      case rel => exact ⟨by omega, by go_num, ⟨g2, c2, rfl⟩, hown2, hb2⟩
end Go.Proofs.YtigdjlhihhakmaaDoor
