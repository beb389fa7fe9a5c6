/- What runs.digit, runs.gather and runs.Split return. Condition: at most 1000 letters, or an error of Check. -/
import Derived.Test.YtokpfbbhkmlclaaGreatDoorUe
import Derived.Test.YtokpfbbhkmlclaaGreatDoorUc
namespace Go.Proofs.YtokpfbbhkmlclaaGreatDoor
open Go.RowKit
set_option linter.unusedSimpArgs false
set_option linter.unusedVariables false

theorem index_of : ∀ (l : List UInt8) (c : UInt8), c ∈ l → Lib.indexByte l c = (l.idxOf c : Int)
  | [], _, h => by cases h
  | b :: l, c, h => by
    unfold Lib.indexByte
    rw [List.idxOf_cons]
    cases e : b == c with
    | true => simp
    | false =>
      have h2 : c ∈ l := by
        rcases List.mem_cons.1 h with h3 | h3
        · subst h3; simp at e
        · exact h3
      rw [index_of l c h2]
      have : ((l.idxOf c : Int) == -1) = false := by rw [beq_eq_false_iff_ne]; omega
      simp [this]
theorem digit_any (c : UInt8) (w : World) (hc : dgt c < 16) : Calls Tryz.prog 28 #[.int .u8 (c.toNat : Int)] w fun e w' => e = .returned (.int .i64 (dgt c : Int)) ∧ w' = w := by
  have hm : c ∈ lets := by have := (mem_lets (q := 16) (Nat.le_refl _) c).2 hc; exact List.mem_of_mem_take this
  have HI := Lib.hid (show Lib.indexByte lb.data.toList ((c.toNat : Int).toNat).toUInt8 = (dgt c : Int) by
    rw [Int.toNat_natCast, show c.toNat.toUInt8 = c from by simp]
    exact index_of lets c hm)
  go_enter Tryz.func28, Tryz.ntmps28
  go_wp2_with (go_at_call 38; refine (Tryz.strings_IndexByte _ _ _).mono ?_; rintro e W1 ⟨rfl, rfl⟩; (rw [HI.out]))
  go_ret
  exact ⟨rfl, rfl⟩
theorem splitF_any (c : UInt8) (z : Int) (w : World) (hc : dgt c < 16) : Calls Tryz.prog 27 #[.int .u8 (c.toNat : Int), .int .i64 z] w fun e w' => e = .returned (.agg #[.int .i64 (dgt c : Int), .int .i64 z]) ∧ Below w.heap.size w w' := by
  have HD := Lib.hid (fun W => digit_any c W hc)
  obtain ⟨d, hd⟩ : ∃ d, dgt c = d := ⟨_, rfl⟩
  simp only [hd] at HD
  rw [hd]
  clear hd hc
  go_enter Tryz.func27, Tryz.ntmps27
  go_wp2_with (go_at_call 28; (with_reducible refine (HD.out _).mono ?_); rintro e W1 ⟨rfl, hW⟩; (rw [hW]); (clear hW))
  exact bodyPost_ret (v := .agg #[.int .i64 (d : Int), .int .i64 z]) (by simp [results, Tryz.results27, go_sem]) rfl ⟨rfl, below1 w _⟩
/-- Between two rounds of gather: the runs that have ended, and the first place of the one that has not. -/
def GI (l : List UInt8) (i f : Nat) (r : List (Int × Int)) : Prop := f ≤ i ∧ (∀ c, l[i]? = some c → rns (l.take (i + 1)) = r ++ [((dgt c : Int), (i : Int) + 1 - (f : Int))]) ∧ (i = l.length → r = rns l)
theorem GI.start (l : List UInt8) : GI l 0 0 [] := by
  refine ⟨Nat.le_refl _, fun c hc => ?_, fun h => ?_⟩
  · rw [List.take_add_one, hc]; rfl
  · rw [List.eq_nil_of_length_eq_zero h.symm]; rfl
theorem rns_at {l : List UInt8} {i : Nat} {c : UInt8} (h : l[i]? = some c) : rns (l.take (i + 1)) = rstep (rns (l.take i)) c := by
  rw [List.take_add_one, h]; exact rns_snoc _ _
theorem GI.same {l : List UInt8} {i f : Nat} {r : List (Int × Int)} {c : UInt8} (h : GI l i f r) (h1 : l[i]? = some c) (h2 : l[i + 1]? = some c) : GI l (i + 1) f r := by
  obtain ⟨a, b, -⟩ := h
  refine ⟨by omega, fun d hd => ?_, fun e => ?_⟩
  · rw [h2] at hd
    injection hd with hd
    subst hd
    rw [rns_at h2, b c h1, rstep_same, show (i : Int) + 1 - (f : Int) + 1 = ((i + 1 : Nat) : Int) + 1 - (f : Int) by omega]
  · have := (List.getElem?_eq_some_iff.1 h2).1; omega
theorem GI.cut {l : List UInt8} {i f : Nat} {r : List (Int × Int)} {c : UInt8} (h : GI l i f r) (h1 : l[i]? = some c) (h2 : ∀ d, l[i + 1]? = some d → dgt c ≠ dgt d) : GI l (i + 1) (i + 1) (r ++ [((dgt c : Int), (i : Int) + 1 - (f : Int))]) := by
  obtain ⟨a, b, -⟩ := h
  refine ⟨Nat.le_refl _, fun d hd => ?_, fun e => ?_⟩
  · rw [rns_at hd, b c h1, rstep_other _ _ _ _ (by have := h2 d hd; omega), show ((i + 1 : Nat) : Int) + 1 - ((i + 1 : Nat) : Int) = 1 by omega]
  · rw [← b c h1, e, List.take_length]
theorem dgt_inj {c d : UInt8} (h : dgt c < 16) (e : dgt c = dgt d) : c = d := by rw [← lt_dgt h, e, lt_dgt (by omega)]
set_option maxRecDepth 100000 in
set_option maxHeartbeats 3200000 in
theorem gather_any (l : List UInt8) (b cap : Nat) (w : World) (hl : l.length ≤ 1000) (hW : Wof 16 l) (hc : BRow w b l) :
    Calls Tryz.prog 26 #[.slice (some ⟨b, 0, none⟩) l.length cap, .func (.func 27) #[] #[]] w fun e w' => ∃ v, e = .returned v ∧ RunsAt w' w.heap.size v (rns l) ∧ Below w.heap.size w w' := by
  obtain ⟨i0, hi, hz0, hz1, hz2⟩ := info_parts Tryz.infoRun
  have HC := Lib.hid hc
  have HW := Lib.hid hW
  clear hc hW
  go_enter Tryz.func26, Tryz.ntmps26
  go_wp2_with fail
  go_loopg [5, 6, 11] l.length (fun q s5 s6 s11 wx => ∃ (i f : Nat) (r : List (Int × Int)), i + q = l.length ∧ s11 = .int .i64 (i : Int) ∧ s6 = .int .i64 (f : Int) ∧ f ≤ i ∧ r.length ≤ i ∧ Hid (GI l i f r) ∧ wx.ownsRow w.heap.size 46 2 s5 r.length (rcl r) ∧ Below w.heap.size w wx)
  case atStart => exact ⟨0, 0, [], by omega, rfl, rfl, Nat.le_refl _, Nat.le_refl _, Lib.hid (GI.start l), World.ownsRow_nil _ _ _ _, Below.refl _ _⟩
  case round =>
    obtain ⟨i, f, r, hin, rfl, rfl, hfi, hri, HG, hown, hb⟩ := hrel
    obtain ⟨a5, c5, rfl⟩ := own_slice hown
    rcases gk with _ | q
    · obtain rfl : i = l.length := by omega
      have HR := Lib.hid (show RunsAt wr w.heap.size (.slice a5 r.length c5) (rns l) by rw [← HG.out.2.2 rfl]; exact hown)
      clear hown HG
      go_wp2
      go_ret
      exact ⟨_, rfl, HR.out, hb⟩
    · obtain ⟨c, hci⟩ : ∃ c, l[i]? = some c := ⟨_, List.getElem?_eq_getElem (by omega)⟩
      have hk := HC.out.keep hb
      have hcell := (hk i c hci).1
      have hcu := c.toNat_lt
      have hc16 : dgt c < 16 := HW.out c (List.mem_of_getElem? hci)
      rcases (show i + 1 = l.length ∨ i + 1 < l.length by omega) with hend | hmore
      · have HG2 := Lib.hid (HG.out.cut hci (fun d hd => by rw [List.getElem?_eq_none (by omega)] at hd; cases hd))
        have HF := Lib.hid (fun z W => splitF_any c z W hc16)
        have hlt := hown.lt
        obtain ⟨d, hd⟩ : ∃ d, dgt c = d := ⟨_, rfl⟩
        simp only [hd] at HF
        rw [hd] at HG2
        have hle : ((i : Int) + 1 == (l.length : Int)) = true := by rw [beq_iff_eq]; omega
        clear hk hci hd hc16 HG
        go_wp2_with (first
          | (go_at_call 27; (with_reducible refine (HF.out _ _).mono ?_); rintro e W1 ⟨rfl, b1⟩; (have hown1 := hown.kept (grown_none b1) (by cases (Value.slice a5 r.length c5).ownBlock <;> simp)); (have hlt1 := hown1.lt); (have hbw1 := below_more hb (Nat.le_refl _) b1); (have hbs := hbw1.size))
          | (at_builtin; refine wpList_append_own_at _ rfl _ _ 33 rfl w.heap.size 46 i0 (.agg #[.int .i64 0, .int .i64 0]) 2 16 Tryz.underlying33 hi hz0 hz1 hz2 rfl (by decide) _ _ _ rfl (hown1.alloc _) ⟨W1.heap.size, 0, none⟩ 1 1 [.int .i64 (d : Int), .int .i64 ((i : Int) + 1 - (f : Int))] rfl rfl ?c1 ?c2 ?c3 ?c4 ?c5 ?_))
        case c1 => exact cell_two_new _ _ _ _
        case c2 => intro u hu; simp at hu; rcases hu with rfl | rfl <;> rfl
        case c3 => unfold maxLen; omega
        case c4 => omega
        case c5 => rw [World.size_alloc]; omega
        intro v' W2 hown2 hgrow _ hv'
        have hb2 : Below w.heap.size w W2 := (hbw1.alloc hbs _).grown hgrow (by rw [World.size_alloc]; omega) (fun k hk => (hlt1 k hk).1)
        rw [show rcl r ++ [.int .i64 (d : Int), .int .i64 ((i : Int) + 1 - (f : Int))] = rcl (r ++ [((d : Int), (i : Int) + 1 - (f : Int))]) from (rcl_snoc r ((d : Int), (i : Int) + 1 - (f : Int))).symm] at hown2
        obtain ⟨a', c', rfl⟩ := own_slice hown2
        clear hown hown1 hgrow hlt hlt1 hv' hb hbw1
        go_wp2
        go_roundg q
        case measure => omega
        case rel => exact ⟨i + 1, i + 1, r ++ [((d : Int), (i : Int) + 1 - (f : Int))], by omega, by go_num, by go_num, Nat.le_refl _, by simp; omega, HG2, by rw [List.length_append]; exact hown2, hb2⟩
      · obtain ⟨c2, hc2i⟩ : ∃ c, l[i + 1]? = some c := ⟨_, List.getElem?_eq_getElem hmore⟩
        have hcell2 := (hk (i + 1) c2 hc2i).1
        have hcu2 := c2.toNat_lt
        have hle : ((i : Int) + 1 == (l.length : Int)) = false := by rw [beq_eq_false_iff_ne]; omega
        have hix : ((i : Int) + 1).toNat = i + 1 := by omega
        have hii : (i : Int) + 1 < (l.length : Int) := by omega
        by_cases hcc : c2 = c
        · subst hcc
          have HG2 := Lib.hid (HG.out.same hci hc2i)
          clear hk hci hc2i hc16 HG
          go_wp2
          go_roundg q
          case measure => omega
          case rel => exact ⟨i + 1, f, r, by omega, by go_num, rfl, by omega, by omega, HG2, hown, hb⟩
        · have HG2 := Lib.hid (HG.out.cut hci (fun d2 hd => by rw [hc2i] at hd; injection hd with hd; subst hd; exact fun e => hcc (dgt_inj hc16 e).symm))
          have HF := Lib.hid (fun z W => splitF_any c z W hc16)
          have hlt := hown.lt
          obtain ⟨d, hd⟩ : ∃ d, dgt c = d := ⟨_, rfl⟩
          simp only [hd] at HF
          rw [hd] at HG2
          have hne : ((c2.toNat : Int) == (c.toNat : Int)) = false := by
            rw [beq_eq_false_iff_ne]
            intro e
            exact hcc (UInt8.toNat_inj.1 (by omega))
          clear hc2i hcc
          clear hk hci hd hc16 HG
          go_wp2_with (first
            | (go_at_call 27; (with_reducible refine (HF.out _ _).mono ?_); rintro e W1 ⟨rfl, b1⟩; (have hown1 := hown.kept (grown_none b1) (by cases (Value.slice a5 r.length c5).ownBlock <;> simp)); (have hlt1 := hown1.lt); (have hbw1 := below_more hb (Nat.le_refl _) b1); (have hbs := hbw1.size))
            | (at_builtin; refine wpList_append_own_at _ rfl _ _ 33 rfl w.heap.size 46 i0 (.agg #[.int .i64 0, .int .i64 0]) 2 16 Tryz.underlying33 hi hz0 hz1 hz2 rfl (by decide) _ _ _ rfl (hown1.alloc _) ⟨W1.heap.size, 0, none⟩ 1 1 [.int .i64 (d : Int), .int .i64 ((i : Int) + 1 - (f : Int))] rfl rfl ?c1 ?c2 ?c3 ?c4 ?c5 ?_))
          case c1 => exact cell_two_new _ _ _ _
          case c2 => intro u hu; simp at hu; rcases hu with rfl | rfl <;> rfl
          case c3 => unfold maxLen; omega
          case c4 => omega
          case c5 => rw [World.size_alloc]; omega
          intro v' W2 hown2 hgrow _ hv'
          have hb2 : Below w.heap.size w W2 := (hbw1.alloc hbs _).grown hgrow (by rw [World.size_alloc]; omega) (fun k hk => (hlt1 k hk).1)
          rw [show rcl r ++ [.int .i64 (d : Int), .int .i64 ((i : Int) + 1 - (f : Int))] = rcl (r ++ [((d : Int), (i : Int) + 1 - (f : Int))]) from (rcl_snoc r ((d : Int), (i : Int) + 1 - (f : Int))).symm] at hown2
          obtain ⟨a', c', rfl⟩ := own_slice hown2
          clear hown hown1 hgrow hlt hlt1 hv' hb hbw1
          go_wp2
          go_roundg q
          case measure => omega
          case rel => exact ⟨i + 1, i + 1, r ++ [((d : Int), (i : Int) + 1 - (f : Int))], by omega, by go_num, by go_num, Nat.le_refl _, by simp; omega, HG2, by rw [List.length_append]; exact hown2, hb2⟩
/-- What Split returns. -/
def splitR (l : List UInt8) : List (Int × Int) × Int := if chk 16 l = 0 then (rns l, 0) else ([], chk 16 l)
theorem splitR_zero {l : List UInt8} (h : chk 16 l = 0) : splitR l = (rns l, 0) := by unfold splitR; rw [if_pos h]
theorem splitR_err {l : List UInt8} {c : Int} (h : chk 16 l = c) (h0 : c ≠ 0) : splitR l = ([], c) := by unfold splitR; rw [if_neg (by rw [h]; exact h0), h]
def RunsOut (w : World) (r : List (Int × Int) × Int) (e : Ending) (w' : World) : Prop := ∃ v, e = .returned (.tuple #[v, .int .i64 r.2]) ∧ RunsAt w' w.heap.size v r.1 ∧ Below w.heap.size w w'
set_option maxRecDepth 100000 in
set_option maxHeartbeats 3200000 in
theorem split_any (l : List UInt8) (w : World) (hl : l.length ≤ 1000 ∨ (65536 < l.length ∧ l.length ≤ 9223372036854775807)) :
    Calls Tryz.prog 12 #[.string ⟨l.toArray⟩] w (RunsOut w (splitR l)) := by
  have HC := Lib.hid (fun W => check_any 16 l W (by omega))
  by_cases h0 : chk 16 l = 0
  · obtain ⟨m, hm, m1, m2, hl2, hW⟩ := chk_zero h0
    obtain rfl : m = 16 := by omega
    have hl3 : l.length ≤ 1000 := by omega
    have HX := Lib.hid (show splitR l = (rns l, 0) by unfold splitR; rw [if_pos h0])
    rw [HX.out]
    simp only [h0] at HC
    have hcv := fun W => Lib.run_convert_string_bytes (P := Tryz.prog) W 9 69 5 ⟨l.toArray⟩ Tryz.underlying9 Tryz.underlying69 Tryz.underlying5
    have HR := Lib.hid (fun W => bytes_row W l)
    have HB := Lib.hid (fun W => bytes_below W 5 ⟨l.toArray⟩)
    have HG := Lib.hid (fun b cap W h => gather_any l b cap W hl3 hW h)
    clear hW hl h0 HX hm
    go_enter Tryz.func12, Tryz.ntmps12
    go_wp2_with (first
      | (go_at_call 25; (with_reducible refine (HC.out _).mono ?_); rintro e W1 ⟨rfl, b1⟩)
      | (go_at_call 26; (with_reducible refine (HG.out _ _ _ (HR.out _)).mono ?_); rintro e W2 ⟨v, rfl, hown, b2⟩; (obtain ⟨a, c, rfl⟩ := hown.slice)))
    have hb := below_more b1 (Nat.le_refl _) ((HB.out W1).trans (b2.mono (HB.out W1).size))
    have hr : RunsAt W2 w.heap.size (.slice a (rns l).length c) (rns l) := own_low hown (by have := b1.size; have := (HB.out W1).size; omega)
    exact bodyPost_ret (v := .tuple #[.slice a (rns l).length c, .int .i64 0]) (by simp [results, Tryz.results12, go_sem]) rfl ⟨_, rfl, hr, hb⟩
  · obtain ⟨c, hc⟩ : ∃ c, chk 16 l = c := ⟨_, rfl⟩
    have HX := Lib.hid (show splitR l = ([], c) by unfold splitR; rw [if_neg h0, hc])
    rw [HX.out]
    simp only [hc] at HC
    rw [hc] at h0
    have h1 : (c == 0) = false := by rw [beq_eq_false_iff_ne]; exact h0
    clear hc h0
    go_enter Tryz.func12, Tryz.ntmps12
    go_wp2_with (go_at_call 25; (with_reducible refine (HC.out _).mono ?_); rintro e W1 ⟨rfl, b1⟩)
    exact bodyPost_ret (v := .tuple #[.slice none 0 0, .int .i64 c]) (by simp [results, Tryz.results12, go_sem]) rfl ⟨_, rfl, runs_nil _ _, b1⟩
end Go.Proofs.YtokpfbbhkmlclaaGreatDoor
