/- What integer.Print returns: the decimal text. The decimal text of an integer and its digits: what Print writes, Parse reads; what Parse reads, Print writes. What the laws' Great returns. -/
import Derived.Test.YtfcdekkoeeaolaaDoorQ11
import Derived.Test.YtfcdekkoeeaolaaDoorQ13
import Derived.Deep.DeepCutAuto
import Derived.Lib.AppendIntMem
import Derived.Lib.ItoaMem
import Derived.Test.YtfcdekkoeeaolaaDoorQ07

namespace Go.Proofs.YtfcdekkoeeaolaaDoor
open Go.RowKit

def pad9 (d : Nat) : List UInt8 := Lib.repeatL [48] (9 - (Lib.decDigits d).length) ++ Lib.decDigits d
/-- The text of the groups, the least one first in the list. -/
def prS : List Nat → List UInt8
  | [] => []
  | d :: l => prS l ++ (if l = [] then Lib.decDigits d else pad9 d)
def sgnT (g : Bool) : List UInt8 := if g then [45] else []
def prZ (z : Int) : List UInt8 := if z = 0 then [48] else sgnT (sg z) ++ prS (gs z.natAbs)

theorem nDigits_le : ∀ (k u : Nat), 1 ≤ k → u < 10 ^ k → Lib.nDigits u ≤ k
  | 0, _, h, _ => absurd h (by omega)
  | k + 1, u, _, h => by
    by_cases h1 : u < 10
    · rw [Lib.nDigits_small h1]; omega
    · rw [Lib.nDigits_big h1]
      have hk : 1 ≤ k := by
        rcases k with _ | k
        · simp at h; omega
        · omega
      have := nDigits_le k (u / 10) hk (by rw [Nat.pow_succ] at h; omega)
      omega
theorem dec9 {d : Nat} (h : d < 1000000000) : 1 ≤ (Lib.decDigits d).length ∧ (Lib.decDigits d).length ≤ 9 := by
  rw [Lib.decDigits_length]
  exact ⟨Lib.nDigits_pos d, nDigits_le 9 d (by omega) (by omega)⟩
theorem pad9_len {d : Nat} (h : d < 1000000000) : (pad9 d).length = 9 := by
  have := dec9 h
  unfold pad9
  rw [List.length_append, Lib.repeatL_length]; simp; omega
theorem gs_lt {N : Nat} : ∀ d ∈ gs N, d < 1000000000 := by
  induction N using Nat.strongRecOn with
  | _ N ih =>
    intro d hd
    by_cases h0 : N = 0
    · subst h0; rw [gs_zero] at hd; simp at hd
    · rw [gs_pos h0] at hd
      rcases List.mem_cons.1 hd with rfl | hd
      · exact Nat.mod_lt _ (by omega)
      · exact ih _ (Nat.div_lt_self (by omega) (by omega)) d hd
theorem prS_len : ∀ {l : List Nat}, (∀ d ∈ l, d < 1000000000) → (prS l).length ≤ 9 * l.length
  | [], _ => by simp [prS]
  | d :: l, h => by
    have h1 := prS_len (l := l) (fun x hx => h x (List.mem_cons_of_mem _ hx))
    have h2 := dec9 (h d List.mem_cons_self)
    have h3 := pad9_len (h d List.mem_cons_self)
    unfold prS
    rw [List.length_append, List.length_cons]
    split <;> omega
theorem strCells_mk (l : List UInt8) : Lib.strCells ⟨l.toArray⟩ = Lib.byteCells l := by simp [Lib.strCells, Lib.byteCells]
theorem byteCells_append (l m : List UInt8) : Lib.byteCells l ++ Lib.byteCells m = Lib.byteCells (l ++ m) := by simp [Lib.byteCells]
theorem prS_last {L : List Nat} {g : Nat} (h : g + 1 = L.length) : prS (L.drop g) = prS (L.drop (g + 1)) ++ Lib.decDigits (L.getD g 0) := by
  rw [List.drop_eq_getElem_cons (by omega : g < L.length)]
  have h0 : L.drop (g + 1) = [] := List.drop_eq_nil_of_le (by omega)
  rw [h0]; simp [prS, List.getD, List.getElem?_eq_getElem (by omega : g < L.length)]
theorem prS_step {L : List Nat} {g : Nat} (h : g + 1 < L.length) : prS (L.drop g) = prS (L.drop (g + 1)) ++ pad9 (L.getD g 0) := by
  rw [List.drop_eq_getElem_cons (by omega : g < L.length)]
  have h0 : L.drop (g + 1) ≠ [] := by
    intro e
    have := congrArg List.length e
    rw [List.length_drop] at this; simp at this; omega
  rw [prS, if_neg h0]; simp [List.getD, List.getElem?_eq_getElem (by omega : g < L.length)]
theorem tab_keep {w w' : World} {name : String} {k : IntKind} {zs : List Int} (h : Lib.TabIs Tryd.prog w name k zs) (hb : Below w.heap.size w w') : Lib.TabIs Tryd.prog w' name k zs := by
  unfold Lib.TabIs World.var? at h ⊢
  cases hg : Tryd.prog.globalNamed name with
  | none => rw [hg] at h; cases h
  | some g =>
    rw [hg] at h
    simp only [Option.bind_some] at h ⊢
    rw [hb.block g (by
      rcases Nat.lt_or_ge g w.heap.size with h' | h'
      · exact h'
      · rw [Array.getElem?_eq_none h'] at h; cases h)]
    exact h

theorem bld_below {B b : Nat} {bs : List Value} {w w' : World} (h : Bld B b bs w) (hb : Below w.heap.size w w') : Bld B b bs w' := by
  rcases h with ⟨hB, v, h1, h2, h3⟩ | ⟨hB, v, h1, h2, h3⟩
  · exact Or.inl ⟨hB, v, (hb.block b (heap_lt h1)).trans h1, h2.kept (grown_of_below hb none) (by cases hv : v.ownBlock <;> simp), h3⟩
  · exact Or.inr ⟨hB, v, (hb.block b (heap_lt h1)).trans h1, h2.kept (grown_of_below hb none) (by cases hv : v.ownBlock <;> simp), h3⟩

set_option maxRecDepth 100000 in
set_option maxHeartbeats 3200000 in
theorem print_any (v : Value) (z : Int) (k : Nat) (w : World) (h : IsInt v z k) (htab : Lib.TabIs Tryd.prog w "internal/strconv.uint64pow10" .u64 Lib.pow10Tab) :
    Calls Tryd.prog 8 #[v] w fun e w' => e = .returned (.string ⟨(prZ z).toArray⟩) ∧ Below w.heap.size w w' := by
  obtain ⟨na, sa, rfl, hz, hs, hk, hkk⟩ := h
  have HN : Hid (vB sa.data.toList = z.natAbs) := by show _ = _; rw [← natAbs_zv na sa, hz]
  have Hk : Hid (z.natAbs < 4294967296 ^ k) := hk
  have Htab : Hid (Lib.TabIs Tryd.prog w "internal/strconv.uint64pow10" .u64 Lib.pow10Tab) := htab
  have hb0 := below1 w (.cells #[.bool na, .string sa] 23)
  have c1 : (w.alloc (.cells #[.bool na, .string sa] 23)).cell? ⟨w.heap.size, 0, none⟩ = some (.bool na) := by simp [go_sem]
  by_cases h0 : z = 0
  · have hp : Hid (prZ z = [48]) := by show _ = _; unfold prZ; rw [if_pos h0]
    have h00 : z.natAbs = 0 := by omega
    clear hz hk htab
    go_enter Tryd.func8, Tryd.ntmps8
    go_wp2_with fail
    refine (magnitude_any _ sa _ (by omega)).mono ?_
    rintro e W1 ⟨A, n, c, rfl, i1, b1⟩
    rw [HN.out, h00] at i1
    obtain rfl := (nat_none i1).2 rfl
    go_wp2
    go_ret
    exact ⟨by rw [hp.out]; rfl, below_more hb0 (Nat.le_refl _) b1⟩
  · have hp : Hid (prZ z = sgnT na ++ prS (gs z.natAbs)) := by
      show _ = _
      unfold prZ
      rw [if_neg h0, ← hz, sg_zv na sa (by rw [HN.out]; omega)]
    have h00 : z.natAbs ≠ 0 := by omega
    clear hz hk htab
    go_enter Tryd.func8, Tryd.ntmps8
    go_wp2_with fail
    refine (magnitude_any _ sa _ (by omega)).mono ?_
    rintro e W1 ⟨A, n, c, rfl, i1, b1⟩
    rw [HN.out] at i1
    have hn0 : 0 < n := by have := mt (nat_none i1).1 h00; omega
    have hb1 := below_more hb0 (Nat.le_refl _) b1
    have y1 := cell_keep c1 b1
    have hs0 : w.heap.size + 1 ≤ W1.heap.size := by have := b1.size; rw [World.size_alloc] at this; exact this
    have hs1 : w.heap.size < W1.heap.size := hs0
    have hs2 : w.heap.size ≠ W1.heap.size := by omega
    have hfr := Lib.fresh_isBuilder 52 5 W1
    clear c1 b1 hb0
    generalize z.natAbs = M at *
    go_upto_if 14 with fail
    go_cut [4] (fun s4 wx => s4 = .pointer (some ⟨W1.heap.size, 0, none⟩) ∧ Bld W1.heap.size W1.heap.size (Lib.byteCells (sgnT na)) wx ∧ Below W1.heap.size W1 wx)
    case first =>
      cases na with
      | false =>
        go_wp2_with fail
        go_meet
        exact ⟨rfl, hfr, below1 _ _⟩
      | true =>
        go_wp2_with fail
        refine (writeByte_any _ _ _ 45 _ hfr (by simp) (by rw [World.size_alloc]; omega)).mono ?_
        rintro e W2 ⟨rfl, h2, b2, _⟩
        go_wp2_with fail
        go_meet
        exact ⟨rfl, Or.inr h2, (below1 _ _).trans b2⟩
    case rest =>
      obtain ⟨rfl, hB, hbB⟩ := hcut
      have i2 := i1.below (Nat.le_refl _) hbB
      have hbw := hb1.trans (hbB.mono (Nat.le_of_lt hs1))
      have hbs := hbB.size
      have HP : Hid (prZ z = sgnT na ++ prS (gs M)) := hp.out
      have hroom := gs_room Hk.out
      have Hlt : Hid (∀ d ∈ gs M, d < 1000000000) := gs_lt
      have Hne : Hid (gs M ≠ []) := by show _ ≠ _; rw [gs_pos h00]; simp
      go_wp2_with fail
      refine (groups_any A n c M k _ i2 Hk.out hkk).mono ?_
      rintro e W3 ⟨v, rfl, hown, b3⟩
      have hB3 := bld_below hB b3
      have hbw3 := below_more hbw (Nat.le_refl _) b3
      have hbs3 : W1.heap.size ≤ W3.heap.size := Nat.le_trans hbs b3.size
      clear i1 i2 hB hbB hb1 y1 hfr hp hbw b3 hs0 hbs h00 h0
      generalize gs M = L at *
      generalize W1.heap.size = b at *
      have hL0 : 0 < L.length := List.length_pos_iff.2 Hne.out
      obtain ⟨gb, cap, cur, rfl, hgb, hcell⟩ : ∃ gb cap cur, v = .slice (some ⟨gb, 0, none⟩) L.length cap ∧ W3.heap[gb]? = some (.cells cur 58 (0, 0)) ∧ ∀ g, g < L.length → cur[g]? = some (.int .u32 ((L.getD g 0 : Nat) : Int)) := by
        rcases hown.2 with ⟨_, h0⟩ | ⟨gb, cap, cur, hv, _, hgb, _, _, _, htk⟩
        · omega
        · refine ⟨gb, cap, cur, hv, hgb, fun g hg => ?_⟩
          have h1 : (cur.toList.take (L.length * 1))[g]? = (gvs L)[g]? := by rw [htk]
          rw [List.getElem?_take, if_pos (by omega)] at h1
          rw [← Array.getElem?_toList, h1]
          simp [gvs, List.getD, List.getElem?_eq_getElem hg]
      clear hown
      go_wp2_with fail
      go_loopg [6] L.length (fun g s6 wx => g ≤ L.length ∧ s6 = .int .i64 ((g : Int) - 1) ∧ Bld b b (Lib.byteCells (sgnT na ++ prS (L.drop g))) wx ∧ Below w.heap.size w wx ∧ b ≤ wx.heap.size ∧ wx.heap[gb]? = some (.cells cur 58 (0, 0)))
      case atStart => exact ⟨Nat.le_refl _, by go_num, by rw [List.drop_length]; simpa [prS] using hB3, hbw3, hbs3, hgb⟩
      case round =>
        clear hB3 hbw3 hbs3 hgb
        obtain ⟨hg, rfl, hB, hbw, hbs, hgb⟩ := hrel
        rcases gk with _ | g
        · go_wp2_with fail
          refine (Tryd.Builder_String_any _ _ _ _ hB hbs).mono ?_
          rintro e W4 ⟨rfl, b4⟩
          go_wp2
          go_ret
          exact ⟨by rw [HP.out]; rfl, hbw.trans (b4.mono (by omega))⟩
        · have hx : wr.cell? ⟨gb, g, none⟩ = some (.int .u32 ((L.getD g 0 : Nat) : Int)) := by rw [Lib.cell_of_heap hgb]; exact hcell g (by omega)
          have HD : Hid (L.getD g 0 < 1000000000) := by
            refine Hlt.out _ ?_
            rw [List.getD_eq_getElem?_getD, List.getElem?_eq_getElem (by omega : g < L.length)]
            exact List.getElem_mem _
          have hd := HD.out
          obtain ⟨d, hdd⟩ : ∃ d, d = L.getD g 0 := ⟨_, rfl⟩
          rw [← hdd] at hx hd
          have Hd : Hid (d = L.getD g 0) := hdd
          clear hdd HD
          go_wp2_with fail
          refine (Tryd.strconv_Itoa (d : Int) (by omega) (by omega) _ (tab_keep Htab.out hbw)).mono ?_
          rintro e W4 ⟨rfl, q, os, hw⟩
          have b4 : Below wr.heap.size wr W4 := by rw [hw]; exact Lib.below_grow _ _ (Nat.le_refl _) _ _
          clear hw
          rw [Lib.itoa_nonneg]
          obtain ⟨s, hs⟩ : ∃ s : ByteArray, s = ⟨(Lib.decDigits d).toArray⟩ := ⟨_, rfl⟩
          rw [← hs]
          have Hs : Hid (Lib.strCells s = Lib.byteCells (Lib.decDigits d)) := by show _ = _; rw [hs, strCells_mk]
          have Hz : Hid ((Lib.decDigits d).length = s.size) := by show _ = _; rw [hs]; simp [ByteArray.size]
          have hz1 : 1 ≤ s.size := by rw [← Hz.out]; exact (dec9 hd).1
          have hz9 : s.size ≤ 9 := by rw [← Hz.out]; exact (dec9 hd).2
          have hB4 := bld_below hB b4
          have hbw4 := below_more hbw (Nat.le_refl _) b4
          have hbs4 : b ≤ W4.heap.size := Nat.le_trans hbs b4.size
          have hgb4 := (b4.block gb (heap_lt hgb)).trans hgb
          have hlen : (Lib.byteCells (sgnT na ++ prS (L.drop (g + 1)))).length ≤ 900000000 := by
            rw [Lib.byteCells_length, List.length_append]
            have h1 : (sgnT na).length ≤ 1 := by cases na <;> simp [sgnT]
            have h2 := prS_len (l := L.drop (g + 1)) (fun x hx => Hlt.out x (List.mem_of_mem_drop hx))
            rw [List.length_drop] at h2
            omega
          clear hs hB hbw hbs hgb hx b4
          by_cases hlast : g + 1 = L.length
          · have HL : Hid (prS (L.drop g) = prS (L.drop (g + 1)) ++ Lib.decDigits d) := by rw [Hd.out]; exact prS_last hlast
            have hnl : ¬ ((g : Int) + 1 - 1 < (L.length : Int) - 1) := by omega
            go_wp2_with fail
            refine (writeString_any _ _ _ s _ hB4 (by omega) hbs4).mono ?_
            rintro e W5 ⟨rfl, h5, b5, k5⟩
            rw [Hs.out, byteCells_append, List.append_assoc, ← HL.out] at h5
            have hgb5 := k5 _ _ _ _ hgb4 (by decide) (by decide)
            have hbs5 : b ≤ W5.heap.size := Nat.le_trans hbs4 b5.size
            have hbw5 := hbw4.trans (b5.mono (by omega))
            clear hB4 hgb4 hbw4 k5 hbs4 hlen b5
            go_wp2
            go_roundg g
            case measure => omega
            case rel => exact ⟨by omega, by go_num, Or.inr h5, hbw5, hbs5, hgb5⟩
          · have HL : Hid (prS (L.drop g) = prS (L.drop (g + 1)) ++ (Lib.repeatL [48] (9 - s.size) ++ Lib.decDigits d)) := by
              show _ = _
              rw [← Hz.out, Hd.out]; exact prS_step (by omega)
            have hnl : (g : Int) + 1 - 1 < (L.length : Int) - 1 := by omega
            go_wp2_with fail
            rw [show (9 : Int) - (s.size : Int) = ((9 - s.size : Nat) : Int) by omega]
            refine (Tryd.strings_Repeat ⟨#[48]⟩ (9 - s.size) _ (by omega) (by show 1 * (9 - s.size) ≤ _; omega)).mono ?_
            rintro e W5 ⟨rfl, b5⟩
            obtain ⟨t, ht⟩ : ∃ t : ByteArray, t = ⟨(Lib.repeatL (⟨#[48]⟩ : ByteArray).data.toList (9 - s.size)).toArray⟩ := ⟨_, rfl⟩
            rw [← ht]
            have Ht : Hid (Lib.strCells t = Lib.byteCells (Lib.repeatL [48] (9 - s.size))) := by show _ = _; rw [ht, strCells_mk]
            have ht9 : t.size ≤ 9 := by
              rw [ht]
              show (Lib.repeatL [48] (9 - s.size)).toArray.size ≤ 9
              rw [List.size_toArray, Lib.repeatL_length]; simp
            clear ht
            have hB5 := bld_below hB4 b5
            have hbw5 := below_more hbw4 (Nat.le_refl _) b5
            have hbs5 : b ≤ W5.heap.size := Nat.le_trans hbs4 b5.size
            have hgb5 := (b5.block gb (heap_lt hgb4)).trans hgb4
            clear hB4 hbw4 hbs4 hgb4 b5
            go_wp2_with fail
            refine (writeString_any _ _ _ t _ hB5 (by omega) hbs5).mono ?_
            rintro e W6 ⟨rfl, h6, b6, k6⟩
            have hgb6 := k6 _ _ _ _ hgb5 (by decide) (by decide)
            have hbs6 : b ≤ W6.heap.size := Nat.le_trans hbs5 b6.size
            have hbw6 := hbw5.trans (b6.mono (by omega))
            have hlen6 : (Lib.byteCells (sgnT na ++ prS (L.drop (g + 1))) ++ Lib.strCells t).length ≤ 900000009 := by
              rw [List.length_append, Lib.strCells_length]; omega
            clear hB5 hbw5 hbs5 hgb5 k6 b6 hlen
            go_wp2_with fail
            refine (writeString_any _ _ _ s _ (Or.inr h6) (by omega) hbs6).mono ?_
            rintro e W7 ⟨rfl, h7, b7, k7⟩
            rw [Hs.out, Ht.out, byteCells_append, byteCells_append, List.append_assoc, List.append_assoc, ← HL.out] at h7
            have hgb7 := k7 _ _ _ _ hgb6 (by decide) (by decide)
            have hbs7 : b ≤ W7.heap.size := Nat.le_trans hbs6 b7.size
            have hbw7 := hbw6.trans (b7.mono (by omega))
            clear h6 hgb6 hbw6 k7 hbs6 hlen6 b7
            go_wp2
            go_roundg g
            case measure => omega
            case rel => exact ⟨by omega, by go_num, Or.inr h7, hbw7, hbs7, hgb7⟩
end Go.Proofs.YtfcdekkoeeaolaaDoor

namespace Go.Proofs.YtfcdekkoeeaolaaDoor
open Go.RowKit

theorem isDec_cons (b : UInt8) (t : List UInt8) : isDec (b :: t) = (!(decide (t ≠ []) && decide (b.toNat = 48)) && (b :: t).all digB) := rfl
theorem dig_of {c : Nat} (h : c < 10) : (UInt8.ofNat (48 + c)).toNat = 48 + c := by
  rw [UInt8.toNat_ofNat']; omega
theorem dec_facts (u : Nat) : dv (Lib.decDigits u) = u ∧ (Lib.decDigits u).all digB = true ∧ (0 < u → ∃ b t, Lib.decDigits u = b :: t ∧ b.toNat ≠ 48) := by
  induction u using Nat.strongRecOn with
  | _ u ih =>
    by_cases h : u < 10
    · rw [Lib.decDigits_one h]
      refine ⟨by simp [dv]; omega, by simp [digB]; omega, fun h0 => ⟨_, [], rfl, by rw [dig_of h]; omega⟩⟩
    · rw [Lib.decDigits, dif_neg h]
      obtain ⟨h1, h2, h3⟩ := ih (u / 10) (by omega)
      have hm : u % 10 < 10 := Nat.mod_lt _ (by omega)
      obtain ⟨b, t, h4, h5⟩ := h3 (by omega)
      refine ⟨?_, ?_, fun _ => ⟨b, t ++ [UInt8.ofNat (48 + u % 10)], by rw [h4]; rfl, h5⟩⟩
      · rw [dv_snoc, h1, dig_of hm]; omega
      · rw [List.all_append, h2]; simp [digB]; omega
theorem rep_facts (n : Nat) : dv (Lib.repeatL [48] n) = 0 ∧ (Lib.repeatL [48] n).all digB = true := by
  induction n with
  | zero => exact ⟨rfl, rfl⟩
  | succ n ih =>
    have e : Lib.repeatL [48] (n + 1) = (48 : UInt8) :: Lib.repeatL [48] n := rfl
    rw [e]
    exact ⟨by rw [dv_cons, ih.1]; simp, by rw [List.all_cons, ih.2]; rfl⟩
theorem pad_facts (d : Nat) : dv (pad9 d) = d ∧ (pad9 d).all digB = true := by
  unfold pad9
  refine ⟨by rw [dv_append, (rep_facts _).1, (dec_facts d).1]; simp, by rw [List.all_append, (rep_facts _).2, (dec_facts d).2.1]; rfl⟩
theorem pr_facts (N : Nat) : dv (prS (gs N)) = N ∧ (prS (gs N)).all digB = true ∧ (0 < N → ∃ b t, prS (gs N) = b :: t ∧ b.toNat ≠ 48) := by
  induction N using Nat.strongRecOn with
  | _ N ih =>
    by_cases h0 : N = 0
    · subst h0; rw [gs_zero]; exact ⟨rfl, rfl, fun h => absurd h (by omega)⟩
    · have hr := Nat.mod_lt N (show 1000000000 > 0 by omega)
      obtain ⟨h1, h2, h3⟩ := ih (N / 1000000000) (Nat.div_lt_self (by omega) (by omega))
      rw [gs_pos h0, prS]
      by_cases hq : N / 1000000000 = 0
      · rw [hq, gs_zero, if_pos rfl]
        have hN : N % 1000000000 = N := by omega
        rw [hN]
        exact dec_facts N |>.imp_right (fun h => h) |> fun h => by simpa [prS] using h
      · have hg : gs (N / 1000000000) ≠ [] := by rw [gs_pos hq]; simp
        rw [if_neg hg]
        obtain ⟨b, t, h4, h5⟩ := h3 (by omega)
        refine ⟨?_, ?_, fun _ => ⟨b, t ++ pad9 (N % 1000000000), by rw [h4]; rfl, h5⟩⟩
        · rw [dv_append, h1, (pad_facts _).1, pad9_len hr]; omega
        · rw [List.all_append, h2, (pad_facts _).2]; rfl
theorem isDec_pr {N : Nat} (h : 0 < N) : isDec (prS (gs N)) = true := by
  obtain ⟨_, h2, h3⟩ := pr_facts N
  obtain ⟨b, t, h4, h5⟩ := h3 h
  rw [h4] at h2 ⊢
  rw [isDec_cons, h2]; simp [h5]
theorem dv_same : ∀ {l m : List UInt8}, l.length = m.length → l.all digB = true → m.all digB = true → dv l = dv m → l = m
  | [], [], _, _, _, _ => rfl
  | b :: l, c :: m, hl, h1, h2, h => by
    rw [List.all_cons, Bool.and_eq_true] at h1 h2
    have e : l.length = m.length := by simpa using hl
    have a1 := dv_lt h1.2
    have a2 := dv_lt h2.2
    rw [dv_cons, dv_cons, e] at h
    rw [e] at a1
    have b1 := h1.1
    have b2 := h2.1
    simp [digB] at b1 b2
    have hp : 0 < 10 ^ m.length := Nat.pow_pos (by omega)
    have q1 : ((b.toNat - 48) * 10 ^ m.length + dv l) / 10 ^ m.length = b.toNat - 48 := by
      rw [Nat.mul_comm, Nat.mul_add_div hp, Nat.div_eq_of_lt a1, Nat.add_zero]
    have q2 : ((c.toNat - 48) * 10 ^ m.length + dv m) / 10 ^ m.length = c.toNat - 48 := by
      rw [Nat.mul_comm, Nat.mul_add_div hp, Nat.div_eq_of_lt a2, Nat.add_zero]
    have q3 : b.toNat - 48 = c.toNat - 48 := by rw [← q1, ← q2, h]
    have q4 : dv l = dv m := by rw [q3] at h; omega
    have q5 : b = c := UInt8.toNat_inj.1 (by omega)
    rw [q5, dv_same e h1.2 h2.2 q4]
theorem dv_low {b : UInt8} {t : List UInt8} (h : (b :: t).all digB = true) (hb : b.toNat ≠ 48) : 10 ^ t.length ≤ dv (b :: t) := by
  rw [List.all_cons, Bool.and_eq_true] at h
  have b1 := h.1
  simp [digB] at b1
  have := Nat.mul_le_mul_right (10 ^ t.length) (show 1 ≤ b.toNat - 48 by omega)
  rw [dv_cons]; omega
theorem dec_cases {l : List UInt8} (h : isDec l = true) : l = [48] ∨ ∃ b t, l = b :: t ∧ b.toNat ≠ 48 ∧ l.all digB = true := by
  have ha := isDec_all h
  cases l with
  | nil => cases h
  | cons b t =>
    by_cases hb : b.toNat = 48
    · refine Or.inl ?_
      rw [isDec_cons, ha] at h
      simp [hb] at h
      rw [h, show b = 48 from UInt8.toNat_inj.1 (by rw [hb]; rfl)]
    · exact Or.inr ⟨b, t, rfl, hb, ha⟩
theorem dec_zero {l : List UInt8} (h : isDec l = true) (h0 : dv l = 0) : l = [48] := by
  rcases dec_cases h with h1 | ⟨b, t, rfl, hb, ha⟩
  · exact h1
  · have := dv_low ha hb
    have : 0 < 10 ^ t.length := Nat.pow_pos (by omega)
    omega
theorem dec_text {l : List UInt8} (h : isDec l = true) (h0 : 0 < dv l) : prS (gs (dv l)) = l := by
  rcases dec_cases h with rfl | ⟨b, t, rfl, hb, ha⟩
  · exact absurd h0 (by simp [dv])
  · obtain ⟨p1, p2, p3⟩ := pr_facts (dv (b :: t))
    obtain ⟨c, m, p4, p5⟩ := p3 h0
    rw [p4] at p1 p2 ⊢
    have a1 := dv_low ha hb
    have a2 := dv_lt ha
    have a3 := dv_low p2 p5
    have a4 := dv_lt p2
    rw [p1] at a3 a4
    rw [List.length_cons] at a2 a4
    have l1 : m.length < t.length + 1 := (Nat.pow_lt_pow_iff_right (by omega : 1 < 10)).1 (Nat.lt_of_le_of_lt a3 a2)
    have l2 : t.length < m.length + 1 := (Nat.pow_lt_pow_iff_right (by omega : 1 < 10)).1 (Nat.lt_of_le_of_lt a1 a4)
    exact dv_same (by rw [List.length_cons, List.length_cons]; omega) p2 ha p1
theorem cut_minus (l : List UInt8) : cutD (45 :: l) = l ∧ cutN (45 :: l) = true := ⟨rfl, rfl⟩
theorem cut_digit {b : UInt8} {l : List UInt8} (h : digB b = true) : cutD (b :: l) = b :: l ∧ cutN (b :: l) = false := by
  have hb : (45 == b) = false := by
    rw [beq_eq_false_iff_ne]; rintro rfl; simp [digB] at h
  have hN : cutN (b :: l) = false := by
    unfold cutN Lib.hasPrefix
    simp [List.isPrefixOf, hb]
  exact ⟨by unfold cutD Lib.trimPrefix; rw [if_neg (by show ¬ cutN (b :: l) = true; rw [hN]; simp)], hN⟩
theorem pz_minus {l : List UInt8} (h : isDec l = true) (h0 : l ≠ [48]) : pz (45 :: l) = some (-(dv l : Int)) := by
  unfold pz
  rw [(cut_minus l).1, (cut_minus l).2, if_neg (by simp [h, h0]), if_pos rfl]
theorem pz_plus {l : List UInt8} (h : isDec l = true) : pz l = some (dv l : Int) := by
  have ha := isDec_all h
  cases l with
  | nil => cases h
  | cons b t =>
    rw [List.all_cons, Bool.and_eq_true] at ha
    unfold pz
    rw [(cut_digit ha.1).1, (cut_digit ha.1).2, if_neg (by simp [h])]; simp
theorem prZ_neg {N : Nat} (h : 0 < N) : prZ (-(N : Int)) = 45 :: prS (gs N) := by
  unfold prZ sgnT sg
  rw [if_neg (by omega), if_pos (by simp; omega), Int.natAbs_neg, Int.natAbs_natCast]; rfl
theorem prZ_pos {N : Nat} (h : 0 < N) : prZ (N : Int) = prS (gs N) := by
  unfold prZ sgnT sg
  rw [if_neg (by omega), if_neg (by simp), Int.natAbs_natCast]; rfl
theorem int_cases (z : Int) : z = 0 ∨ (∃ N : Nat, 0 < N ∧ z = -(N : Int)) ∨ (∃ N : Nat, 0 < N ∧ z = (N : Int)) := by
  rcases Int.lt_trichotomy z 0 with h | h | h
  · exact Or.inr (Or.inl ⟨z.natAbs, by omega, by omega⟩)
  · exact Or.inl h
  · exact Or.inr (Or.inr ⟨z.natAbs, by omega, by omega⟩)
/-- What is printed is read. -/
theorem pz_print (z : Int) : pz (prZ z) = some z := by
  rcases int_cases z with rfl | ⟨N, h, rfl⟩ | ⟨N, h, rfl⟩
  · rfl
  · rw [prZ_neg h, pz_minus (isDec_pr h) (fun e => by have := (pr_facts N).1; rw [e] at this; simp [dv] at this; omega), (pr_facts N).1]
  · rw [prZ_pos h, pz_plus (isDec_pr h), (pr_facts N).1]
theorem isDec_snoc {l : List UInt8} (h : isDec l = true) (h0 : l ≠ [48]) : isDec (l ++ [48]) = true := by
  rcases dec_cases h with h1 | ⟨b, t, rfl, hb, ha⟩
  · exact absurd h1 h0
  · show isDec (b :: (t ++ [48])) = true
    rw [isDec_cons, show b :: (t ++ [48]) = (b :: t) ++ [48] from rfl, List.all_append, ha]
    simp [hb]; rfl
/-- A zero behind the digits: ten times the number; but 00 is no text. -/
theorem pz_ten (z : Int) : pz (prZ z ++ [48]) = if z = 0 then none else some (z * 10) := by
  rcases int_cases z with rfl | ⟨N, h, rfl⟩ | ⟨N, h, rfl⟩
  · rfl
  · have hne : prS (gs N) ≠ [48] := fun e => by have := (pr_facts N).1; rw [e] at this; simp [dv] at this; omega
    have h1 := isDec_snoc (isDec_pr h) hne
    rw [if_neg (by omega), prZ_neg h, List.cons_append, pz_minus h1 (fun e => by have := congrArg List.length e; have h2 := (pr_facts N).2.2 h; obtain ⟨b, t, e2, _⟩ := h2; rw [e2] at this; simp at this), dv_snoc, (pr_facts N).1]
    congr 1; simp; omega
  · have hne : prS (gs N) ≠ [48] := fun e => by have := (pr_facts N).1; rw [e] at this; simp [dv] at this; omega
    rw [if_neg (by omega), prZ_pos h, pz_plus (isDec_snoc (isDec_pr h) hne), dv_snoc, (pr_facts N).1]
    congr 1; simp; omega
/-- What is read is printed. -/
theorem print_pz {l : List UInt8} {z : Int} (h : pz l = some z) : prZ z = l := by
  unfold pz at h
  split at h
  · cases h
  · rename_i hn
    have hd : isDec (cutD l) = true := by
      cases e : isDec (cutD l) with
      | true => rfl
      | false => exact absurd (Or.inl e) hn
    have hz := Option.some.inj h
    by_cases hN : cutN l = true
    · rw [if_pos hN] at hz
      have hl : l = 45 :: cutD l := by
        cases l with
        | nil => simp [cutN, Lib.hasPrefix, List.isPrefixOf] at hN
        | cons b t =>
          have : (45 == b) = true := by simpa [cutN, Lib.hasPrefix, List.isPrefixOf] using hN
          obtain rfl : 45 = b := by simpa using this
          rfl
      have h48 : cutD l ≠ [48] := fun e => hn (Or.inr ⟨hN, e⟩)
      have hp : 0 < dv (cutD l) := Nat.pos_of_ne_zero fun e => h48 (dec_zero hd e)
      rw [← hz, prZ_neg hp, dec_text hd hp, ← hl]
    · rw [if_neg hN] at hz
      have hl : cutD l = l := by unfold cutD Lib.trimPrefix; exact if_neg hN
      rw [hl] at hd hz
      by_cases h0 : dv l = 0
      · rw [dec_zero hd h0, ← hz, h0]; rfl
      · rw [← hz, prZ_pos (by omega), dec_text hd (by omega)]
/-- A printed integer begins with a minus where it is below 0. -/
theorem prefix_pr (z : Int) : Lib.hasPrefix (prZ z) [45] = sg z := by
  rcases int_cases z with rfl | ⟨N, h, rfl⟩ | ⟨N, h, rfl⟩
  · rfl
  · rw [prZ_neg h]; unfold sg; simp [Lib.hasPrefix, List.isPrefixOf]; omega
  · obtain ⟨b, t, e, _⟩ := (pr_facts N).2.2 h
    have ha := (pr_facts N).2.1
    rw [prZ_pos h]
    rw [e, List.all_cons, Bool.and_eq_true] at ha
    rw [e]
    show cutN (b :: t) = _
    rw [(cut_digit ha.1).2]; unfold sg; simp
theorem prZ_len {z : Int} {k : Nat} (h : z.natAbs < 4294967296 ^ k) : (prZ z).length ≤ 18 * k + 2 := by
  have h1 := prS_len (gs_lt (N := z.natAbs))
  have h2 := gs_room h
  unfold prZ sgnT
  split
  · simp
  · rw [List.length_append]; split <;> simp <;> omega
end Go.Proofs.YtfcdekkoeeaolaaDoor

namespace Go.Proofs.YtfcdekkoeeaolaaDoor
open Go.RowKit

theorem great_int (na : Bool) (sa : ByteArray) (w : World) (hs : sa.size ≤ 9223372036854775807) :
    Calls Tryd.prog 10 #[.agg #[.bool na, .string sa]] w fun e w' => e = .returned (.bool (decide (60 < sa.size))) ∧ Below w.heap.size w w' := by
  have hb := below1 w (.cells #[.bool na, .string sa] 23)
  have hd : (decide ((60 : Int) < (sa.size : Int))) = decide (60 < sa.size) := decide_eq_decide.2 (by omega)
  go_enter Tryd.func10, Tryd.ntmps10
  go_wp2
  go_ret
  exact ⟨rfl, hb⟩
end Go.Proofs.YtfcdekkoeeaolaaDoor
