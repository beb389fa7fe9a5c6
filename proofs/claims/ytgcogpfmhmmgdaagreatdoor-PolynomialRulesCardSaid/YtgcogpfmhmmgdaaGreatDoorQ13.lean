/- What integer.Print returns: the decimal text. What integer.Check returns. Closed values that awake compares. -/
import Derived.Test.YtgcogpfmhmmgdaaGreatDoorQ08
import Derived.Test.YtgcogpfmhmmgdaaGreatDoorQ12
import Derived.Deep.DeepCutAuto
import Derived.Lib.AppendIntMem
import Derived.Lib.ItoaMem
import Derived.Deep.RegionHeld3
import Derived.Laws.StructEq
import Derived.Lib.Hide

namespace Go.Proofs.YtgcogpfmhmmgdaaGreatDoor
open Go.RowKit

def pad9 (d : Nat) : List UInt8 := Lib.repeatL [48] (9 - (Lib.decDigits d).length) ++ Lib.decDigits d
/-- The text of the groups, the least one first in the list. -/
def prS : List Nat → List UInt8
  | [] => []
  | d :: l => prS l ++ (if l = [] then Lib.decDigits d else pad9 d)
def sgnT (g : Bool) : List UInt8 := if g then [45] else []
def prZ (z : Int) : List UInt8 := if z = 0 then [48] else sgnT (sg z) ++ prS (gs z.natAbs)

theorem nDigits_le : ∀ (k u : Nat), 1 ≤ k → u < 10 ^ k → Lib.nDigits u ≤ k
  | 0, _, h, _ => absurd h (by omega)
  | k + 1, u, _, h => by
    by_cases h1 : u < 10
    · rw [Lib.nDigits_small h1]; omega
    · rw [Lib.nDigits_big h1]
      have hk : 1 ≤ k := by
        rcases k with _ | k
        · simp at h; omega
        · omega
      have := nDigits_le k (u / 10) hk (by rw [Nat.pow_succ] at h; omega)
      omega
theorem dec9 {d : Nat} (h : d < 1000000000) : 1 ≤ (Lib.decDigits d).length ∧ (Lib.decDigits d).length ≤ 9 := by
  rw [Lib.decDigits_length]
  exact ⟨Lib.nDigits_pos d, nDigits_le 9 d (by omega) (by omega)⟩
theorem pad9_len {d : Nat} (h : d < 1000000000) : (pad9 d).length = 9 := by
  have := dec9 h
  unfold pad9
  rw [List.length_append, Lib.repeatL_length]; simp; omega
theorem gs_lt {N : Nat} : ∀ d ∈ gs N, d < 1000000000 := by
  induction N using Nat.strongRecOn with
  | _ N ih =>
    intro d hd
    by_cases h0 : N = 0
    · subst h0; rw [gs_zero] at hd; simp at hd
    · rw [gs_pos h0] at hd
      rcases List.mem_cons.1 hd with rfl | hd
      · exact Nat.mod_lt _ (by omega)
      · exact ih _ (Nat.div_lt_self (by omega) (by omega)) d hd
theorem prS_len : ∀ {l : List Nat}, (∀ d ∈ l, d < 1000000000) → (prS l).length ≤ 9 * l.length
  | [], _ => by simp [prS]
  | d :: l, h => by
    have h1 := prS_len (l := l) (fun x hx => h x (List.mem_cons_of_mem _ hx))
    have h2 := dec9 (h d List.mem_cons_self)
    have h3 := pad9_len (h d List.mem_cons_self)
    unfold prS
    rw [List.length_append, List.length_cons]
    split <;> omega
theorem strCells_mk (l : List UInt8) : Lib.strCells ⟨l.toArray⟩ = Lib.byteCells l := by simp [Lib.strCells, Lib.byteCells]
theorem byteCells_append (l m : List UInt8) : Lib.byteCells l ++ Lib.byteCells m = Lib.byteCells (l ++ m) := by simp [Lib.byteCells]
theorem prS_last {L : List Nat} {g : Nat} (h : g + 1 = L.length) : prS (L.drop g) = prS (L.drop (g + 1)) ++ Lib.decDigits (L.getD g 0) := by
  rw [List.drop_eq_getElem_cons (by omega : g < L.length)]
  have h0 : L.drop (g + 1) = [] := List.drop_eq_nil_of_le (by omega)
  rw [h0]; simp [prS, List.getD, List.getElem?_eq_getElem (by omega : g < L.length)]
theorem prS_step {L : List Nat} {g : Nat} (h : g + 1 < L.length) : prS (L.drop g) = prS (L.drop (g + 1)) ++ pad9 (L.getD g 0) := by
  rw [List.drop_eq_getElem_cons (by omega : g < L.length)]
  have h0 : L.drop (g + 1) ≠ [] := by
    intro e
    have := congrArg List.length e
    rw [List.length_drop] at this; simp at this; omega
  rw [prS, if_neg h0]; simp [List.getD, List.getElem?_eq_getElem (by omega : g < L.length)]
theorem tab_keep {w w' : World} {name : String} {k : IntKind} {zs : List Int} (h : Lib.TabIs Tryz.prog w name k zs) (hb : Below w.heap.size w w') : Lib.TabIs Tryz.prog w' name k zs := by
  unfold Lib.TabIs World.var? at h ⊢
  cases hg : Tryz.prog.globalNamed name with
  | none => rw [hg] at h; cases h
  | some g =>
    rw [hg] at h
    simp only [Option.bind_some] at h ⊢
    rw [hb.block g (by
      rcases Nat.lt_or_ge g w.heap.size with h' | h'
      · exact h'
      · rw [Array.getElem?_eq_none h'] at h; cases h)]
    exact h

theorem bld_below {B b : Nat} {bs : List Value} {w w' : World} (h : Bld B b bs w) (hb : Below w.heap.size w w') : Bld B b bs w' := by
  rcases h with ⟨hB, v, h1, h2, h3⟩ | ⟨hB, v, h1, h2, h3⟩
  · exact Or.inl ⟨hB, v, (hb.block b (heap_lt h1)).trans h1, h2.kept (grown_of_below hb none) (by cases hv : v.ownBlock <;> simp), h3⟩
  · exact Or.inr ⟨hB, v, (hb.block b (heap_lt h1)).trans h1, h2.kept (grown_of_below hb none) (by cases hv : v.ownBlock <;> simp), h3⟩

set_option maxRecDepth 100000 in
set_option maxHeartbeats 3200000 in
theorem print_any (v : Value) (z : Int) (k : Nat) (w : World) (h : IsInt v z k) (htab : Lib.TabIs Tryz.prog w "internal/strconv.uint64pow10" .u64 Lib.pow10Tab) :
    Calls Tryz.prog 86 #[v] w fun e w' => e = .returned (.string ⟨(prZ z).toArray⟩) ∧ Below w.heap.size w w' := by
  obtain ⟨na, sa, rfl, hz, hs, hk, hkk⟩ := h
  have HN : Hid (vB sa.data.toList = z.natAbs) := by show _ = _; rw [← natAbs_zv na sa, hz]
  have Hk : Hid (z.natAbs < 4294967296 ^ k) := hk
  have Htab : Hid (Lib.TabIs Tryz.prog w "internal/strconv.uint64pow10" .u64 Lib.pow10Tab) := htab
  have hb0 := below1 w (.cells #[.bool na, .string sa] 27)
  have c1 : (w.alloc (.cells #[.bool na, .string sa] 27)).cell? ⟨w.heap.size, 0, none⟩ = some (.bool na) := by simp [go_sem]
  by_cases h0 : z = 0
  · have hp : Hid (prZ z = [48]) := by show _ = _; unfold prZ; rw [if_pos h0]
    have h00 : z.natAbs = 0 := by omega
    clear hz hk htab
    go_enter Tryz.func86, Tryz.ntmps86
    go_wp2_with fail
    refine (magnitude_any _ sa _ (by omega)).mono ?_
    rintro e W1 ⟨A, n, c, rfl, i1, b1⟩
    rw [HN.out, h00] at i1
    obtain rfl := (nat_none i1).2 rfl
    go_wp2
    go_ret
    exact ⟨by rw [hp.out]; rfl, below_more hb0 (Nat.le_refl _) b1⟩
  · have hp : Hid (prZ z = sgnT na ++ prS (gs z.natAbs)) := by
      show _ = _
      unfold prZ
      rw [if_neg h0, ← hz, sg_zv na sa (by rw [HN.out]; omega)]
    have h00 : z.natAbs ≠ 0 := by omega
    clear hz hk htab
    go_enter Tryz.func86, Tryz.ntmps86
    go_wp2_with fail
    refine (magnitude_any _ sa _ (by omega)).mono ?_
    rintro e W1 ⟨A, n, c, rfl, i1, b1⟩
    rw [HN.out] at i1
    have hn0 : 0 < n := by have := mt (nat_none i1).1 h00; omega
    have hb1 := below_more hb0 (Nat.le_refl _) b1
    have y1 := cell_keep c1 b1
    have hs0 : w.heap.size + 1 ≤ W1.heap.size := by have := b1.size; rw [World.size_alloc] at this; exact this
    have hs1 : w.heap.size < W1.heap.size := hs0
    have hs2 : w.heap.size ≠ W1.heap.size := by omega
    have hfr := Lib.fresh_isBuilder 61 5 W1
    clear c1 b1 hb0
    generalize z.natAbs = M at *
    go_upto_if 14 with fail
    go_cut [4] (fun s4 wx => s4 = .pointer (some ⟨W1.heap.size, 0, none⟩) ∧ Bld W1.heap.size W1.heap.size (Lib.byteCells (sgnT na)) wx ∧ Below W1.heap.size W1 wx)
    case first =>
      cases na with
      | false =>
        go_wp2_with fail
        go_meet
        exact ⟨rfl, hfr, below1 _ _⟩
      | true =>
        go_wp2_with fail
        refine (writeByte_any _ _ _ 45 _ hfr (by simp) (by rw [World.size_alloc]; omega)).mono ?_
        rintro e W2 ⟨rfl, h2, b2, _⟩
        go_wp2_with fail
        go_meet
        exact ⟨rfl, Or.inr h2, (below1 _ _).trans b2⟩
    case rest =>
      obtain ⟨rfl, hB, hbB⟩ := hcut
      have i2 := i1.below (Nat.le_refl _) hbB
      have hbw := hb1.trans (hbB.mono (Nat.le_of_lt hs1))
      have hbs := hbB.size
      have HP : Hid (prZ z = sgnT na ++ prS (gs M)) := hp.out
      have hroom := gs_room Hk.out
      have Hlt : Hid (∀ d ∈ gs M, d < 1000000000) := gs_lt
      have Hne : Hid (gs M ≠ []) := by show _ ≠ _; rw [gs_pos h00]; simp
      go_wp2_with fail
      refine (groups_any A n c M k _ i2 Hk.out hkk).mono ?_
      rintro e W3 ⟨v, rfl, hown, b3⟩
      have hB3 := bld_below hB b3
      have hbw3 := below_more hbw (Nat.le_refl _) b3
      have hbs3 : W1.heap.size ≤ W3.heap.size := Nat.le_trans hbs b3.size
      clear i1 i2 hB hbB hb1 y1 hfr hp hbw b3 hs0 hbs h00 h0
      generalize gs M = L at *
      generalize W1.heap.size = b at *
      have hL0 : 0 < L.length := List.length_pos_iff.2 Hne.out
      obtain ⟨gb, cap, cur, rfl, hgb, hcell⟩ : ∃ gb cap cur, v = .slice (some ⟨gb, 0, none⟩) L.length cap ∧ W3.heap[gb]? = some (.cells cur 93 (0, 0)) ∧ ∀ g, g < L.length → cur[g]? = some (.int .u32 ((L.getD g 0 : Nat) : Int)) := by
        rcases hown.2 with ⟨_, h0⟩ | ⟨gb, cap, cur, hv, _, hgb, _, _, _, htk⟩
        · omega
        · refine ⟨gb, cap, cur, hv, hgb, fun g hg => ?_⟩
          have h1 : (cur.toList.take (L.length * 1))[g]? = (gvs L)[g]? := by rw [htk]
          rw [List.getElem?_take, if_pos (by omega)] at h1
          rw [← Array.getElem?_toList, h1]
          simp [gvs, List.getD, List.getElem?_eq_getElem hg]
      clear hown
      go_wp2_with fail
      go_loopg [6] L.length (fun g s6 wx => g ≤ L.length ∧ s6 = .int .i64 ((g : Int) - 1) ∧ Bld b b (Lib.byteCells (sgnT na ++ prS (L.drop g))) wx ∧ Below w.heap.size w wx ∧ b ≤ wx.heap.size ∧ wx.heap[gb]? = some (.cells cur 93 (0, 0)))
      case atStart => exact ⟨Nat.le_refl _, by go_num, by rw [List.drop_length]; simpa [prS] using hB3, hbw3, hbs3, hgb⟩
      case round =>
        clear hB3 hbw3 hbs3 hgb
        obtain ⟨hg, rfl, hB, hbw, hbs, hgb⟩ := hrel
        rcases gk with _ | g
        · go_wp2_with fail
          refine (Tryz.Builder_String_any _ _ _ _ hB hbs).mono ?_
          rintro e W4 ⟨rfl, b4⟩
          go_wp2
          go_ret
          exact ⟨by rw [HP.out]; rfl, hbw.trans (b4.mono (by omega))⟩
        · have hx : wr.cell? ⟨gb, g, none⟩ = some (.int .u32 ((L.getD g 0 : Nat) : Int)) := by rw [Lib.cell_of_heap hgb]; exact hcell g (by omega)
          have HD : Hid (L.getD g 0 < 1000000000) := by
            refine Hlt.out _ ?_
            rw [List.getD_eq_getElem?_getD, List.getElem?_eq_getElem (by omega : g < L.length)]
            exact List.getElem_mem _
          have hd := HD.out
          obtain ⟨d, hdd⟩ : ∃ d, d = L.getD g 0 := ⟨_, rfl⟩
          rw [← hdd] at hx hd
          have Hd : Hid (d = L.getD g 0) := hdd
          clear hdd HD
          go_wp2_with fail
          refine (Tryz.strconv_Itoa (d : Int) (by omega) (by omega) _ (tab_keep Htab.out hbw)).mono ?_
          rintro e W4 ⟨rfl, q, os, hw⟩
          have b4 : Below wr.heap.size wr W4 := by rw [hw]; exact Lib.below_grow _ _ (Nat.le_refl _) _ _
          clear hw
          rw [Lib.itoa_nonneg]
          obtain ⟨s, hs⟩ : ∃ s : ByteArray, s = ⟨(Lib.decDigits d).toArray⟩ := ⟨_, rfl⟩
          rw [← hs]
          have Hs : Hid (Lib.strCells s = Lib.byteCells (Lib.decDigits d)) := by show _ = _; rw [hs, strCells_mk]
          have Hz : Hid ((Lib.decDigits d).length = s.size) := by show _ = _; rw [hs]; simp [ByteArray.size]
          have hz1 : 1 ≤ s.size := by rw [← Hz.out]; exact (dec9 hd).1
          have hz9 : s.size ≤ 9 := by rw [← Hz.out]; exact (dec9 hd).2
          have hB4 := bld_below hB b4
          have hbw4 := below_more hbw (Nat.le_refl _) b4
          have hbs4 : b ≤ W4.heap.size := Nat.le_trans hbs b4.size
          have hgb4 := (b4.block gb (heap_lt hgb)).trans hgb
          have hlen : (Lib.byteCells (sgnT na ++ prS (L.drop (g + 1)))).length ≤ 900000000 := by
            rw [Lib.byteCells_length, List.length_append]
            have h1 : (sgnT na).length ≤ 1 := by cases na <;> simp [sgnT]
            have h2 := prS_len (l := L.drop (g + 1)) (fun x hx => Hlt.out x (List.mem_of_mem_drop hx))
            rw [List.length_drop] at h2
            omega
          clear hs hB hbw hbs hgb hx b4
          by_cases hlast : g + 1 = L.length
          · have HL : Hid (prS (L.drop g) = prS (L.drop (g + 1)) ++ Lib.decDigits d) := by rw [Hd.out]; exact prS_last hlast
            have hnl : ¬ ((g : Int) + 1 - 1 < (L.length : Int) - 1) := by omega
            go_wp2_with fail
            refine (writeString_any _ _ _ s _ hB4 (by omega) hbs4).mono ?_
            rintro e W5 ⟨rfl, h5, b5, k5⟩
            rw [Hs.out, byteCells_append, List.append_assoc, ← HL.out] at h5
            have hgb5 := k5 _ _ _ _ hgb4 (by decide) (by decide)
            have hbs5 : b ≤ W5.heap.size := Nat.le_trans hbs4 b5.size
            have hbw5 := hbw4.trans (b5.mono (by omega))
            clear hB4 hgb4 hbw4 k5 hbs4 hlen b5
            go_wp2
            go_roundg g
            case measure => omega
            case rel => exact ⟨by omega, by go_num, Or.inr h5, hbw5, hbs5, hgb5⟩
          · have HL : Hid (prS (L.drop g) = prS (L.drop (g + 1)) ++ (Lib.repeatL [48] (9 - s.size) ++ Lib.decDigits d)) := by
              show _ = _
              rw [← Hz.out, Hd.out]; exact prS_step (by omega)
            have hnl : (g : Int) + 1 - 1 < (L.length : Int) - 1 := by omega
            go_wp2_with fail
            rw [show (9 : Int) - (s.size : Int) = ((9 - s.size : Nat) : Int) by omega]
            refine (Tryz.strings_Repeat ⟨#[48]⟩ (9 - s.size) _ (by omega) (by show 1 * (9 - s.size) ≤ _; omega)).mono ?_
            rintro e W5 ⟨rfl, b5⟩
            obtain ⟨t, ht⟩ : ∃ t : ByteArray, t = ⟨(Lib.repeatL (⟨#[48]⟩ : ByteArray).data.toList (9 - s.size)).toArray⟩ := ⟨_, rfl⟩
            rw [← ht]
            have Ht : Hid (Lib.strCells t = Lib.byteCells (Lib.repeatL [48] (9 - s.size))) := by show _ = _; rw [ht, strCells_mk]
            have ht9 : t.size ≤ 9 := by
              rw [ht]
              show (Lib.repeatL [48] (9 - s.size)).toArray.size ≤ 9
              rw [List.size_toArray, Lib.repeatL_length]; simp
            clear ht
            have hB5 := bld_below hB4 b5
            have hbw5 := below_more hbw4 (Nat.le_refl _) b5
            have hbs5 : b ≤ W5.heap.size := Nat.le_trans hbs4 b5.size
            have hgb5 := (b5.block gb (heap_lt hgb4)).trans hgb4
            clear hB4 hbw4 hbs4 hgb4 b5
            go_wp2_with fail
            refine (writeString_any _ _ _ t _ hB5 (by omega) hbs5).mono ?_
            rintro e W6 ⟨rfl, h6, b6, k6⟩
            have hgb6 := k6 _ _ _ _ hgb5 (by decide) (by decide)
            have hbs6 : b ≤ W6.heap.size := Nat.le_trans hbs5 b6.size
            have hbw6 := hbw5.trans (b6.mono (by omega))
            have hlen6 : (Lib.byteCells (sgnT na ++ prS (L.drop (g + 1))) ++ Lib.strCells t).length ≤ 900000009 := by
              rw [List.length_append, Lib.strCells_length]; omega
            clear hB5 hbw5 hbs5 hgb5 k6 b6 hlen
            go_wp2_with fail
            refine (writeString_any _ _ _ s _ (Or.inr h6) (by omega) hbs6).mono ?_
            rintro e W7 ⟨rfl, h7, b7, k7⟩
            rw [Hs.out, Ht.out, byteCells_append, byteCells_append, List.append_assoc, List.append_assoc, ← HL.out] at h7
            have hgb7 := k7 _ _ _ _ hgb6 (by decide) (by decide)
            have hbs7 : b ≤ W7.heap.size := Nat.le_trans hbs6 b7.size
            have hbw7 := hbw6.trans (b7.mono (by omega))
            clear h6 hgb6 hbw6 k7 hbs6 hlen6 b7
            go_wp2
            go_roundg g
            case measure => omega
            case rel => exact ⟨by omega, by go_num, Or.inr h7, hbw7, hbs7, hgb7⟩
end Go.Proofs.YtgcogpfmhmmgdaaGreatDoor

namespace Go.Proofs.YtgcogpfmhmmgdaaGreatDoor
open Go.RowKit

theorem Tryz.fieldsInt : (Tryz.prog.fieldsOf 27).toList = [{ name := "Neg", type := 4, offset := 0, embedded := false, tag := "", pkgPath := "", byteOffset := 0 }, { name := "Mag", type := 9, offset := 1, embedded := false, tag := "", pkgPath := "", byteOffset := 8 }] := by kernel_rfl
theorem part0 (a : Bool) (s : ByteArray) (w : World) : (part 4 #[Value.bool a, Value.string s] 0).run Tryz.prog w = .ok (.bool a) w := by kernel_rfl
theorem part1 (a : Bool) (s : ByteArray) (w : World) : (part 9 #[Value.bool a, Value.string s] 1).run Tryz.prog w = .ok (.string s) w := by kernel_rfl
theorem eq0 (a b : Bool) (w : World) : (Op.equalIn 9999 4 (.bool a) (.bool b)).run Tryz.prog w = .ok (a == b) w := run_equalIn_bool' w 9998 4 a b Tryz.underlying4
theorem eq1 (a b : ByteArray) (w : World) : (Op.equalIn 9999 9 (.string a) (.string b)).run Tryz.prog w = .ok (a.toList == b.toList) w := run_equalIn_string w 9998 9 a b Tryz.underlying9
set_option maxRecDepth 100000 in
theorem neqInt (a b : Bool) (s t : ByteArray) (w : World) : (binOp .neq 27 (.agg #[.bool a, .string s]) (.agg #[.bool b, .string t])).run Tryz.prog w = .ok (.bool (!(a == b && s.toList == t.toList))) w := by
  rw [run_neq_struct, run_equalIn_agg w 9999 27 _ _ (by kernel_rfl) (by kernel_rfl), Tryz.fieldsInt]
  simp only [Op.eqFields]
  rw [if_pos (by decide)]
  rw [if_pos (by decide)]
  simp only [Sem.run_bind, part0, eq0, Result.andThen]
  cases a == b
  · rfl
  · simp only [Bool.not_true, Bool.true_and, if_neg (show ¬ (false = true) by decide), Sem.run_bind, part1, eq1, Result.andThen]
    cases s.toList == t.toList <;> rfl
theorem guardInt (x y : Operand) (a b : Bool) (s t : ByteArray) (w : World) : (eqGuard .neq 27 x y (.agg #[.bool a, .string s]) (.agg #[.bool b, .string t])).run Tryz.prog w = .ok () w := run_eqGuard_agg w .neq 27 x y _ _ (by kernel_rfl)
attribute [go_sem ↓] neqInt guardInt
theorem keep2 {Wp W1 : World} {p1 p2 : Addr} {v1 v2 : Value} (hb : Below Wp.heap.size Wp W1) (h : Wp.cell? p1 = some v1 ∧ Wp.cell? p2 = some v2) : W1.cell? p1 = some v1 ∧ W1.cell? p2 = some v2 := ⟨cell_keep h.1 hb, cell_keep h.2 hb⟩
/-- An integer is canonical: its own bytes and sign. -/
theorem mg_of (na : Bool) (sa : ByteArray) (h : stz sa = sa.data.toList) : mg (zv na sa) = sa := by
  unfold mg
  rw [natAbs_zv, ← stz_eq, h]
theorem toList_eq (a b : ByteArray) : (a.toList == b.toList) = decide (a = b) := by
  by_cases h : a = b
  · subst h; simp
  · rw [decide_eq_false h]
    exact beq_eq_false_iff_ne.2 (fun e => h (by rw [ByteArray.toList_eq, ByteArray.toList_eq] at e; exact ByteArray.ext (Array.toList_inj.mp e)))
def checkN (na : Bool) (sa : ByteArray) : Int := if sg (zv na sa) = na ∧ mg (zv na sa) = sa then 0 else 1

theorem check_val (na : Bool) (sa : ByteArray) : checkN na sa = if (!na == sg (zv na sa) || !sa.toList == (mg (zv na sa)).toList) then 1 else 0 := by
  rw [toList_eq]
  unfold checkN
  by_cases h1 : na = sg (zv na sa)
  · by_cases h2 : sa = mg (zv na sa)
    · rw [if_pos ⟨h1.symm, h2.symm⟩, decide_eq_true h2]
      simp [← h1]
    · rw [if_neg (fun h => h2 h.2.symm), decide_eq_false h2]; simp
  · rw [if_neg (fun h => h1 h.1.symm), show (na == sg (zv na sa)) = false from beq_eq_false_iff_ne.2 h1]; rfl

end Go.Proofs.YtgcogpfmhmmgdaaGreatDoor

namespace Go.Proofs.YtgcogpfmhmmgdaaGreatDoor
open Go.RowKit

theorem gs_two64 : gs 18446744073709551616 = [709551616, 446744073, 18] := by
  rw [gs_pos (by omega), gs_pos (by omega), gs_pos (by omega), gs_zero]

theorem two64_text : (⟨(prZ 18446744073709551616).toArray⟩ : ByteArray) = ⟨#[49, 56, 52, 52, 54, 55, 52, 52, 48, 55, 51, 55, 48, 57, 53, 53, 49, 54, 49, 54]⟩ := by
  have h0 : prZ 18446744073709551616 = prS [709551616, 446744073, 18] := by
    unfold prZ
    rw [if_neg (by decide)]
    show sgnT (sg 18446744073709551616) ++ prS (gs 18446744073709551616) = _
    rw [gs_two64]
    rfl
  rw [h0]
  simp [prS, pad9, Lib.decDigits, Lib.repeatL]

theorem eqlInt (a b : Bool) (s t : ByteArray) (w : World) : (binOp .eql 27 (.agg #[.bool a, .string s]) (.agg #[.bool b, .string t])).run Tryz.prog w = .ok (.bool (a == b && s.toList == t.toList)) w := by
  rw [run_eql_struct, run_equalIn_agg w 9999 27 _ _ (by kernel_rfl) (by kernel_rfl), Tryz.fieldsInt]
  simp only [Op.eqFields]
  rw [if_pos (by decide)]
  rw [if_pos (by decide)]
  simp only [Sem.run_bind, part0, eq0, Result.andThen]
  cases a == b
  · rfl
  · simp only [Bool.not_true, Bool.true_and, if_neg (show ¬ (false = true) by decide), Sem.run_bind, part1, eq1, Result.andThen]
    cases s.toList == t.toList <;> rfl
end Go.Proofs.YtgcogpfmhmmgdaaGreatDoor
