/- What integer.Print returns: the decimal text. What integer.shift returns: the number without its last bits. Condition: not more bits than the number has. What the closure of integer.root returns: whether the next bit belongs to the root. -/
import Derived.Test.YtfcdekkoeeaolaaGreatDoorQ11
import Derived.Test.YtfcdekkoeeaolaaGreatDoorQ15
import Derived.Deep.DeepCutAuto
import Derived.Lib.AppendIntMem
import Derived.Lib.ItoaMem
import Derived.Test.YtfcdekkoeeaolaaGreatDoorQ10
import Derived.Test.YtfcdekkoeeaolaaGreatDoorQ07
import Derived.Deep.RegionWith
import Derived.Deep.RegionHeld3
import Derived.Test.YtfcdekkoeeaolaaGreatDoorQ14
import Derived.Test.YtfcdekkoeeaolaaGreatDoorQ12

namespace Go.Proofs.YtfcdekkoeeaolaaGreatDoor
open Go.RowKit

def pad9 (d : Nat) : List UInt8 := Lib.repeatL [48] (9 - (Lib.decDigits d).length) ++ Lib.decDigits d
/-- The text of the groups, the least one first in the list. -/
def prS : List Nat → List UInt8
  | [] => []
  | d :: l => prS l ++ (if l = [] then Lib.decDigits d else pad9 d)
def sgnT (g : Bool) : List UInt8 := if g then [45] else []
def prZ (z : Int) : List UInt8 := if z = 0 then [48] else sgnT (sg z) ++ prS (gs z.natAbs)

theorem nDigits_le : ∀ (k u : Nat), 1 ≤ k → u < 10 ^ k → Lib.nDigits u ≤ k
  | 0, _, h, _ => absurd h (by omega)
  | k + 1, u, _, h => by
    by_cases h1 : u < 10
    · rw [Lib.nDigits_small h1]; omega
    · rw [Lib.nDigits_big h1]
      have hk : 1 ≤ k := by
        rcases k with _ | k
        · simp at h; omega
        · omega
      have := nDigits_le k (u / 10) hk (by rw [Nat.pow_succ] at h; omega)
      omega
theorem dec9 {d : Nat} (h : d < 1000000000) : 1 ≤ (Lib.decDigits d).length ∧ (Lib.decDigits d).length ≤ 9 := by
  rw [Lib.decDigits_length]
  exact ⟨Lib.nDigits_pos d, nDigits_le 9 d (by omega) (by omega)⟩
theorem pad9_len {d : Nat} (h : d < 1000000000) : (pad9 d).length = 9 := by
  have := dec9 h
  unfold pad9
  rw [List.length_append, Lib.repeatL_length]; simp; omega
theorem gs_lt {N : Nat} : ∀ d ∈ gs N, d < 1000000000 := by
  induction N using Nat.strongRecOn with
  | _ N ih =>
    intro d hd
    by_cases h0 : N = 0
    · subst h0; rw [gs_zero] at hd; simp at hd
    · rw [gs_pos h0] at hd
      rcases List.mem_cons.1 hd with rfl | hd
      · exact Nat.mod_lt _ (by omega)
      · exact ih _ (Nat.div_lt_self (by omega) (by omega)) d hd
theorem prS_len : ∀ {l : List Nat}, (∀ d ∈ l, d < 1000000000) → (prS l).length ≤ 9 * l.length
  | [], _ => by simp [prS]
  | d :: l, h => by
    have h1 := prS_len (l := l) (fun x hx => h x (List.mem_cons_of_mem _ hx))
    have h2 := dec9 (h d List.mem_cons_self)
    have h3 := pad9_len (h d List.mem_cons_self)
    unfold prS
    rw [List.length_append, List.length_cons]
    split <;> omega
theorem strCells_mk (l : List UInt8) : Lib.strCells ⟨l.toArray⟩ = Lib.byteCells l := by simp [Lib.strCells, Lib.byteCells]
theorem byteCells_append (l m : List UInt8) : Lib.byteCells l ++ Lib.byteCells m = Lib.byteCells (l ++ m) := by simp [Lib.byteCells]
theorem prS_last {L : List Nat} {g : Nat} (h : g + 1 = L.length) : prS (L.drop g) = prS (L.drop (g + 1)) ++ Lib.decDigits (L.getD g 0) := by
  rw [List.drop_eq_getElem_cons (by omega : g < L.length)]
  have h0 : L.drop (g + 1) = [] := List.drop_eq_nil_of_le (by omega)
  rw [h0]; simp [prS, List.getD, List.getElem?_eq_getElem (by omega : g < L.length)]
theorem prS_step {L : List Nat} {g : Nat} (h : g + 1 < L.length) : prS (L.drop g) = prS (L.drop (g + 1)) ++ pad9 (L.getD g 0) := by
  rw [List.drop_eq_getElem_cons (by omega : g < L.length)]
  have h0 : L.drop (g + 1) ≠ [] := by
    intro e
    have := congrArg List.length e
    rw [List.length_drop] at this; simp at this; omega
  rw [prS, if_neg h0]; simp [List.getD, List.getElem?_eq_getElem (by omega : g < L.length)]
theorem tab_keep {w w' : World} {name : String} {k : IntKind} {zs : List Int} (h : Lib.TabIs Tryz.prog w name k zs) (hb : Below w.heap.size w w') : Lib.TabIs Tryz.prog w' name k zs := by
  unfold Lib.TabIs World.var? at h ⊢
  cases hg : Tryz.prog.globalNamed name with
  | none => rw [hg] at h; cases h
  | some g =>
    rw [hg] at h
    simp only [Option.bind_some] at h ⊢
    rw [hb.block g (by
      rcases Nat.lt_or_ge g w.heap.size with h' | h'
      · exact h'
      · rw [Array.getElem?_eq_none h'] at h; cases h)]
    exact h

theorem bld_below {B b : Nat} {bs : List Value} {w w' : World} (h : Bld B b bs w) (hb : Below w.heap.size w w') : Bld B b bs w' := by
  rcases h with ⟨hB, v, h1, h2, h3⟩ | ⟨hB, v, h1, h2, h3⟩
  · exact Or.inl ⟨hB, v, (hb.block b (heap_lt h1)).trans h1, h2.kept (grown_of_below hb none) (by cases hv : v.ownBlock <;> simp), h3⟩
  · exact Or.inr ⟨hB, v, (hb.block b (heap_lt h1)).trans h1, h2.kept (grown_of_below hb none) (by cases hv : v.ownBlock <;> simp), h3⟩

set_option maxRecDepth 100000 in
set_option maxHeartbeats 3200000 in
theorem print_any (v : Value) (z : Int) (k : Nat) (w : World) (h : IsInt v z k) (htab : Lib.TabIs Tryz.prog w "internal/strconv.uint64pow10" .u64 Lib.pow10Tab) :
    Calls Tryz.prog 58 #[v] w fun e w' => e = .returned (.string ⟨(prZ z).toArray⟩) ∧ Below w.heap.size w w' := by
  obtain ⟨na, sa, rfl, hz, hs, hk, hkk⟩ := h
  have HN : Hid (vB sa.data.toList = z.natAbs) := by show _ = _; rw [← natAbs_zv na sa, hz]
  have Hk : Hid (z.natAbs < 4294967296 ^ k) := hk
  have Htab : Hid (Lib.TabIs Tryz.prog w "internal/strconv.uint64pow10" .u64 Lib.pow10Tab) := htab
  have hb0 := below1 w (.cells #[.bool na, .string sa] 23)
  have c1 : (w.alloc (.cells #[.bool na, .string sa] 23)).cell? ⟨w.heap.size, 0, none⟩ = some (.bool na) := by simp [go_sem]
  by_cases h0 : z = 0
  · have hp : Hid (prZ z = [48]) := by show _ = _; unfold prZ; rw [if_pos h0]
    have h00 : z.natAbs = 0 := by omega
    clear hz hk htab
    go_enter Tryz.func58, Tryz.ntmps58
    go_wp2_with fail
    refine (magnitude_any _ sa _ (by omega)).mono ?_
    rintro e W1 ⟨A, n, c, rfl, i1, b1⟩
    rw [HN.out, h00] at i1
    obtain rfl := (nat_none i1).2 rfl
    go_wp2
    go_ret
    exact ⟨by rw [hp.out]; rfl, below_more hb0 (Nat.le_refl _) b1⟩
  · have hp : Hid (prZ z = sgnT na ++ prS (gs z.natAbs)) := by
      show _ = _
      unfold prZ
      rw [if_neg h0, ← hz, sg_zv na sa (by rw [HN.out]; omega)]
    have h00 : z.natAbs ≠ 0 := by omega
    clear hz hk htab
    go_enter Tryz.func58, Tryz.ntmps58
    go_wp2_with fail
    refine (magnitude_any _ sa _ (by omega)).mono ?_
    rintro e W1 ⟨A, n, c, rfl, i1, b1⟩
    rw [HN.out] at i1
    have hn0 : 0 < n := by have := mt (nat_none i1).1 h00; omega
    have hb1 := below_more hb0 (Nat.le_refl _) b1
    have y1 := cell_keep c1 b1
    have hs0 : w.heap.size + 1 ≤ W1.heap.size := by have := b1.size; rw [World.size_alloc] at this; exact this
    have hs1 : w.heap.size < W1.heap.size := hs0
    have hs2 : w.heap.size ≠ W1.heap.size := by omega
    have hfr := Lib.fresh_isBuilder 95 5 W1
    clear c1 b1 hb0
    generalize z.natAbs = M at *
    go_upto_if 14 with fail
    go_cut [4] (fun s4 wx => s4 = .pointer (some ⟨W1.heap.size, 0, none⟩) ∧ Bld W1.heap.size W1.heap.size (Lib.byteCells (sgnT na)) wx ∧ Below W1.heap.size W1 wx)
    case first =>
      cases na with
      | false =>
        go_wp2_with fail
        go_meet
        exact ⟨rfl, hfr, below1 _ _⟩
      | true =>
        go_wp2_with fail
        refine (writeByte_any _ _ _ 45 _ hfr (by simp) (by rw [World.size_alloc]; omega)).mono ?_
        rintro e W2 ⟨rfl, h2, b2, _⟩
        go_wp2_with fail
        go_meet
        exact ⟨rfl, Or.inr h2, (below1 _ _).trans b2⟩
    case rest =>
      obtain ⟨rfl, hB, hbB⟩ := hcut
      have i2 := i1.below (Nat.le_refl _) hbB
      have hbw := hb1.trans (hbB.mono (Nat.le_of_lt hs1))
      have hbs := hbB.size
      have HP : Hid (prZ z = sgnT na ++ prS (gs M)) := hp.out
      have hroom := gs_room Hk.out
      have Hlt : Hid (∀ d ∈ gs M, d < 1000000000) := gs_lt
      have Hne : Hid (gs M ≠ []) := by show _ ≠ _; rw [gs_pos h00]; simp
      go_wp2_with fail
      refine (groups_any A n c M k _ i2 Hk.out hkk).mono ?_
      rintro e W3 ⟨v, rfl, hown, b3⟩
      have hB3 := bld_below hB b3
      have hbw3 := below_more hbw (Nat.le_refl _) b3
      have hbs3 : W1.heap.size ≤ W3.heap.size := Nat.le_trans hbs b3.size
      clear i1 i2 hB hbB hb1 y1 hfr hp hbw b3 hs0 hbs h00 h0
      generalize gs M = L at *
      generalize W1.heap.size = b at *
      have hL0 : 0 < L.length := List.length_pos_iff.2 Hne.out
      obtain ⟨gb, cap, cur, rfl, hgb, hcell⟩ : ∃ gb cap cur, v = .slice (some ⟨gb, 0, none⟩) L.length cap ∧ W3.heap[gb]? = some (.cells cur 70 (0, 0)) ∧ ∀ g, g < L.length → cur[g]? = some (.int .u32 ((L.getD g 0 : Nat) : Int)) := by
        rcases hown.2 with ⟨_, h0⟩ | ⟨gb, cap, cur, hv, _, hgb, _, _, _, htk⟩
        · omega
        · refine ⟨gb, cap, cur, hv, hgb, fun g hg => ?_⟩
          have h1 : (cur.toList.take (L.length * 1))[g]? = (gvs L)[g]? := by rw [htk]
          rw [List.getElem?_take, if_pos (by omega)] at h1
          rw [← Array.getElem?_toList, h1]
          simp [gvs, List.getD, List.getElem?_eq_getElem hg]
      clear hown
      go_wp2_with fail
      go_loopg [6] L.length (fun g s6 wx => g ≤ L.length ∧ s6 = .int .i64 ((g : Int) - 1) ∧ Bld b b (Lib.byteCells (sgnT na ++ prS (L.drop g))) wx ∧ Below w.heap.size w wx ∧ b ≤ wx.heap.size ∧ wx.heap[gb]? = some (.cells cur 70 (0, 0)))
      case atStart => exact ⟨Nat.le_refl _, by go_num, by rw [List.drop_length]; simpa [prS] using hB3, hbw3, hbs3, hgb⟩
      case round =>
        clear hB3 hbw3 hbs3 hgb
        obtain ⟨hg, rfl, hB, hbw, hbs, hgb⟩ := hrel
        rcases gk with _ | g
        · go_wp2_with fail
          refine (Tryz.Builder_String_any _ _ _ _ hB hbs).mono ?_
          rintro e W4 ⟨rfl, b4⟩
          go_wp2
          go_ret
          exact ⟨by rw [HP.out]; rfl, hbw.trans (b4.mono (by omega))⟩
        · have hx : wr.cell? ⟨gb, g, none⟩ = some (.int .u32 ((L.getD g 0 : Nat) : Int)) := by rw [Lib.cell_of_heap hgb]; exact hcell g (by omega)
          have HD : Hid (L.getD g 0 < 1000000000) := by
            refine Hlt.out _ ?_
            rw [List.getD_eq_getElem?_getD, List.getElem?_eq_getElem (by omega : g < L.length)]
            exact List.getElem_mem _
          have hd := HD.out
          obtain ⟨d, hdd⟩ : ∃ d, d = L.getD g 0 := ⟨_, rfl⟩
          rw [← hdd] at hx hd
          have Hd : Hid (d = L.getD g 0) := hdd
          clear hdd HD
          go_wp2_with fail
          refine (Tryz.strconv_Itoa (d : Int) (by omega) (by omega) _ (tab_keep Htab.out hbw)).mono ?_
          rintro e W4 ⟨rfl, q, os, hw⟩
          have b4 : Below wr.heap.size wr W4 := by rw [hw]; exact Lib.below_grow _ _ (Nat.le_refl _) _ _
          clear hw
          rw [Lib.itoa_nonneg]
          obtain ⟨s, hs⟩ : ∃ s : ByteArray, s = ⟨(Lib.decDigits d).toArray⟩ := ⟨_, rfl⟩
          rw [← hs]
          have Hs : Hid (Lib.strCells s = Lib.byteCells (Lib.decDigits d)) := by show _ = _; rw [hs, strCells_mk]
          have Hz : Hid ((Lib.decDigits d).length = s.size) := by show _ = _; rw [hs]; simp [ByteArray.size]
          have hz1 : 1 ≤ s.size := by rw [← Hz.out]; exact (dec9 hd).1
          have hz9 : s.size ≤ 9 := by rw [← Hz.out]; exact (dec9 hd).2
          have hB4 := bld_below hB b4
          have hbw4 := below_more hbw (Nat.le_refl _) b4
          have hbs4 : b ≤ W4.heap.size := Nat.le_trans hbs b4.size
          have hgb4 := (b4.block gb (heap_lt hgb)).trans hgb
          have hlen : (Lib.byteCells (sgnT na ++ prS (L.drop (g + 1)))).length ≤ 900000000 := by
            rw [Lib.byteCells_length, List.length_append]
            have h1 : (sgnT na).length ≤ 1 := by cases na <;> simp [sgnT]
            have h2 := prS_len (l := L.drop (g + 1)) (fun x hx => Hlt.out x (List.mem_of_mem_drop hx))
            rw [List.length_drop] at h2
            omega
          clear hs hB hbw hbs hgb hx b4
          by_cases hlast : g + 1 = L.length
          · have HL : Hid (prS (L.drop g) = prS (L.drop (g + 1)) ++ Lib.decDigits d) := by rw [Hd.out]; exact prS_last hlast
            have hnl : ¬ ((g : Int) + 1 - 1 < (L.length : Int) - 1) := by omega
            go_wp2_with fail
            refine (writeString_any _ _ _ s _ hB4 (by omega) hbs4).mono ?_
            rintro e W5 ⟨rfl, h5, b5, k5⟩
            rw [Hs.out, byteCells_append, List.append_assoc, ← HL.out] at h5
            have hgb5 := k5 _ _ _ _ hgb4 (by decide) (by decide)
            have hbs5 : b ≤ W5.heap.size := Nat.le_trans hbs4 b5.size
            have hbw5 := hbw4.trans (b5.mono (by omega))
            clear hB4 hgb4 hbw4 k5 hbs4 hlen b5
            go_wp2
            go_roundg g
            case measure => omega
            case rel => exact ⟨by omega, by go_num, Or.inr h5, hbw5, hbs5, hgb5⟩
          · have HL : Hid (prS (L.drop g) = prS (L.drop (g + 1)) ++ (Lib.repeatL [48] (9 - s.size) ++ Lib.decDigits d)) := by
              show _ = _
              rw [← Hz.out, Hd.out]; exact prS_step (by omega)
            have hnl : (g : Int) + 1 - 1 < (L.length : Int) - 1 := by omega
            go_wp2_with fail
            rw [show (9 : Int) - (s.size : Int) = ((9 - s.size : Nat) : Int) by omega]
            refine (Tryz.strings_Repeat ⟨#[48]⟩ (9 - s.size) _ (by omega) (by show 1 * (9 - s.size) ≤ _; omega)).mono ?_
            rintro e W5 ⟨rfl, b5⟩
            obtain ⟨t, ht⟩ : ∃ t : ByteArray, t = ⟨(Lib.repeatL (⟨#[48]⟩ : ByteArray).data.toList (9 - s.size)).toArray⟩ := ⟨_, rfl⟩
            rw [← ht]
            have Ht : Hid (Lib.strCells t = Lib.byteCells (Lib.repeatL [48] (9 - s.size))) := by show _ = _; rw [ht, strCells_mk]
            have ht9 : t.size ≤ 9 := by
              rw [ht]
              show (Lib.repeatL [48] (9 - s.size)).toArray.size ≤ 9
              rw [List.size_toArray, Lib.repeatL_length]; simp
            clear ht
            have hB5 := bld_below hB4 b5
            have hbw5 := below_more hbw4 (Nat.le_refl _) b5
            have hbs5 : b ≤ W5.heap.size := Nat.le_trans hbs4 b5.size
            have hgb5 := (b5.block gb (heap_lt hgb4)).trans hgb4
            clear hB4 hbw4 hbs4 hgb4 b5
            go_wp2_with fail
            refine (writeString_any _ _ _ t _ hB5 (by omega) hbs5).mono ?_
            rintro e W6 ⟨rfl, h6, b6, k6⟩
            have hgb6 := k6 _ _ _ _ hgb5 (by decide) (by decide)
            have hbs6 : b ≤ W6.heap.size := Nat.le_trans hbs5 b6.size
            have hbw6 := hbw5.trans (b6.mono (by omega))
            have hlen6 : (Lib.byteCells (sgnT na ++ prS (L.drop (g + 1))) ++ Lib.strCells t).length ≤ 900000009 := by
              rw [List.length_append, Lib.strCells_length]; omega
            clear hB5 hbw5 hbs5 hgb5 k6 b6 hlen
            go_wp2_with fail
            refine (writeString_any _ _ _ s _ (Or.inr h6) (by omega) hbs6).mono ?_
            rintro e W7 ⟨rfl, h7, b7, k7⟩
            rw [Hs.out, Ht.out, byteCells_append, byteCells_append, List.append_assoc, List.append_assoc, ← HL.out] at h7
            have hgb7 := k7 _ _ _ _ hgb6 (by decide) (by decide)
            have hbs7 : b ≤ W7.heap.size := Nat.le_trans hbs6 b7.size
            have hbw7 := hbw6.trans (b7.mono (by omega))
            clear h6 hgb6 hbw6 k7 hbs6 hlen6 b7
            go_wp2
            go_roundg g
            case measure => omega
            case rel => exact ⟨by omega, by go_num, Or.inr h7, hbw7, hbs7, hgb7⟩
end Go.Proofs.YtfcdekkoeeaolaaGreatDoor

namespace Go.Proofs.YtfcdekkoeeaolaaGreatDoor
open Go.RowKit

theorem val_drop (f : Nat → Nat) (n q : Nat) (hq : q ≤ n) (h : Dig f n) : val (fun j => f (j + q)) (n - q) = val f n / 4294967296 ^ q := by
  induction q with
  | zero => simp
  | succ q ih =>
    have h1 := ih (by omega)
    have h2 := top_step f (show q < n by omega)
    unfold top at h2
    rw [h1] at h2
    rw [Nat.pow_succ, ← Nat.div_div_eq_div_mul, h2]
    have := h q (by omega)
    omega
theorem val_shift (f : Nat → Nat) (n s : Nat) (hq : s / 32 ≤ n) (h : Dig f n) : val (fun j => f (j + s / 32)) (n - s / 32) / 2 ^ (s % 32) = val f n / 2 ^ s := by
  rw [val_drop f n _ hq h, Nat.div_div_eq_div_mul, show (4294967296 : Nat) = 2 ^ 32 by rfl, ← Nat.pow_mul, ← Nat.pow_add]
  congr 2
  omega

theorem sizeU32 (w : World) : (sizeOf (Tryz.prog.elem 60)).run Tryz.prog w = .ok 1 w := by kernel_rfl
theorem elemU32 : Tryz.prog.elem 60 = 70 := by kernel_rfl
theorem underElem : Tryz.prog.underlying 60 = some (.slice (Tryz.prog.elem 60)) := by rw [elemU32]; exact Tryz.underlying60
/-- A slice from q on. -/
theorem rd_low {A : Option Addr} {n q : Nat} {w : World} {f : Nat → Nat} (hq : q ≤ n) (h : Rd w A n f) : Rd w (A.map (·.add q)) (n - q) (fun j => f (j + q)) := by
  obtain ⟨b, off, hA, hc⟩ := h
  refine ⟨b, off + q, fun h0 => ?_, fun i hi => ?_⟩
  · rw [hA (by omega)]
    simp only [Option.map_some]
    unfold Addr.add
    split <;> simp_all
  · rw [show off + q + i = off + (i + q) by omega]
    exact hc (i + q) (by omega)

set_option maxRecDepth 100000 in
set_option maxHeartbeats 1600000 in
theorem shift_any (A : Option Addr) (n c N s : Nat) (w : World) (hA : IsNat w A n c N) (hn : n ≤ 10000000) (hs : s / 32 ≤ n) :
    Calls Tryz.prog 121 #[.slice A n c, .int .i64 (s : Int)] w (NatOut w (N / 2 ^ s)) := by
  obtain ⟨hnc, hc, f, hrd, df, tf, rfl⟩ := hA
  have hv := val_shift f n s hs df
  have Hv : Hid (val (fun j => f (j + s / 32)) (n - s / 32) / 2 ^ (s % 32) = val f n / 2 ^ s) := hv
  have hp : 2 ^ (s % 32) ≤ 2 ^ 31 := Nat.pow_le_pow_right (by omega) (by omega)
  have hp1 : 1 ≤ 2 ^ (s % 32) := Nat.two_pow_pos _
  have h2 := rd_low hs hrd
  have Hshl : Hid ((1 : Int) * 2 ^ (s % 32) % 4294967296 = ((2 ^ (s % 32) : Nat) : Int)) := by
    have : ((2 ^ (s % 32) : Nat) : Int) = 2 ^ (s % 32) := Int.natCast_pow _ _
    show (1 : Int) * 2 ^ (s % 32) % 4294967296 = ((2 ^ (s % 32) : Nat) : Int)
    omega
  have dg : Dig (fun j => f (j + s / 32)) (n - s / 32) := fun i hi => df _ (by omega)
  clear hv
  have hsI : (s : Int) / 32 ≤ (n : Int) := by omega
  have hs0 : 0 ≤ (s : Int) / 32 := by omega
  have e1 : (s : Int).tdiv 32 = (s : Int) / 32 := Int.tdiv_eq_ediv_of_nonneg (by omega)
  have e2 : (s : Int).tmod 32 = (s : Int) % 32 := Int.tmod_eq_emod_of_nonneg (by omega)
  have e3 : IntKind.i64.wrap ((s : Int) / 32) = (s : Int) / 32 := by rw [IntKind.wrap_i64]; omega
  have e4 : IntKind.i64.wrap ((s : Int) % 32) = (s : Int) % 32 := by rw [IntKind.wrap_i64]; omega
  have hr0 : 0 ≤ (s : Int) % 32 := by omega
  have hr1 : (s : Int) % 32 < 32 := by omega
  have Hq1 : Hid (((s : Int) / 32).toNat = s / 32) := by show ((s : Int) / 32).toNat = s / 32; omega
  have Hq2 : Hid (IntKind.u32.wrap (2 ^ ((s : Int) % 32).toNat) = ((2 ^ (s % 32) : Nat) : Int)) := by
    show IntKind.u32.wrap (2 ^ ((s : Int) % 32).toNat) = ((2 ^ (s % 32) : Nat) : Int)
    rw [show ((s : Int) % 32).toNat = s % 32 by omega, IntKind.wrap_u32]
    have : ((2 ^ (s % 32) : Nat) : Int) = 2 ^ (s % 32) := Int.natCast_pow _ _
    omega
  have Hb1 : Hid (n - s / 32 ≤ 10000000000) := by show n - s / 32 ≤ 10000000000; omega
  have Hb2 : Hid (2 ^ (s % 32) < 4294967296) := by show 2 ^ (s % 32) < 4294967296; omega
  by_cases hcq : c = s / 32
  · have hcq2 : c = ((s : Int) / 32).toNat := by omega
    have hnq : n - s / 32 = 0 := by omega
    have h3 : Rd w A (n - s / 32) (fun j => f (j + s / 32)) := by rw [hnq]; exact Rd.nil _ _ _
    have HX : Hid (c = s / 32) := hcq
    clear hnq hcq
    go_enter Tryz.func121, Tryz.ntmps121
    go_wp2_with fail
    go_region_held3 (fun _ => True) (trivial) (first | (go_at_call 115; rw [Hq1.out, Hq2.out]; refine (divSmall_any (A) _ _ (val (fun j => f (j + s / 32)) (n - s / 32)) (2 ^ (s % 32)) w.drew ⟨_, h3, dg, rfl⟩ Hb1.out hp1 Hb2.out).mono ?_; rintro e W1 ⟨A3, n3, c3, rfl, i3, b3⟩))
    go_wp2
    go_ret
    exact ⟨A3, n3, c3, rfl, by rw [← Hv.out]; exact i3, below_more (Below.refl _ w).drew (Nat.le_refl _) b3⟩
  · have hcq2 : ¬ c = ((s : Int) / 32).toNat := by omega
    go_enter Tryz.func121, Tryz.ntmps121
    go_wp2_with fail
    go_region_held3 (fun _ => True) (trivial) (first | (go_at_call 115; rw [Hq1.out, Hq2.out]; refine (divSmall_any (A.map (·.add (s / 32))) _ _ (val (fun j => f (j + s / 32)) (n - s / 32)) (2 ^ (s % 32)) w.drew ⟨_, h2, dg, rfl⟩ Hb1.out hp1 Hb2.out).mono ?_; rintro e W1 ⟨A3, n3, c3, rfl, i3, b3⟩))
    go_wp2
    go_ret
    exact ⟨A3, n3, c3, rfl, by rw [← Hv.out]; exact i3, below_more (Below.refl _ w).drew (Nat.le_refl _) b3⟩
end Go.Proofs.YtfcdekkoeeaolaaGreatDoor

namespace Go.Proofs.YtfcdekkoeeaolaaGreatDoor
open Go.RowKit

theorem cmpN_le (a b : Nat) : decide (cmpN a b ≤ 0) = decide (a ≤ b) := by
  rw [decide_eq_decide]
  unfold cmpN
  split
  · constructor <;> omega
  · split <;> constructor <;> omega
theorem keep5 {Wp W1 : World} {p1 p2 p3 : Addr} {v1 v2 v3 : Value} (hb : Below Wp.heap.size Wp W1)
    (h : Wp.cell? p1 = some v1 ∧ Wp.cell? p2 = some v2 ∧ Wp.cell? p3 = some v3) :
    W1.cell? p1 = some v1 ∧ W1.cell? p2 = some v2 ∧ W1.cell? p3 = some v3 :=
  ⟨cell_keep h.1 hb, cell_keep h.2.1 hb, cell_keep h.2.2 hb⟩

set_option maxRecDepth 100000 in
set_option maxHeartbeats 3200000 in
theorem belongs_any (pl : Nat) (g1 g2 g3 : Nat) (A1 A2 : Option Addr) (n1 c1 n2 c2 R X m : Nat) (w : World) (q1 : w.cell? ⟨g1, 0, none⟩ = some (.slice A1 n1 c1)) (q2 : w.cell? ⟨g2, 0, none⟩ = some (.int .i64 (m : Int))) (q3 : w.cell? ⟨g3, 0, none⟩ = some (.slice A2 n2 c2))
    (i1 : IsNat w A1 n1 c1 R) (i2 : IsNat w A2 n2 c2 X) (hm : m ≤ 1000000) (k : Nat) (hR : R * 2 + 1 < 4294967296 ^ k) (hk : k * m + 1 ≤ 10000000) (hk2 : k ≤ 1000000) (hX : n2 ≤ 1000000) (hpl : m * pl ≤ 32 * n2) :
    Calls Tryz.prog 120 #[.int .i64 (pl : Int), .pointer (some ⟨g1, 0, none⟩), .pointer (some ⟨g2, 0, none⟩), .pointer (some ⟨g3, 0, none⟩)] w fun e w' => e = .returned (.bool (decide ((R * 2 + 1) ^ m ≤ X / 2 ^ (m * pl)))) ∧ Below w.heap.size w w' := by
  have hn1 : n1 ≤ k := i1.len (Nat.lt_of_le_of_lt (by omega) hR)
  have HR : Hid (R * 2 + 1 < 4294967296 ^ k) := hR
  have S0 : w.drew.cell? ⟨g1, 0, none⟩ = some (.slice A1 n1 c1) ∧ w.drew.cell? ⟨g2, 0, none⟩ = some (.int .i64 (m : Int)) ∧ w.drew.cell? ⟨g3, 0, none⟩ = some (.slice A2 n2 c2) := ⟨q1, q2, q3⟩
  have i2d : IsNat w.drew A2 n2 c2 X := i2
  obtain ⟨t, ht⟩ : ∃ t : Nat, t = m * pl := ⟨_, rfl⟩
  rw [← ht]
  rw [← ht] at hpl
  have e2 : IntKind.i64.wrap ((m : Int) * (pl : Int)) = (t : Int) := by rw [← Int.natCast_mul, ← ht, IntKind.wrap_i64]; omega
  have HP : Hid ((R * 2 + 1) ^ m < 4294967296 ^ (k * m + 1)) := pow_bound hR (Nat.le_refl m)
  have HK : Hid (k * m + 1 ≤ 10000000) := hk
  clear ht hR
  go_enter Tryz.func120, Tryz.ntmps120
  go_wp2_with fail
  go_region_held3 (fun W => W.cell? ⟨g1, 0, none⟩ = some (.slice A1 n1 c1) ∧ W.cell? ⟨g2, 0, none⟩ = some (.int .i64 (m : Int)) ∧ W.cell? ⟨g3, 0, none⟩ = some (.slice A2 n2 c2)) (first | exact keep5 (by assumption) (by assumption) | exact S0)
    (first
      | (go_at_call 118; refine (mulAdd_any A1 n1 c1 R 2 1 w.drew (by exact i1) (by omega) (by omega) (by omega)).mono ?_; rintro e W1 ⟨A3, n3, c3, rfl, i3, b3⟩; have l3 := i3.len HR.out)
      | (go_at_call 83; refine (power_any A3 n3 c3 (R * 2 + 1) m k _ i3 hm HR.out HK.out (by omega)).mono ?_; rintro e W2 ⟨A4, n4, c4, rfl, i4, b4⟩)
      | (go_at_call 121; refine (shift_any A2 n2 c2 X t _ ((i2d.below (Nat.le_refl _) b3).below (Nat.le_refl _) b4) (by omega) (by omega)).mono ?_; rintro e W3 ⟨A5, n5, c5, rfl, i5, b5⟩)
      | (go_at_call 63; refine (compare_any A4 A5 n4 n5 c4 c5 _ _ _ (i4.below (Nat.le_refl _) b5) i5).mono ?_; rintro e W4 ⟨rfl, qq, rfl⟩; have b6 : Below W3.heap.size W3 (W3.drewN qq) := ⟨rfl, rfl, rfl, Nat.le_refl _, fun _ _ => rfl⟩))
  have Hd : Hid (decide (cmpN ((R * 2 + 1) ^ m) (X / 2 ^ t) ≤ 0) = decide ((R * 2 + 1) ^ m ≤ X / 2 ^ t)) := cmpN_le _ _
  go_wp2
  go_ret
  exact ⟨by rw [← Hd.out]; rfl, below_more (below_more (below_more (below_more (Below.refl _ w).drew (Nat.le_refl _) b3) (Nat.le_refl _) b4) (Nat.le_refl _) b5) (Nat.le_refl _) b6⟩
end Go.Proofs.YtfcdekkoeeaolaaGreatDoor
