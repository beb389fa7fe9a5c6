/- What the three writing methods of strings.Builder leave in this program. What integer.Print returns: the decimal text. Closed values that awake compares. -/
import Derived.Test.YtcljkdninmldiaaGreatDoorQ01
import Derived.Test.YtcljkdninmldiaaGreatDoorQ07
import Derived.Maps.AppendAt
import Derived.OwnWalk
import Derived.Test.YtcljkdninmldiaaGreatDoorQ23
import Derived.Test.YtcljkdninmldiaaGreatDoorQ20
import Derived.Deep.DeepCutAuto
import Derived.Lib.AppendIntMem
import Derived.Lib.ItoaMem
import Derived.Test.YtcljkdninmldiaaGreatDoorQ09

namespace Go.Proofs.YtcljkdninmldiaaGreatDoor
open Go.RowKit

abbrev tB : TypeId := 80
/-- A builder that has been written at least once, and holds these bytes. -/
abbrev BldAt (B b : Nat) (bs : List Value) (w : World) : Prop := Lib.BuilderAt 80 5 B b (.pointer (some ⟨b, 0, none⟩)) bs w
/-- A builder that holds these bytes. -/
abbrev Bld (B b : Nat) (bs : List Value) (w : World) : Prop := Lib.IsBuilder 80 5 B b bs w

/-- Blocks of another type than the builder's and its bytes' are as they were. -/
def KeepT (w w' : World) : Prop := ∀ (k : Nat) (cs : Array Value) (T : TypeId) (fz : Nat × Nat), w.heap[k]? = some (.cells cs T fz) → T ≠ 80 → T ≠ 5 → w'.heap[k]? = some (.cells cs T fz)
theorem KeepT.refl (w : World) : KeepT w w := fun _ _ _ _ h _ _ => h
theorem KeepT.trans {w w1 w2 : World} (h : KeepT w w1) (k : KeepT w1 w2) : KeepT w w2 := fun i cs T fz a b c => k i cs T fz (h i cs T fz a b c) b c
theorem heap_lt {w : World} {k : Nat} {o : Obj} (h : w.heap[k]? = some o) : k < w.heap.size := by
  rcases Nat.lt_or_ge k w.heap.size with h' | h'
  · exact h'
  · simp [Array.getElem?_eq_none h'] at h
theorem KeepT.below {w w' : World} (h : Below w.heap.size w w') : KeepT w w' := fun k _ _ _ a _ _ => (h.block k (heap_lt a)).trans a
theorem KeepT.grown {w w' : World} {B : Nat} {v : Value} {n : Nat} {xs : List Value} (hown : w.ownsRow B 5 1 v n xs) (hg : w.grownBy w' v.ownBlock) : KeepT w w' := fun k cs T fz a _ c => by
  rw [hg.block k (heap_lt a) (fun e => ?_)]
  · exact a
  · rcases hown.2 with ⟨rfl, _⟩ | ⟨g, cap, cur, rfl, _, hgg, _⟩
    · simp [Value.ownBlock] at e
    · simp only [Value.ownBlock, Option.some.injEq] at e
      subst e
      rw [hgg] at a
      injection a with a
      injection a with _ a _
      exact c a.symm
theorem KeepT.set {w : World} {b j : Nat} {cs0 : Array Value} {fz0 : Nat × Nat} (hb : w.heap[b]? = some (.cells cs0 80 fz0)) (u : Value) : KeepT w (w.setCell ⟨b, j, none⟩ u) := fun k cs T fz a c _ => by
  rw [Below.heap_setCell _ _ _ _ (fun e => ?_)]
  · exact a
  · have e : k = b := e
    subst e
    rw [hb] at a
    injection a with a
    injection a with _ a _
    exact c a.symm

theorem Tryz.sizeBld : (Tryz.prog.info? 80).map (·.size) = some 2 := by kernel_rfl
theorem Tryz.liesBld : liesAt Tryz.prog Tryz.prog.depth 80 (2 / Tryz.prog.cellsOf 80) 0 80 1 = true := by kernel_rfl

set_option maxRecDepth 100000 in
set_option maxHeartbeats 1000000 in
theorem check_old (b : Nat) (w : World) (h0 : w.cell? ⟨b, 0, none⟩ = some (.pointer (some ⟨b, 0, none⟩))) :
    Calls Tryz.prog 103 #[.pointer (some ⟨b, 0, none⟩)] w fun e w' => e = .returned (.tuple #[]) ∧ w' = w := by
  obtain ⟨j, hj, _⟩ := Option.map_eq_some_iff.1 Tryz.sizeBld
  go_enter Tryz.func103, Tryz.ntmps103
  go_wp2
  rw [Lib.run_neq_ptr_same w _ Tryz.underlying78 hj]
  go_wp2
  go_end0
  exact ⟨rfl, rfl⟩

set_option maxRecDepth 100000 in
set_option maxHeartbeats 1000000 in
theorem check_new (b : Nat) (w : World) (h0 : w.cell? ⟨b, 0, none⟩ = some (.pointer none)) (hsh : w.shape? b = some (80, 2)) (hfz : w.frozen? ⟨b, 0, none⟩ = false) :
    Calls Tryz.prog 103 #[.pointer (some ⟨b, 0, none⟩)] w fun e w' => e = .returned (.tuple #[]) ∧ w' = w.setCell ⟨b, 0, none⟩ (.pointer (some ⟨b, 0, none⟩)) := by
  obtain ⟨j, hj, hjs⟩ := Option.map_eq_some_iff.1 Tryz.sizeBld
  go_enter Tryz.func103, Tryz.ntmps103
  go_wp2
  rw [Lib.run_to_unsafe w ⟨b, 0, none⟩ Tryz.underlying78 Tryz.underlying127 hj (by rw [hjs]; decide) hsh (Nat.zero_lt_succ 1)]
  simp only [Result.andThen]
  rw [Oper.upon_value]
  go_wp2
  rw [run_callFunc_extern Tryz.func126 (by kernel_rfl) (by kernel_rfl) (by kernel_rfl) (e := Extern.AbiNoEscape.same) (by kernel_rfl), Lib.run_noEscape]
  simp only [Result.andThen]
  rw [Oper.upon_value]
  go_wp2
  rw [Lib.run_from_unsafe w ⟨b, 0, none⟩ Tryz.underlying127 Tryz.underlying78 hj hsh Tryz.liesBld]
  simp only [Result.andThen]
  rw [Oper.upon_value]
  go_wp2
  go_end0
  exact ⟨rfl, rfl⟩

/-- Behind copyCheck the builder is written, and holds what it held. -/
theorem check_any (B b : Nat) (bs : List Value) (w : World) (h : Bld B b bs w) :
    Calls Tryz.prog 103 #[.pointer (some ⟨b, 0, none⟩)] w fun e w' => e = .returned (.tuple #[]) ∧ BldAt B b bs w' ∧ Below B w w' ∧ KeepT w w' := by
  rcases h with h | h
  · refine (check_new b w h.cell0 h.shape h.frozen0).mono ?_
    rintro e w' ⟨rfl, rfl⟩
    obtain ⟨_, v, hbk, _⟩ := id h
    exact ⟨rfl, h.used _, (Below.refl B w).setCell (p := ⟨b, 0, none⟩) h.1 _, KeepT.set hbk _⟩
  · refine (check_old b w h.cell0).mono ?_
    rintro e w' ⟨rfl, rfl⟩
    exact ⟨rfl, h, Below.refl B _, KeepT.refl _⟩

theorem Tryz.infoByte : (Tryz.prog.info? 5).map (fun i => (i.zero, i.size, i.bytes)) = some (some (.int .u8 0), 1, 1) := by kernel_rfl

/-- The builder's own block while its row grows. -/
theorem bld_block {b : Nat} {v : Value} {p : Value} {w w' : World} (hbk : w.heap[b]? = some (.cells #[p, v] 80 (0, 0))) (hg : w.grownBy w' v.ownBlock) (hne : v.ownBlock ≠ some b) : w'.heap[b]? = some (.cells #[p, v] 80 (0, 0)) ∧ b < w.heap.size := by
  have hlt : b < w.heap.size := by
    rcases Nat.lt_or_ge b w.heap.size with h' | h'
    · exact h'
    · simp [Array.getElem?_eq_none h'] at hbk
  exact ⟨(hg.block b hlt (fun e => hne e.symm)).trans hbk, hlt⟩

set_option maxRecDepth 100000 in
set_option maxHeartbeats 2000000 in
theorem writeByte_any (B b : Nat) (bs : List Value) (c : Int) (w : World) (h : Bld B b bs w) (hlen : bs.length ≤ 1000000000) (hBw : B ≤ w.heap.size) :
    Calls Tryz.prog 70 #[.pointer (some ⟨b, 0, none⟩), .int .u8 c] w fun e w' => e = .returned .nilIface ∧ BldAt B b (bs ++ [.int .u8 c]) w' ∧ Below B w w' ∧ KeepT w w' := by
  obtain ⟨i0, hi, hz0, hz1, hz2⟩ := info_parts Tryz.infoByte
  go_enter Tryz.func70, Tryz.ntmps70
  go_wp2_with fail
  refine (check_any B b bs _ h).mono ?_
  rintro e w1 ⟨rfl, ⟨hB, v, hbk, hown, hne⟩, hb1, hk1⟩
  have c0 : w1.cell? ⟨b, 0, none⟩ = some (.pointer (some ⟨b, 0, none⟩)) := by rw [Lib.cell_of_heap hbk]; rfl
  have c1 : w1.cell? ⟨b, 1, none⟩ = some v := by rw [Lib.cell_of_heap hbk]; rfl
  have hs1 := hb1.size
  have hbk' : (w1.alloc (.cells #[.int .u8 c] 5)).heap[b]? = some (.cells #[.pointer (some ⟨b, 0, none⟩), v] 80 (0, 0)) := by
    rw [Lib.alloc_old w1 _ b (by
      rcases Nat.lt_or_ge b w1.heap.size with h' | h'
      · exact h'
      · simp [Array.getElem?_eq_none h'] at hbk)]
    exact hbk
  go_wp2_with (at_builtin; refine wpList_append_own_at _ rfl _ _ 77 rfl B 5 i0 (.int .u8 0) 1 1 Tryz.underlying77 hi hz0 hz1 hz2 rfl (by decide) _ _ _ rfl (hown.alloc _) ⟨w1.heap.size, 0, none⟩ 1 1 [.int .u8 c] rfl rfl ?c1 ?c2 ?c3 ?c4 ?c5 ?_)
  case c1 => exact cell_one_new _ _ _
  case c2 => intro u hu; simp at hu; subst hu; rfl
  case c3 => unfold maxLen; omega
  case c4 => omega
  case c5 => rw [World.size_alloc]; omega
  intro v' w2 hown' hgrow _ _
  obtain ⟨hb2, hlt⟩ := bld_block hbk' hgrow hne
  have d0 : w2.cell? ⟨b, 0, none⟩ = some (.pointer (some ⟨b, 0, none⟩)) := by rw [Lib.cell_of_heap hb2]; rfl
  have d1 : w2.cell? ⟨b, 1, none⟩ = some v := by rw [Lib.cell_of_heap hb2]; rfl
  have f1 : w2.frozen? ⟨b, 1, none⟩ = false := Lib.frozen_of_heap hb2 1
  obtain ⟨g, cap, rfl⟩ : ∃ g cap, v' = .slice (some ⟨g, 0, none⟩) (bs.length + 1) cap := by
    rcases hown'.2 with ⟨_, h0⟩ | ⟨g, cap, cur, hv, _⟩
    · omega
    · exact ⟨g, cap, hv⟩
  go_wp2
  go_ret
  refine ⟨rfl, Lib.BuilderAt.put hB hb2 (bs' := bs ++ [.int .u8 c]) (by simpa using hown') (by decide), ?_, ((hk1.trans (KeepT.below (below1 _ _))).trans (KeepT.grown (hown.alloc _) hgrow)).trans (KeepT.set hb2 _)⟩
  exact ((hb1.alloc (by omega) _).grown hgrow (by rw [World.size_alloc]; omega) (fun k hk => (hown.lt k hk).1)).setCell (p := ⟨b, 1, none⟩) hB _

set_option maxRecDepth 100000 in
set_option maxHeartbeats 2000000 in
theorem writeString_any (B b : Nat) (bs : List Value) (s : ByteArray) (w : World) (h : Bld B b bs w) (hlen : bs.length + s.size ≤ 1000000000) (hBw : B ≤ w.heap.size) :
    Calls Tryz.prog 73 #[.pointer (some ⟨b, 0, none⟩), .string s] w fun e w' => e = .returned (.tuple #[.int .i64 s.size, .nilIface]) ∧ BldAt B b (bs ++ Lib.strCells s) w' ∧ Below B w w' ∧ KeepT w w' := by
  obtain ⟨i0, hi, hz0, hz1, hz2⟩ := info_parts Tryz.infoByte
  go_enter Tryz.func73, Tryz.ntmps73
  go_wp2_with fail
  refine (check_any B b bs _ h).mono ?_
  rintro e w1 ⟨rfl, ⟨hB, v, hbk, hown, hne⟩, hb1, hk1⟩
  have c0 : w1.cell? ⟨b, 0, none⟩ = some (.pointer (some ⟨b, 0, none⟩)) := by rw [Lib.cell_of_heap hbk]; rfl
  have c1 : w1.cell? ⟨b, 1, none⟩ = some v := by rw [Lib.cell_of_heap hbk]; rfl
  have hs1 := hb1.size
  go_wp2_with (at_builtin; refine Lib.wpList_append_own_string _ rfl _ _ 77 9 rfl B 5 i0 Tryz.underlying77 Tryz.underlying9 hi hz0 hz1 hz2 _ _ _ rfl hown s rfl ?c3 ?c4 ?c5 ?_)
  case c3 => unfold maxLen; omega
  case c4 => omega
  case c5 => omega
  intro v' w2 hown' hgrow _
  obtain ⟨hb2, hlt⟩ := bld_block hbk hgrow hne
  have d0 : w2.cell? ⟨b, 0, none⟩ = some (.pointer (some ⟨b, 0, none⟩)) := by rw [Lib.cell_of_heap hb2]; rfl
  have d1 : w2.cell? ⟨b, 1, none⟩ = some v := by rw [Lib.cell_of_heap hb2]; rfl
  have f1 : w2.frozen? ⟨b, 1, none⟩ = false := Lib.frozen_of_heap hb2 1
  obtain ⟨ao, n', cap, rfl⟩ : ∃ ao n' cap, v' = .slice ao n' cap := by
    rcases hown'.2 with ⟨hv, _⟩ | ⟨g, cap, cur, hv, _⟩
    · exact ⟨_, _, _, hv⟩
    · exact ⟨_, _, _, hv⟩
  go_wp2
  go_ret2
  refine ⟨rfl, Lib.BuilderAt.put hB hb2 (bs' := bs ++ Lib.strCells s) (by simpa [Lib.strCells_length] using hown') (by decide), ?_, (hk1.trans (KeepT.grown hown hgrow)).trans (KeepT.set hb2 _)⟩
  exact (hb1.grown hgrow (by omega) (fun k hk => (hown.lt k hk).1)).setCell (p := ⟨b, 1, none⟩) hB _
end Go.Proofs.YtcljkdninmldiaaGreatDoor

namespace Go.Proofs.YtcljkdninmldiaaGreatDoor
open Go.RowKit

def pad9 (d : Nat) : List UInt8 := Lib.repeatL [48] (9 - (Lib.decDigits d).length) ++ Lib.decDigits d
/-- The text of the groups, the least one first in the list. -/
def prS : List Nat → List UInt8
  | [] => []
  | d :: l => prS l ++ (if l = [] then Lib.decDigits d else pad9 d)
def sgnT (g : Bool) : List UInt8 := if g then [45] else []
def prZ (z : Int) : List UInt8 := if z = 0 then [48] else sgnT (sg z) ++ prS (gs z.natAbs)

theorem nDigits_le : ∀ (k u : Nat), 1 ≤ k → u < 10 ^ k → Lib.nDigits u ≤ k
  | 0, _, h, _ => absurd h (by omega)
  | k + 1, u, _, h => by
    by_cases h1 : u < 10
    · rw [Lib.nDigits_small h1]; omega
    · rw [Lib.nDigits_big h1]
      have hk : 1 ≤ k := by
        rcases k with _ | k
        · simp at h; omega
        · omega
      have := nDigits_le k (u / 10) hk (by rw [Nat.pow_succ] at h; omega)
      omega
theorem dec9 {d : Nat} (h : d < 1000000000) : 1 ≤ (Lib.decDigits d).length ∧ (Lib.decDigits d).length ≤ 9 := by
  rw [Lib.decDigits_length]
  exact ⟨Lib.nDigits_pos d, nDigits_le 9 d (by omega) (by omega)⟩
theorem pad9_len {d : Nat} (h : d < 1000000000) : (pad9 d).length = 9 := by
  have := dec9 h
  unfold pad9
  rw [List.length_append, Lib.repeatL_length]; simp; omega
theorem gs_lt {N : Nat} : ∀ d ∈ gs N, d < 1000000000 := by
  induction N using Nat.strongRecOn with
  | _ N ih =>
    intro d hd
    by_cases h0 : N = 0
    · subst h0; rw [gs_zero] at hd; simp at hd
    · rw [gs_pos h0] at hd
      rcases List.mem_cons.1 hd with rfl | hd
      · exact Nat.mod_lt _ (by omega)
      · exact ih _ (Nat.div_lt_self (by omega) (by omega)) d hd
theorem prS_len : ∀ {l : List Nat}, (∀ d ∈ l, d < 1000000000) → (prS l).length ≤ 9 * l.length
  | [], _ => by simp [prS]
  | d :: l, h => by
    have h1 := prS_len (l := l) (fun x hx => h x (List.mem_cons_of_mem _ hx))
    have h2 := dec9 (h d List.mem_cons_self)
    have h3 := pad9_len (h d List.mem_cons_self)
    unfold prS
    rw [List.length_append, List.length_cons]
    split <;> omega
theorem strCells_mk (l : List UInt8) : Lib.strCells ⟨l.toArray⟩ = Lib.byteCells l := by simp [Lib.strCells, Lib.byteCells]
theorem byteCells_append (l m : List UInt8) : Lib.byteCells l ++ Lib.byteCells m = Lib.byteCells (l ++ m) := by simp [Lib.byteCells]
theorem prS_last {L : List Nat} {g : Nat} (h : g + 1 = L.length) : prS (L.drop g) = prS (L.drop (g + 1)) ++ Lib.decDigits (L.getD g 0) := by
  rw [List.drop_eq_getElem_cons (by omega : g < L.length)]
  have h0 : L.drop (g + 1) = [] := List.drop_eq_nil_of_le (by omega)
  rw [h0]; simp [prS, List.getD, List.getElem?_eq_getElem (by omega : g < L.length)]
theorem prS_step {L : List Nat} {g : Nat} (h : g + 1 < L.length) : prS (L.drop g) = prS (L.drop (g + 1)) ++ pad9 (L.getD g 0) := by
  rw [List.drop_eq_getElem_cons (by omega : g < L.length)]
  have h0 : L.drop (g + 1) ≠ [] := by
    intro e
    have := congrArg List.length e
    rw [List.length_drop] at this; simp at this; omega
  rw [prS, if_neg h0]; simp [List.getD, List.getElem?_eq_getElem (by omega : g < L.length)]
theorem tab_keep {w w' : World} {name : String} {k : IntKind} {zs : List Int} (h : Lib.TabIs Tryz.prog w name k zs) (hb : Below w.heap.size w w') : Lib.TabIs Tryz.prog w' name k zs := by
  unfold Lib.TabIs World.var? at h ⊢
  cases hg : Tryz.prog.globalNamed name with
  | none => rw [hg] at h; cases h
  | some g =>
    rw [hg] at h
    simp only [Option.bind_some] at h ⊢
    rw [hb.block g (by
      rcases Nat.lt_or_ge g w.heap.size with h' | h'
      · exact h'
      · rw [Array.getElem?_eq_none h'] at h; cases h)]
    exact h

theorem bld_below {B b : Nat} {bs : List Value} {w w' : World} (h : Bld B b bs w) (hb : Below w.heap.size w w') : Bld B b bs w' := by
  rcases h with ⟨hB, v, h1, h2, h3⟩ | ⟨hB, v, h1, h2, h3⟩
  · exact Or.inl ⟨hB, v, (hb.block b (heap_lt h1)).trans h1, h2.kept (grown_of_below hb none) (by cases hv : v.ownBlock <;> simp), h3⟩
  · exact Or.inr ⟨hB, v, (hb.block b (heap_lt h1)).trans h1, h2.kept (grown_of_below hb none) (by cases hv : v.ownBlock <;> simp), h3⟩

set_option maxRecDepth 100000 in
set_option maxHeartbeats 3200000 in
theorem print_any (v : Value) (z : Int) (k : Nat) (w : World) (h : IsInt v z k) (htab : Lib.TabIs Tryz.prog w "internal/strconv.uint64pow10" .u64 Lib.pow10Tab) :
    Calls Tryz.prog 38 #[v] w fun e w' => e = .returned (.string ⟨(prZ z).toArray⟩) ∧ Below w.heap.size w w' := by
  obtain ⟨na, sa, rfl, hz, hs, hk, hkk⟩ := h
  have HN : Hid (vB sa.data.toList = z.natAbs) := by show _ = _; rw [← natAbs_zv na sa, hz]
  have Hk : Hid (z.natAbs < 4294967296 ^ k) := hk
  have Htab : Hid (Lib.TabIs Tryz.prog w "internal/strconv.uint64pow10" .u64 Lib.pow10Tab) := htab
  have hb0 := below1 w (.cells #[.bool na, .string sa] 23)
  have c1 : (w.alloc (.cells #[.bool na, .string sa] 23)).cell? ⟨w.heap.size, 0, none⟩ = some (.bool na) := by simp [go_sem]
  by_cases h0 : z = 0
  · have hp : Hid (prZ z = [48]) := by show _ = _; unfold prZ; rw [if_pos h0]
    have h00 : z.natAbs = 0 := by omega
    clear hz hk htab
    go_enter Tryz.func38, Tryz.ntmps38
    go_wp2_with fail
    refine (magnitude_any _ sa _ (by omega)).mono ?_
    rintro e W1 ⟨A, n, c, rfl, i1, b1⟩
    rw [HN.out, h00] at i1
    obtain rfl := (nat_none i1).2 rfl
    go_wp2
    go_ret
    exact ⟨by rw [hp.out]; rfl, below_more hb0 (Nat.le_refl _) b1⟩
  · have hp : Hid (prZ z = sgnT na ++ prS (gs z.natAbs)) := by
      show _ = _
      unfold prZ
      rw [if_neg h0, ← hz, sg_zv na sa (by rw [HN.out]; omega)]
    have h00 : z.natAbs ≠ 0 := by omega
    clear hz hk htab
    go_enter Tryz.func38, Tryz.ntmps38
    go_wp2_with fail
    refine (magnitude_any _ sa _ (by omega)).mono ?_
    rintro e W1 ⟨A, n, c, rfl, i1, b1⟩
    rw [HN.out] at i1
    have hn0 : 0 < n := by have := mt (nat_none i1).1 h00; omega
    have hb1 := below_more hb0 (Nat.le_refl _) b1
    have y1 := cell_keep c1 b1
    have hs0 : w.heap.size + 1 ≤ W1.heap.size := by have := b1.size; rw [World.size_alloc] at this; exact this
    have hs1 : w.heap.size < W1.heap.size := hs0
    have hs2 : w.heap.size ≠ W1.heap.size := by omega
    have hfr := Lib.fresh_isBuilder 80 5 W1
    clear c1 b1 hb0
    generalize z.natAbs = M at *
    go_upto_if 14 with fail
    go_cut [4] (fun s4 wx => s4 = .pointer (some ⟨W1.heap.size, 0, none⟩) ∧ Bld W1.heap.size W1.heap.size (Lib.byteCells (sgnT na)) wx ∧ Below W1.heap.size W1 wx)
    case first =>
      cases na with
      | false =>
        go_wp2_with fail
        go_meet
        exact ⟨rfl, hfr, below1 _ _⟩
      | true =>
        go_wp2_with fail
        refine (writeByte_any _ _ _ 45 _ hfr (by simp) (by rw [World.size_alloc]; omega)).mono ?_
        rintro e W2 ⟨rfl, h2, b2, _⟩
        go_wp2_with fail
        go_meet
        exact ⟨rfl, Or.inr h2, (below1 _ _).trans b2⟩
    case rest =>
      obtain ⟨rfl, hB, hbB⟩ := hcut
      have i2 := i1.below (Nat.le_refl _) hbB
      have hbw := hb1.trans (hbB.mono (Nat.le_of_lt hs1))
      have hbs := hbB.size
      have HP : Hid (prZ z = sgnT na ++ prS (gs M)) := hp.out
      have hroom := gs_room Hk.out
      have Hlt : Hid (∀ d ∈ gs M, d < 1000000000) := gs_lt
      have Hne : Hid (gs M ≠ []) := by show _ ≠ _; rw [gs_pos h00]; simp
      go_wp2_with fail
      refine (groups_any A n c M k _ i2 Hk.out hkk).mono ?_
      rintro e W3 ⟨v, rfl, hown, b3⟩
      have hB3 := bld_below hB b3
      have hbw3 := below_more hbw (Nat.le_refl _) b3
      have hbs3 : W1.heap.size ≤ W3.heap.size := Nat.le_trans hbs b3.size
      clear i1 i2 hB hbB hb1 y1 hfr hp hbw b3 hs0 hbs h00 h0
      generalize gs M = L at *
      generalize W1.heap.size = b at *
      have hL0 : 0 < L.length := List.length_pos_iff.2 Hne.out
      obtain ⟨gb, cap, cur, rfl, hgb, hcell⟩ : ∃ gb cap cur, v = .slice (some ⟨gb, 0, none⟩) L.length cap ∧ W3.heap[gb]? = some (.cells cur 63 (0, 0)) ∧ ∀ g, g < L.length → cur[g]? = some (.int .u32 ((L.getD g 0 : Nat) : Int)) := by
        rcases hown.2 with ⟨_, h0⟩ | ⟨gb, cap, cur, hv, _, hgb, _, _, _, htk⟩
        · omega
        · refine ⟨gb, cap, cur, hv, hgb, fun g hg => ?_⟩
          have h1 : (cur.toList.take (L.length * 1))[g]? = (gvs L)[g]? := by rw [htk]
          rw [List.getElem?_take, if_pos (by omega)] at h1
          rw [← Array.getElem?_toList, h1]
          simp [gvs, List.getD, List.getElem?_eq_getElem hg]
      clear hown
      go_wp2_with fail
      go_loopg [6] L.length (fun g s6 wx => g ≤ L.length ∧ s6 = .int .i64 ((g : Int) - 1) ∧ Bld b b (Lib.byteCells (sgnT na ++ prS (L.drop g))) wx ∧ Below w.heap.size w wx ∧ b ≤ wx.heap.size ∧ wx.heap[gb]? = some (.cells cur 63 (0, 0)))
      case atStart => exact ⟨Nat.le_refl _, by go_num, by rw [List.drop_length]; simpa [prS] using hB3, hbw3, hbs3, hgb⟩
      case round =>
        clear hB3 hbw3 hbs3 hgb
        obtain ⟨hg, rfl, hB, hbw, hbs, hgb⟩ := hrel
        rcases gk with _ | g
        · go_wp2_with fail
          refine (Tryz.Builder_String_any _ _ _ _ hB hbs).mono ?_
          rintro e W4 ⟨rfl, b4⟩
          go_wp2
          go_ret
          exact ⟨by rw [HP.out]; rfl, hbw.trans (b4.mono (by omega))⟩
        · have hx : wr.cell? ⟨gb, g, none⟩ = some (.int .u32 ((L.getD g 0 : Nat) : Int)) := by rw [Lib.cell_of_heap hgb]; exact hcell g (by omega)
          have HD : Hid (L.getD g 0 < 1000000000) := by
            refine Hlt.out _ ?_
            rw [List.getD_eq_getElem?_getD, List.getElem?_eq_getElem (by omega : g < L.length)]
            exact List.getElem_mem _
          have hd := HD.out
          obtain ⟨d, hdd⟩ : ∃ d, d = L.getD g 0 := ⟨_, rfl⟩
          rw [← hdd] at hx hd
          have Hd : Hid (d = L.getD g 0) := hdd
          clear hdd HD
          go_wp2_with fail
          refine (Tryz.strconv_Itoa (d : Int) (by omega) (by omega) _ (tab_keep Htab.out hbw)).mono ?_
          rintro e W4 ⟨rfl, q, os, hw⟩
          have b4 : Below wr.heap.size wr W4 := by rw [hw]; exact Lib.below_grow _ _ (Nat.le_refl _) _ _
          clear hw
          rw [Lib.itoa_nonneg]
          obtain ⟨s, hs⟩ : ∃ s : ByteArray, s = ⟨(Lib.decDigits d).toArray⟩ := ⟨_, rfl⟩
          rw [← hs]
          have Hs : Hid (Lib.strCells s = Lib.byteCells (Lib.decDigits d)) := by show _ = _; rw [hs, strCells_mk]
          have Hz : Hid ((Lib.decDigits d).length = s.size) := by show _ = _; rw [hs]; simp [ByteArray.size]
          have hz1 : 1 ≤ s.size := by rw [← Hz.out]; exact (dec9 hd).1
          have hz9 : s.size ≤ 9 := by rw [← Hz.out]; exact (dec9 hd).2
          have hB4 := bld_below hB b4
          have hbw4 := below_more hbw (Nat.le_refl _) b4
          have hbs4 : b ≤ W4.heap.size := Nat.le_trans hbs b4.size
          have hgb4 := (b4.block gb (heap_lt hgb)).trans hgb
          have hlen : (Lib.byteCells (sgnT na ++ prS (L.drop (g + 1)))).length ≤ 900000000 := by
            rw [Lib.byteCells_length, List.length_append]
            have h1 : (sgnT na).length ≤ 1 := by cases na <;> simp [sgnT]
            have h2 := prS_len (l := L.drop (g + 1)) (fun x hx => Hlt.out x (List.mem_of_mem_drop hx))
            rw [List.length_drop] at h2
            omega
          clear hs hB hbw hbs hgb hx b4
          by_cases hlast : g + 1 = L.length
          · have HL : Hid (prS (L.drop g) = prS (L.drop (g + 1)) ++ Lib.decDigits d) := by rw [Hd.out]; exact prS_last hlast
            have hnl : ¬ ((g : Int) + 1 - 1 < (L.length : Int) - 1) := by omega
            go_wp2_with fail
            refine (writeString_any _ _ _ s _ hB4 (by omega) hbs4).mono ?_
            rintro e W5 ⟨rfl, h5, b5, k5⟩
            rw [Hs.out, byteCells_append, List.append_assoc, ← HL.out] at h5
            have hgb5 := k5 _ _ _ _ hgb4 (by decide) (by decide)
            have hbs5 : b ≤ W5.heap.size := Nat.le_trans hbs4 b5.size
            have hbw5 := hbw4.trans (b5.mono (by omega))
            clear hB4 hgb4 hbw4 k5 hbs4 hlen b5
            go_wp2
            go_roundg g
            case measure => omega
            case rel => exact ⟨by omega, by go_num, Or.inr h5, hbw5, hbs5, hgb5⟩
          · have HL : Hid (prS (L.drop g) = prS (L.drop (g + 1)) ++ (Lib.repeatL [48] (9 - s.size) ++ Lib.decDigits d)) := by
              show _ = _
              rw [← Hz.out, Hd.out]; exact prS_step (by omega)
            have hnl : (g : Int) + 1 - 1 < (L.length : Int) - 1 := by omega
            go_wp2_with fail
            rw [show (9 : Int) - (s.size : Int) = ((9 - s.size : Nat) : Int) by omega]
            refine (Tryz.strings_Repeat ⟨#[48]⟩ (9 - s.size) _ (by omega) (by show 1 * (9 - s.size) ≤ _; omega)).mono ?_
            rintro e W5 ⟨rfl, b5⟩
            obtain ⟨t, ht⟩ : ∃ t : ByteArray, t = ⟨(Lib.repeatL (⟨#[48]⟩ : ByteArray).data.toList (9 - s.size)).toArray⟩ := ⟨_, rfl⟩
            rw [← ht]
            have Ht : Hid (Lib.strCells t = Lib.byteCells (Lib.repeatL [48] (9 - s.size))) := by show _ = _; rw [ht, strCells_mk]
            have ht9 : t.size ≤ 9 := by
              rw [ht]
              show (Lib.repeatL [48] (9 - s.size)).toArray.size ≤ 9
              rw [List.size_toArray, Lib.repeatL_length]; simp
            clear ht
            have hB5 := bld_below hB4 b5
            have hbw5 := below_more hbw4 (Nat.le_refl _) b5
            have hbs5 : b ≤ W5.heap.size := Nat.le_trans hbs4 b5.size
            have hgb5 := (b5.block gb (heap_lt hgb4)).trans hgb4
            clear hB4 hbw4 hbs4 hgb4 b5
            go_wp2_with fail
            refine (writeString_any _ _ _ t _ hB5 (by omega) hbs5).mono ?_
            rintro e W6 ⟨rfl, h6, b6, k6⟩
            have hgb6 := k6 _ _ _ _ hgb5 (by decide) (by decide)
            have hbs6 : b ≤ W6.heap.size := Nat.le_trans hbs5 b6.size
            have hbw6 := hbw5.trans (b6.mono (by omega))
            have hlen6 : (Lib.byteCells (sgnT na ++ prS (L.drop (g + 1))) ++ Lib.strCells t).length ≤ 900000009 := by
              rw [List.length_append, Lib.strCells_length]; omega
            clear hB5 hbw5 hbs5 hgb5 k6 b6 hlen
            go_wp2_with fail
            refine (writeString_any _ _ _ s _ (Or.inr h6) (by omega) hbs6).mono ?_
            rintro e W7 ⟨rfl, h7, b7, k7⟩
            rw [Hs.out, Ht.out, byteCells_append, byteCells_append, List.append_assoc, List.append_assoc, ← HL.out] at h7
            have hgb7 := k7 _ _ _ _ hgb6 (by decide) (by decide)
            have hbs7 : b ≤ W7.heap.size := Nat.le_trans hbs6 b7.size
            have hbw7 := hbw6.trans (b7.mono (by omega))
            clear h6 hgb6 hbw6 k7 hbs6 hlen6 b7
            go_wp2
            go_roundg g
            case measure => omega
            case rel => exact ⟨by omega, by go_num, Or.inr h7, hbw7, hbs7, hgb7⟩
end Go.Proofs.YtcljkdninmldiaaGreatDoor

namespace Go.Proofs.YtcljkdninmldiaaGreatDoor
open Go.RowKit

theorem gs_two64 : gs 18446744073709551616 = [709551616, 446744073, 18] := by
  rw [gs_pos (by omega), gs_pos (by omega), gs_pos (by omega), gs_zero]

theorem two64_text : (⟨(prZ 18446744073709551616).toArray⟩ : ByteArray) = ⟨#[49, 56, 52, 52, 54, 55, 52, 52, 48, 55, 51, 55, 48, 57, 53, 53, 49, 54, 49, 54]⟩ := by
  have h0 : prZ 18446744073709551616 = prS [709551616, 446744073, 18] := by
    unfold prZ
    rw [if_neg (by decide)]
    show sgnT (sg 18446744073709551616) ++ prS (gs 18446744073709551616) = _
    rw [gs_two64]
    rfl
  rw [h0]
  simp [prS, pad9, Lib.decDigits, Lib.repeatL]

theorem eqlInt (a b : Bool) (s t : ByteArray) (w : World) : (binOp .eql 23 (.agg #[.bool a, .string s]) (.agg #[.bool b, .string t])).run Tryz.prog w = .ok (.bool (a == b && s.toList == t.toList)) w := by
  rw [run_eql_struct, run_equalIn_agg w 9999 23 _ _ (by kernel_rfl) (by kernel_rfl), Tryz.fieldsInt]
  simp only [Op.eqFields]
  rw [if_pos (by decide)]
  rw [if_pos (by decide)]
  simp only [Sem.run_bind, part0, eq0, Result.andThen]
  cases a == b
  · rfl
  · simp only [Bool.not_true, Bool.true_and, if_neg (show ¬ (false = true) by decide), Sem.run_bind, part1, eq1, Result.andThen]
    cases s.toList == t.toList <;> rfl
end Go.Proofs.YtcljkdninmldiaaGreatDoor
