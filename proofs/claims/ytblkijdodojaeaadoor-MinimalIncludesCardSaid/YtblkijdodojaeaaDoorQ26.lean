/- Lists of bytes among a law's arguments, opened. No condition. What slices.Repeat of one int returns. Condition: the int can be read. SubsetFoci, where Focus returns no error. Conditions: the edges and the labels can be read; the library's table reads as its text lays it. -/
import Derived.Test.YtblkijdodojaeaaDoorQ25
import Derived.ChangeSlices
import Derived.Test.YtblkijdodojaeaaDoorQ23
import Derived.Test.YtblkijdodojaeaaDoorQ22
import Derived.Test.YtblkijdodojaeaaDoorQ24

namespace Go.Proofs.YtblkijdodojaeaaDoor
open Go.ChangeShapes Go.WideShapes Go.ChangeAt Go.RowKit Go.Deep
set_option maxRecDepth 100000
set_option linter.unusedVariables false

/-- A list of bytes that can be read. -/
def BysRd (W : World) (v : Value) (l : List Nat) : Prop := ∃ a c, v = .slice a l.length c ∧ l.length ≤ c ∧ c ≤ 9223372036854775807 ∧ (∀ x ∈ l, x < 256) ∧ ∀ (i : Nat) (x : Nat), l[i]? = some x → ∃ b off, a = some ⟨b, off, none⟩ ∧ W.cell? ⟨b, off + i, none⟩ = some (.int .u8 (x : Int))
theorem BysRd.keep {W W' : World} {v : Value} {l : List Nat} (h : BysRd W v l) (hb : Below W.heap.size W W') : BysRd W' v l := by
  obtain ⟨a, c, hv, h1, h2, h3, h4⟩ := h
  refine ⟨a, c, hv, h1, h2, h3, fun i x hx => ?_⟩
  obtain ⟨b, off, e, k⟩ := h4 i x hx
  exact ⟨b, off, e, cell_keep k hb⟩
theorem cellU8s : Tryd.prog.cellsOf 5 = 1 := by kernel_rfl
theorem bytes_open {H : Type} {enc : TypeId × Value → H} {W : World} {v : Value} {d : DataW H} {p : List MemPlace} (hv : Value.okWide Tryd.prog W .any 0 25 v)
    (h : DataW.Trod enc Tryd.prog W 0 (fun _ => true) true 25 v d p) : ∃ l, BysRd W v l := by
  obtain ⟨a0, len0, cap0, rfl⟩ := okWide_slice Tryd.underlying25 hv
  obtain ⟨fuel, hf⟩ := h
  rcases Go.ChangeShapes.open_ints Tryd.underlying25 Tryd.underlying5 cellU8s hf with ⟨hc, -⟩ | ⟨a, len, cap, zs, hc, -, hl, hm, hz, -, hall, hwf⟩
  · simp [Value.cells] at hc
    obtain ⟨rfl, rfl, rfl⟩ := hc
    exact ⟨[], none, 0, rfl, Nat.le_refl _, by omega, (fun x hx => by cases hx), (fun i x hx => by cases hx)⟩
  · simp [Value.cells] at hc
    obtain ⟨rfl, rfl, rfl⟩ := hc
    simp only [if_true] at hz
    have hcap : cap0 ≤ 9223372036854775807 := by unfold maxLen at hm; exact hm
    have hlt : ((zs.take len0).map Int.toNat).length = len0 := by rw [List.length_map, List.length_take]; omega
    have hbd : ∀ n ∈ zs, 0 ≤ n ∧ n < 256 := fun n hn => by
      have := hwf n hn
      simp [Lit.wf, IntKind.min, IntKind.max, IntKind.signed, IntKind.bits] at this
      omega
    refine ⟨(zs.take len0).map Int.toNat, some a, cap0, by rw [hlt], by rw [hlt]; omega, hcap, fun x hx => ?_, fun i x hx => ?_⟩
    · obtain ⟨n, hn, rfl⟩ := List.mem_map.1 hx
      have := hbd n (List.mem_of_mem_take hn)
      omega
    have hi : i < len0 := by
      have := (List.getElem?_eq_some_iff.1 hx).1
      rwa [hlt] at this
    rw [List.getElem?_map, List.getElem?_take_of_lt hi] at hx
    have hsp := World.cell?_spot (hall 0 (by omega))
    obtain ⟨ab, ao, sp⟩ := a
    obtain rfl : sp = none := by simpa [Addr.add] using hsp
    have h1 := hall i (by omega)
    rw [add_plain] at h1
    refine ⟨ab, ao, rfl, ?_⟩
    have hg : zs[i]? = some zs[i] := List.getElem?_eq_getElem (by omega)
    rw [hg] at hx
    injection hx with hx
    have hb2 := hbd zs[i] (List.getElem_mem _)
    rw [h1, List.getD_eq_getElem?_getD, hg, ← hx]
    show some (Value.int .u8 zs[i]) = some (.int .u8 (zs[i].toNat : Int))
    rw [Int.toNat_of_nonneg hb2.1]
theorem bytes_keep {H : Type} {enc : TypeId × Value → H} {W W' : World} {v : Value} {d : DataW H} {p : List MemPlace} (h : DataW.Trod enc Tryd.prog W 0 (fun _ => true) true 25 v d p) (hb : Below W.heap.size W W') (hlt : ∀ x ∈ p, x.block < W.heap.size) :
    DataW.Trod enc Tryd.prog W' 0 (fun b => decide (b < W.heap.size)) true 25 v d p :=
  Below.trod Tryd.laidOut (by kernel_rfl) (of_decide_eq_true (by kernel_rfl)) h hb hlt
end Go.Proofs.YtblkijdodojaeaaDoor

namespace Go.Proofs.YtblkijdodojaeaaDoor
open Go.RowKit
set_option linter.unusedSimpArgs false
set_option linter.unusedVariables false

theorem make_ints4 (n : Nat) (hn : n ≤ 100000) (W : World) : (Instr.makeSlice 28 (.int .i64 (n : Int)) (.int .i64 (n : Int))).run Tryd.prog W = .ok (.slice (some ⟨W.heap.size, 0, none⟩) n n) (W.alloc (.cells (madeCells #[(.int .i64 0)] n) 3)) :=
  run_make_row' _ _ _ 8 Tryd.underlying28 Tryd.infoI64 rfl _ _ n (by omega) (by omega) W
structure CI4 (w : World) (z : Int) (R n k : Nat) (W : World) : Prop where
  b : Below w.heap.size w W
  r : W.rowIs R 3 n (fun j => if j < k then (.int .i64 z) else .int .i64 0)
theorem infoInts4 : (Tryd.prog.info? 3).map (·.size) = some 1 := by kernel_rfl
theorem sizeInt4 : ∀ w, (Go.sizeOf 3).run Tryd.prog w = .ok 1 w := fun w => by kernel_rfl
set_option maxRecDepth 100000 in
theorem copy_ints4 {w W : World} {z : Int} {R n k : Nat} (h : CI4 w z R n k W) (hR : w.heap.size ≤ R) (hk : k ≤ n) (a : Addr) (sLen cap : Nat) (ty : TypeId) (m : Nat) (hm : m = Nat.min sLen (n - k)) (hc : ∀ j, j < m → W.cell? (a.add j) = some (.int .i64 z)) :
    ∃ W', (Builtin.copy_ #[28, 28] ty #[.slice (some ⟨R, k, none⟩) (n - k) (n - k), .slice (some a) sLen cap]).run Tryd.prog W = .ok (.int .i64 (m : Int)) W' ∧ CI4 w z R n (k + m) W' := by
  have hm2 : m ≤ n - k := by rw [hm]; exact Nat.min_le_right _ _
  have hr := run_copy_cells (P := Tryd.prog) W 28 28 ty 3 R k (n - k) (n - k) a sLen cap (List.replicate m (.int .i64 z)) Tryd.underlying28 infoInts4 (by rw [List.length_replicate]; exact hm)
    (fun j u hj => by
      have hj2 : j < m := by have := (List.getElem?_eq_some_iff.1 hj).1; rwa [List.length_replicate] at this
      rw [List.getElem?_replicate, if_pos hj2] at hj
      injection hj with hj
      subst hj
      exact hc j hj2)
    (fun j hj => by rw [List.length_replicate] at hj; rw [World.rowIs.cell h.r (show k + j < n by omega)]; rfl) (fun j hj => by rw [List.length_replicate] at hj; exact World.rowIs.frozen h.r _)
    (fun u hu => by rw [List.eq_of_mem_replicate hu]; rfl)
  rw [List.length_replicate] at hr
  refine ⟨_, hr, ?_⟩
  refine ⟨Lib.below_setCells R hR _ _ h.b, World.rowIs.congr (rowIs_rep _ m k W _ h.r) (fun i _ => ?_)⟩
  by_cases h1 : k ≤ i ∧ i < k + m
  · rw [if_pos h1]
    rw [if_pos (by omega)]
  · rw [if_neg h1]
    by_cases h2 : i < k
    · rw [if_pos h2, if_pos (by omega)]
    · rw [if_neg h2, if_neg (by omega)]
theorem CI4.drew {w W : World} {z : Int} {R n k : Nat} (h : CI4 w z R n k W) : CI4 w z R n k W.drew := ⟨h.b.drew, h.r⟩
set_option maxRecDepth 100000 in
set_option maxHeartbeats 6400000 in
theorem repeatC_any (n b cap : Nat) (z : Int) (w : World) (hn : n ≤ 256) (hcell : w.cell? ⟨b, 0, none⟩ = some (.int .i64 z)) :
    Calls Tryd.prog 61 #[.slice (some ⟨b, 0, none⟩) 1 cap, .int .i64 (n : Int)] w fun e w' => e = .returned (.slice (some ⟨w.heap.size, 0, none⟩) n n) ∧ w'.rowIs w.heap.size 3 n (fun _ => (.int .i64 z)) ∧ Below w.heap.size w w' := by
  have hM : ∀ W, Calls Tryd.prog 99 #[.int .u64 1, .int .u64 (n : Int)] W fun e w' => e = .returned (.tuple #[.int .u64 0, .int .u64 (n : Int)]) ∧ w' = W := fun W => by
    have k := Tryd.bits_Mul 1 n (by omega) (by omega) W
    rw [show 1 * n / 18446744073709551616 = 0 by omega, show 1 * n % 18446744073709551616 = n by omega] at k
    exact k
  have HM := Lib.hid hM
  clear hM
  have hmx : Tryd.prog.follows .mixedOrders = true := by kernel_rfl
  have hmk := make_ints4 n (by omega)
  have C0 : CI4 w z w.heap.size n 0 (w.alloc (.cells (madeCells #[(.int .i64 0)] n) 3)) :=
    ⟨below1 w _, World.rowIs.congr (World.rowIs_made w _ n _) (fun j _ => by rw [if_neg (by omega)])⟩
  obtain ⟨m, hm⟩ : ∃ m, m = Nat.min 1 (n - 0) := ⟨_, rfl⟩
  obtain ⟨w1, hr1, C1⟩ := copy_ints4 C0 (Nat.le_refl _) (Nat.zero_le _) ⟨b, 0, none⟩ 1 cap 3 m hm (fun j hj => by
    have h1 : m ≤ 1 := by rw [hm]; exact Nat.min_le_left _ _
    obtain rfl : j = 0 := by omega
    exact cell_keep hcell (below1 w _))
  have hm2 : m ≤ n ∧ (n = m ∨ (1 ≤ m ∧ m ≤ n)) := by
    rcases Nat.eq_zero_or_pos n with h | h
    · subst h; have : m = 0 := hm; omega
    · have : m = 1 := by rw [hm, Nat.sub_zero]; exact Nat.min_eq_left h
      omega
  rw [Nat.sub_zero] at hr1
  rw [Nat.zero_add] at C1
  have HC1 := Lib.hid C1
  have d0 : decide ((9223372036854775807 : Int) < (n : Int)) = false := decide_eq_false (by omega)
  clear C0 C1 hcell hm
  go_enter Tryd.func61, Tryd.ntmps61
  go_wp2_with (first
    | (go_at_call 99; (with_reducible refine (HM.out _).mono ?_); rintro e W0 ⟨rfl, hW⟩; (rw [hW]); (clear hW))
    | (at_builtin; refine Lib.wpList_copy_run _ rfl _ _ 28 28 rfl _ _ rfl rfl hr1 ?_))
  clear hr1 HM hmk
  go_loopg [8] n (fun q s8 wx => ∃ k : Nat, k ≤ n ∧ n - k ≤ q ∧ (n = k ∨ 1 ≤ k) ∧ s8 = .int .i64 (k : Int) ∧ Hid (CI4 w z w.heap.size n k wx))
  case atStart => exact ⟨m, hm2.1, by omega, by omega, rfl, HC1⟩
  case round =>
    clear HC1
    obtain ⟨k, hkn, hgk, hk1, rfl, HB⟩ := hrel
    by_cases hlt : k < n
    · have hmin : min (k : Int) (n : Int) = (k : Int) := by omega
      obtain ⟨m', hm'⟩ : ∃ m', m' = Nat.min k (n - k) := ⟨_, rfl⟩
      have hmk : m' ≤ k := by rw [hm']; exact Nat.min_le_left _ _
      have hmn : m' ≤ n - k := by rw [hm']; exact Nat.min_le_right _ _
      have hm1 : 1 ≤ m' := by
        rw [hm']
        exact Nat.le_min.2 ⟨by omega, by omega⟩
      obtain ⟨w2, hr2, C2⟩ := copy_ints4 HB.out.drew (Nat.le_refl _) hkn ⟨w.heap.size, 0, none⟩ k n 3 m' hm' (fun j hj => by
        rw [show (⟨w.heap.size, 0, none⟩ : Addr).add j = ⟨w.heap.size, j, none⟩ by unfold Addr.add; split <;> simp_all]
        rw [World.rowIs.cell HB.out.drew.r (show j < n by omega), if_pos (by omega)])
      have hsl1 : ∀ W, (Instr.slice 28 (.slice (some ⟨w.heap.size, 0, none⟩) n n) (some (.int .i64 (k : Int))) none none).run Tryd.prog W = .ok (.slice (some ⟨w.heap.size, k, none⟩) (n - k) (n - k)) W := fun W => by
        have h := Lib.run_slice_tailV W 28 3 Tryd.underlying28 sizeInt4 w.heap.size n k (by omega)
        unfold Lib.tailV at h
        rw [if_neg (by omega)] at h
        exact h
      have hB2 := Lib.hid C2
      have dk : (0 : Int) ≤ (k : Int) := by omega
      have hw : IntKind.i64.wrap ((k : Int) + (m' : Int)) = (k : Int) + (m' : Int) := by clear hmin; rw [IntKind.wrap_i64]; omega
      have dkn : (k : Int) ≤ (n : Int) := by omega
      clear C2 HB hm'
      go_wp2_with fail
      go_region_law (refine step_copy _ rfl (.tmp 41) (.tmp 44) 28 28 rfl (.slice (some ⟨w.heap.size, k, none⟩) (n - k) (n - k)) (.slice (some ⟨w.heap.size, 0, none⟩) k n) (by simp [Act.eval, Act.put]) (by simp [Act.eval, Act.put]) hr2 ?_)
      clear hr2 hsl1 hmin
      go_wp2
      go_roundg (n - (k + m'))
      case measure => omega
      case rel => exact ⟨k + m', by omega, by omega, by omega, by go_num, hB2⟩
    · obtain rfl : k = n := by omega
      have HB2 := Lib.hid (show wr.rowIs w.heap.size 3 k (fun _ => (.int .i64 z)) from World.rowIs.congr HB.out.r (fun i hi => by rw [if_pos hi]))
      have hb := HB.out.b
      clear HB
      go_wp2
      go_ret
      exact ⟨rfl, HB2.out, hb⟩
end Go.Proofs.YtblkijdodojaeaaDoor

namespace Go.Proofs.YtblkijdodojaeaaDoor
open Go.RowKit
set_option linter.unusedSimpArgs false
set_option linter.unusedVariables false

theorem run_min4b {P : Program} (k : IntKind) (L : Int) (m : Nat) (h : (m : Int) = min L 4) (w : World) (ts : Array TypeId) (t : TypeId) :
    (Builtin.min_ ts t #[.int k L, .int k 4]).run P w = .ok (.int k (m : Int)) w := by
  by_cases h1 : 4 < L
  · have e : (m : Int) = 4 := by omega
    simp [Builtin.min_, Builtin.min2, h1, e]
  · have e : (m : Int) = L := by omega
    simp [Builtin.min_, Builtin.min2, h1, e]
theorem Tryd.endsE (args : Array Value) (w : World) : (callFunc 32 args).run Tryd.prog w = .ok (.enter 32 args) w := by
  simp [callFunc, go_sem, Tryd.func32, Tryd.f32]
def pksN (La : Nat) (pl : List Nat) (i : Nat) : List Nat := (pl.take i).map (· % La)
theorem pksN_succ {La : Nat} {pl : List Nat} {i y : Nat} (h : pl[i]? = some y) : pksN La pl (i + 1) = pksN La pl i ++ [y % La] := by
  unfold pksN; rw [take_snoc h, List.map_append]; rfl
theorem pksN_len {La : Nat} {pl : List Nat} {i : Nat} (h : i ≤ pl.length) : (pksN La pl i).length = i := by unfold pksN; rw [List.length_map, List.length_take]; omega
theorem pksN_lt {La : Nat} (h : 1 ≤ La) (pl : List Nat) (i : Nat) : ∀ l ∈ pksN La pl i, l < La := fun l hl => by
  unfold pksN at hl
  obtain ⟨x, -, rfl⟩ := List.mem_map.1 hl
  exact Nat.mod_lt _ (by omega)
theorem labsI_snoc (w : List Nat) (l : Nat) : labsI (w ++ [l]) = labsI w ++ [(l : Int)] := by unfold labsI; rw [List.map_append]; rfl
/-- What Focus says of a graph of sets. -/
theorem foc_yes {es : List E3} {La S : Nat} {b : Bs} (h0 : S ≠ 0) (hb : builtN es La S = some b) {i : Nat} (hi : b.1.findIdx? (fun S => (memN S).length == 1) = some i) :
    ∃ w : List Nat, labF b.2 i = labsI w ∧ (∀ l ∈ w, l < La) ∧ memN (runN' es S w) = [(memN (b.1.getD i 0)).headD 0] ∧ ∀ ws : List Nat, (∀ l ∈ ws, l < La) → (memN (runN' es S ws)).length = 1 → sle (labsI w) (labsI ws) := by
  obtain ⟨h1, -⟩ := built_bfs h0 hb
  rw [List.findIdx?_eq_some_iff_getElem] at hi
  obtain ⟨hl, hp, hn⟩ := hi
  obtain ⟨w, e1, e2, e3⟩ := h1.run i hl
  have hg : b.1.getD i 0 = b.1[i] := by rw [List.getD_eq_getElem?_getD, List.getElem?_eq_getElem hl]; rfl
  refine ⟨w, e1, e2, ?_, fun ws hws h1s => ?_⟩
  · rw [e3, hg]
    rw [beq_iff_eq] at hp
    obtain ⟨x, hx⟩ := List.length_eq_one_iff.1 hp
    rw [hx]; rfl
  · have hr : runN' es S ws ≠ 0 := fun e => by
      rw [e, show memN 0 = [] by decide] at h1s
      cases h1s
    obtain ⟨k, hk, ek, hle⟩ := built_least h0 hb hws hr
    have hik : i ≤ k := by
      refine Nat.le_of_not_lt fun hlt => ?_
      have h3 := hn k hlt
      have hgk : b.1.getD k 0 = b.1[k] := by rw [List.getD_eq_getElem?_getD, List.getElem?_eq_getElem hk]; rfl
      rw [← hgk, ek, h1s] at h3
      exact absurd h3 (by decide)
    rw [← e1]
    exact sle_trans (built_asc h0 hb hik hk) hle
theorem foc_no {es : List E3} {La S : Nat} {b : Bs} (h0 : S ≠ 0) (hb : builtN es La S = some b) (hi : b.1.findIdx? (fun S => (memN S).length == 1) = none) {ws : List Nat} (hws : ∀ l ∈ ws, l < La) : (memN (runN' es S ws)).length ≠ 1 := fun h1s => by
  have hr : runN' es S ws ≠ 0 := fun e => by
    rw [e, show memN 0 = [] by decide] at h1s
    cases h1s
  obtain ⟨k, hk, ek, hle⟩ := built_least h0 hb hws hr
  rw [List.findIdx?_eq_none_iff] at hi
  have h3 := hi b.1[k] (List.getElem_mem hk)
  have hgk : b.1.getD k 0 = b.1[k] := by rw [List.getD_eq_getElem?_getD, List.getElem?_eq_getElem hk]; rfl
  rw [← hgk, ek, h1s] at h3
  exact absurd h3 (by decide)
set_option maxRecDepth 100000 in
set_option maxHeartbeats 12800000 in
theorem foci_true (La n : Nat) (es : List E3) (v vp : Value) (pl : List Nat) (w : World) (lw : List Nat) (sv : Int) (hrd : EdgesRd w v es) (hpr : BysRd w vp pl) (hT : TabD w) (hg : greatB (n : Int) es.length = false) (hvg : VG (La : Int) (n : Int) es) (hn0 : n ≠ 0)
    (hlw : lw.length ≤ 100000)
    (hfoc : focR (La : Int) (n : Int) es = (labsI lw, sv, true, 0)) (hll : ∀ l ∈ lw, l < La) (hone : memN (runN' es (fullN n) lw) = [sv]) (hle : ∀ ws : List Nat, (∀ l ∈ ws, l < La) → (memN (runN' es (fullN n) ws)).length = 1 → sle (labsI lw) (labsI ws)) :
    Calls Tryd.prog 7 #[grV (La : Int) (n : Int) v, vp] w fun e w' => e = .returned (.bool true) ∧ Below w.heap.size w w' := by
  obtain ⟨i0, hi, hz0, hz1, hz2⟩ := info_parts Tryd.infoI64
  have hn64 : n ≤ 64 := by have := hvg.s2; omega
  have hL256 : La ≤ 256 := by have := hvg.l2; omega
  have hL1 : 1 ≤ La := by have := hvg.l1; omega
  have hn : es.length ≤ 1024 := hvg.len
  have hE := Tryd.endsE
  have hmk := make_ints4 n (by omega)
  have HCK : Hid (∀ W, EdgesRd W v es → Calls Tryd.prog 31 #[grV (La : Int) (n : Int) v] W fun e W' => e = .returned (.int .i64 0) ∧ Below W.heap.size W W') := Lib.hid (fun W h => by
    refine (gcheck_any La n es v W h (by omega)).mono ?_
    rw [hvg.chk]
    exact fun e W' h => h)
  have HFO : Hid (∀ W, EdgesRd W v es → TabD W → Calls Tryd.prog 23 #[grV (La : Int) (n : Int) v] W fun e W' => ∃ a c, e = .returned (.tuple #[.slice a lw.length c, .int .i64 sv, .bool true, .int .i64 0]) ∧ IntsRd W' (.slice a lw.length c) (labsI lw) ∧ Below W.heap.size W W') := Lib.hid (fun W h1 h2 => by
    refine (Focus_any La n es v W h1 (by omega) h2).mono ?_
    rw [hfoc]
    rintro e W' ⟨u, he, h3, h4⟩
    obtain ⟨a, c, hu⟩ := h3.form
    rw [labsI_len] at hu
    subst hu
    exact ⟨a, c, he, h3, h4⟩)
  have HEN : Hid (∀ W (u : Value) (ws : List Nat) (va : Value) (pa : Nat), EdgesRd W v es → BoxG W w.heap.size (La : Int) (n : Int) v → W.cell? ⟨pa, 0, none⟩ = some va → IntsRd W va (memN (fullN n)) → IntsRd W u (labsI ws) → (∀ l ∈ ws, l < La) → ws.length ≤ 100000 →
      Calls Tryd.prog 32 #[u, .pointer (some ⟨pa, 0, none⟩), .pointer (some ⟨w.heap.size, 0, none⟩)] W fun e w' => ∃ a c, e = .returned (.slice a (memN (runN' es (fullN n) ws)).length c) ∧ IntsRd w' (.slice a (memN (runN' es (fullN n) ws)).length c) (memN (runN' es (fullN n) ws)) ∧ Below W.heap.size W w') :=
    Lib.hid (fun W u ws va pa h1 h2 h3 h4 h5 h6 h7 => ends_any La n es v va u ws (fullN n) pa w.heap.size W h1 hvg (fullN_lt hn64) (fullN_small n) h2 h3 h4 h5 h6 h7)
  have HMF := Lib.hid (memN_full hn64)
  have HLE := Lib.hid hle
  have HON := Lib.hid hone
  have HLL := Lib.hid hll
  have HEQ : Hid (∀ W u u', IntsRd W u [sv] → IntsRd W u' [sv] → Calls Tryd.prog 13 #[u, u'] W fun e W' => e = .returned (.bool true) ∧ Below W.heap.size W W') := Lib.hid (fun W u u' h1 h2 => by
    have h := intsEq_any h1 h2 (by simp) (by simp)
    rw [decide_eq_true rfl] at h
    exact h)
  have HRD := Lib.hid hrd
  have HPR := Lib.hid hpr
  have HT := Lib.hid hT
  obtain ⟨a, c, hv⟩ := hrd.form
  subst hv
  obtain ⟨a3, c3, hvp, hc3, hc3', hpb, -⟩ := id hpr
  subst hvp
  obtain ⟨m8, hm8⟩ : ∃ m : Nat, (m : Int) = min (pl.length : Int) 4 := ⟨(min (pl.length : Int) 4).toNat, by omega⟩
  have hmin := fun (W : World) (ts : Array TypeId) (t : TypeId) => run_min4b (P := Tryd.prog) .i64 (pl.length : Int) m8 hm8 W ts t
  have hm8a : m8 ≤ pl.length := by omega
  have hm8b : m8 ≤ 4 := by omega
  have hm8c : m8 ≤ c3 := by omega
  have hm8d : (m8 : Int) ≤ (c3 : Int) := by omega
  have HG := Lib.hid (fun W => great12_any (La : Int) (n : Int) a es.length c W)
  rw [hg] at HG
  have HA := Lib.hid (fun W h => awake12_any W h)
  have B0 := Lib.hid (below1 w (.cells #[.int .i64 (La : Int), .int .i64 (n : Int), .slice a es.length c] 24))
  have G0 := Lib.hid (BoxG.new w (La : Int) (n : Int) (.slice a es.length c) 24)
  obtain ⟨x1, x2, x3⟩ := id G0.out
  have d2 : ((n : Int) == 0) = false := by rw [beq_eq_false_iff_ne]; omega
  have HPB := Lib.hid hpb
  clear hrd hpr hT hg hvg hpb hfoc hm8
  go_enter Tryd.func7, Tryd.ntmps7
  go_upto_region 7 with (first
    | (go_at_call 15; (with_reducible refine (HG.out _).mono ?_); rintro e W1 ⟨rfl, b1⟩; (have B1 := Lib.hid (below_more B0.out (Nat.le_refl _) b1)); (have G1 := Lib.hid (G0.out.keep b1)); clear b1 x1 x2 x3; (obtain ⟨x1, x2, x3⟩ := id G1.out))
    | (go_at_call 31; (with_reducible refine (HCK.out _ (HRD.out.keep B1.out)).mono ?_); rintro e W2 ⟨rfl, b2⟩; (have B2 := Lib.hid (B1.out.trans (b2.mono B1.out.size))); (have G2 := Lib.hid (G1.out.keep b2)); clear b2 x1 x2 x3; (obtain ⟨x1, x2, x3⟩ := id G2.out))
    | (go_at_call 23; (with_reducible refine (HFO.out _ (HRD.out.keep B2.out) (HT.out.keep B2.out)).mono ?_); rintro e W3 ⟨al, cl, rfl, hi3, b3⟩; (have B3 := Lib.hid (B2.out.trans (b3.mono B2.out.size))); (have G3 := Lib.hid (G2.out.keep b3)); (have I3 := Lib.hid hi3); clear b3 x1 x2 x3 hi3; (obtain ⟨x1, x2, x3⟩ := id G3.out)))
  clear x1 x2 x3 hmk
  have R0 := Lib.hid (IRow.made W3 n)
  have k0 := below_more (below1 W3 (.cells (madeCells #[.int .i64 0] n) 3)) (Nat.le_refl _) (below1 (W3.alloc (.cells (madeCells #[.int .i64 0] n) 3)) (.cells #[.slice (some ⟨W3.heap.size, 0, none⟩) n n] 28))
  have X0 := Lib.hid (Boxed.new (W3.alloc (.cells (madeCells #[.int .i64 0] n) 3)) 28 (.slice (some ⟨W3.heap.size, 0, none⟩) n n))
  have Q0 := Lib.hid (R0.out.keep (below1 (W3.alloc (.cells (madeCells #[.int .i64 0] n) 3)) (.cells #[.slice (some ⟨W3.heap.size, 0, none⟩) n n] 28)))
  have K0 := Lib.hid k0
  obtain ⟨p, hp⟩ : ∃ p, W3.heap.size = p := ⟨_, rfl⟩
  have hp1 : (W3.alloc (.cells (madeCells #[.int .i64 0] n) 3)).heap.size = p + 1 := by rw [World.size_alloc, hp]
  rw [hp1] at X0
  rw [hp] at X0 Q0 K0 ⊢
  have hpw : w.heap.size ≤ p := by rw [← hp]; have := B3.out.size; omega
  have HP := Lib.hid hp
  clear k0 hp hp1 R0
  generalize ((W3.alloc (.cells (madeCells #[.int .i64 0] n) 3)).alloc (.cells #[.slice (some ⟨p, 0, none⟩) n n] 28)) = X at *
  have x9 := X0.out.cell
  have zX : p + 2 ≤ X.heap.size := by have := X0.out.lt; omega
  clear B2 B1 B0 G0 G1 G2 HCK HFO HG
  go_upto_region 8 with fail
  clear x9
  go_loopg [43] n (fun q s43 wx => ∃ i : Nat, i + q = n ∧ s43 = .int .i64 (i : Int) ∧ Hid (IRow wx p n (fun j => if j < i then (j : Int) else 0)) ∧ Hid (Boxed wx (p + 1) 28 (.slice (some ⟨p, 0, none⟩) n n)) ∧ Hid (Below p W3 wx))
  case atStart => exact ⟨0, by omega, rfl, Lib.hid (Q0.out.congr (fun j _ => by rw [if_neg (by omega)])), X0, K0⟩
  case round =>
    clear Q0 X0
    obtain ⟨i, hin, rfl, HQ, HXB, HB⟩ := hrel
    have x9 := HXB.out.cell
    rcases gk with _ | q
    · obtain rfl : i = n := by omega
      have j0 : ¬ ((i : Int) < (i : Int)) := by omega
      have IA0 := Lib.hid (show IntsRd wr (.slice (some ⟨p, 0, none⟩) i i) (memN (fullN i)) by
        rw [HMF.out]
        refine ⟨_, _, by rw [List.length_map, List.length_range], fun j x hx => ⟨p, 0, rfl, ?_⟩⟩
        have hj : j < i := by
          have := (List.getElem?_eq_some_iff.1 hx).1
          rwa [List.length_map, List.length_range] at this
        rw [List.getElem?_map] at hx
        rw [List.getElem?_range hj] at hx
        injection hx with hx
        rw [Nat.zero_add, HQ.out.cell hj, if_pos hj, ← hx])
      have hb3 : Below W3.heap.size W3 wr := by rw [HP.out]; exact HB.out
      have GA := Lib.hid (G3.out.keep hb3)
      have IL0 := Lib.hid (I3.out.keep hb3)
      have BW0 := Lib.hid (B3.out.trans (HB.out.mono hpw))
      clear hb3 HB B3 G3 I3 HP HMF
      have HENL := Lib.hid (HEN.out wr (.slice al lw.length cl) lw _ (p + 1) (HRD.out.keep BW0.out) GA.out x9 IA0.out IL0.out HLL.out hlw)
      rw [HON.out] at HENL
      have hl1 : [sv].length = 1 := rfl
      rw [hl1] at HENL
      go_upto_region 15 with (first
        | (go_at_call 13; (with_reducible refine (HEQ.out _ _ _ (I4.out.keep (below1 W4 _)) (ints_lit1 W4 sv _)).mono ?_); rintro e W5 ⟨rfl, b5⟩; (have k5 := below_more k4.out (Nat.le_refl _) (below_more (below1 W4 _) (Nat.le_refl _) b5)); (have GY := Lib.hid (GA.out.keep k5)); (have ILY := Lib.hid (IL0.out.keep k5)); (have IAY := Lib.hid (IA0.out.keep k5)); (have BY := Lib.hid (BW0.out.trans (k5.mono BW0.out.size))); (have x9 := cell_keep x9 k5); clear b5 k5)
        | ((with_reducible refine HENL.out.mono ?_); rintro e W4 ⟨a8, c8, rfl, i8, b4⟩; (have I4 := Lib.hid i8); (have k4 := Lib.hid b4); clear i8 b4))
      generalize W5 = Y at *
      clear GA IL0 IA0 BW0 HXB HQ
      go_upto_region 17 with fail
      clear hmin
      obtain ⟨x1, x2, x3⟩ := id GY.out
      have hn8 := ints_nil Y Y.heap.size
      go_loopg [12, 68] m8 (fun q s12 s68 wx => ∃ k : Nat, k + q = m8 ∧ s68 = .int .i64 (k : Int) ∧ Hid (IntsAt wx Y.heap.size s12 (labsI (pksN La pl k))) ∧ Hid (Below Y.heap.size Y wx))
      case atStart => exact ⟨0, by omega, rfl, Lib.hid hn8, Lib.hid (Below.refl _ _)⟩
      case round =>
        clear hn8 x1 x2 x3
        obtain ⟨k, hkm, rfl, HI, HB⟩ := hrel
        have BW := Lib.hid (BY.out.trans (HB.out.mono BY.out.size))
        have GZ := Lib.hid (GY.out.keep HB.out)
        have x9b := cell_keep x9 HB.out
        rcases gk with _ | q2
        · obtain rfl : k = m8 := by omega
          have j0 : ¬ ((k : Int) < (k : Int)) := by omega
          have HWL := Lib.hid (pksN_lt hL1 pl k)
          have hwl := pksN_len (La := La) hm8a
          have HIR := HI.out.rd
          obtain ⟨a7, c7, rfl⟩ := HI.out.slice
          have HEN2 := Lib.hid (HEN.out wr _ (pksN La pl k) _ (p + 1) (HRD.out.keep BW.out) GZ.out x9b (IAY.out.keep HB.out) HIR HWL.out (by rw [hwl]; omega))
          have hll2 : (labsI (pksN La pl k)).length = k := by rw [labsI_len, hwl]
          rw [hll2] at HEN2 HIR ⊢
          have HIR2 := Lib.hid HIR
          obtain ⟨T, hT2⟩ : ∃ T, (memN (runN' es (fullN i) (pksN La pl k))) = T := ⟨_, rfl⟩
          rw [hT2] at HEN2
          have HTT := Lib.hid hT2
          clear hT2 HIR HI GZ
          by_cases h1 : T.length = 1
          · have d1 : ((T.length : Int) != 1) = false := by rw [h1]; rfl
            have hs := HLE.out (pksN La pl k) HWL.out (by rw [HTT.out]; exact h1)
            have hs2 : lw.length < k ∨ (lw.length = k ∧ cmpL (labsI lw) (labsI (pksN La pl k)) ≤ 0) := by
              unfold sle at hs
              rw [labsI_len, labsI_len, hwl] at hs
              exact hs
            have ILZ := Lib.hid (ILY.out.keep HB.out)
            obtain ⟨z, hz⟩ : ∃ z, cmpL (labsI lw) (labsI (pksN La pl k)) = z := ⟨_, rfl⟩
            have HCP : Hid (∀ W u u', IntsRd W u (labsI lw) → IntsRd W u' (labsI (pksN La pl k)) → Calls Tryd.prog 34 #[u, u'] W fun e W' => e = .returned (.int .i64 z) ∧ W' = W) := Lib.hid (fun W u u' g1 g2 => by
              have h := cmpS_any _ _ u u' W g1 g2 (by rw [labsI_len]; omega) (by rw [labsI_len, hwl]; omega)
              rw [hz] at h
              exact h)
            rw [hz] at hs2
            clear hs hz h1 HTT hll2 hwl
            rcases hs2 with hs3 | ⟨hs3, hs4⟩
            · have d2 : (lw.length : Int) < (k : Int) := by omega
              have d2' : decide ((lw.length : Int) < (k : Int)) = true := decide_eq_true d2
              go_wp2_with (first
                | (go_at_call 16; (with_reducible refine (HA.out _ (HT.out.keep B6.out)).mono ?_); rintro e W9 ⟨rfl, b9⟩; (have B9 := Lib.hid (B6.out.trans (b9.mono B6.out.size))))
                | ((with_reducible refine HEN2.out.mono ?_); rintro e W6 ⟨a6, c6, rfl, i6, b6⟩; (have B6 := Lib.hid (BW.out.trans (b6.mono BW.out.size))); clear i6 b6))
              go_ret
              exact ⟨rfl, B9.out⟩
            · have d2 : ¬ (lw.length : Int) < (k : Int) := by omega
              have d2' : decide ((lw.length : Int) < (k : Int)) = false := decide_eq_false d2
              have d3 : ((lw.length : Int) == (k : Int)) = true := by rw [beq_iff_eq]; omega
              have d4 : decide (z ≤ 0) = true := decide_eq_true hs4
              clear hs3 hs4
              go_wp2_with (first
                | (go_at_call 16; (with_reducible refine (HA.out _ (HT.out.keep B7.out)).mono ?_); rintro e W9 ⟨rfl, b9⟩; (have B9 := Lib.hid (B7.out.trans (b9.mono B7.out.size))))
                | (go_at_call 34; (with_reducible refine (HCP.out W6 _ _ I6.out J6.out).mono ?_); rintro e W7 ⟨rfl, hw7⟩; (have B7 := Lib.hid (show Below w.heap.size w W7 by rw [hw7]; exact B6.out)); clear hw7)
                | ((with_reducible refine HEN2.out.mono ?_); rintro e W6 ⟨a6, c6, rfl, i6, b6⟩; (have B6 := Lib.hid (BW.out.trans (b6.mono BW.out.size))); (have I6 := Lib.hid (ILZ.out.keep b6)); (have J6 := Lib.hid (HIR2.out.keep b6)); clear i6 b6))
              go_ret
              exact ⟨rfl, B9.out⟩
          · have d1 : ((T.length : Int) != 1) = true := by rw [bne_iff_ne]; omega
            clear h1
            go_wp2_with (first
              | (go_at_call 16; (with_reducible refine (HA.out _ (HT.out.keep B6.out)).mono ?_); rintro e W9 ⟨rfl, b9⟩; (have B9 := Lib.hid (B6.out.trans (b9.mono B6.out.size))))
              | ((with_reducible refine HEN2.out.mono ?_); rintro e W6 ⟨a6, c6, rfl, i6, b6⟩; (have B6 := Lib.hid (BW.out.trans (b6.mono BW.out.size))); clear i6 b6))
            go_ret
            exact ⟨rfl, B9.out⟩
        · obtain ⟨y, hy⟩ : ∃ y, pl[k]? = some y := ⟨_, List.getElem?_eq_getElem (by omega)⟩
          have hy256 := HPB.out y (List.mem_of_getElem? hy)
          obtain ⟨a', c', hv', -, -, -, hcell⟩ := HPR.out.keep BW.out
          injection hv' with e1 e2 e3
          subst e1
          obtain ⟨b3, o3, e4, cb⟩ := hcell k y hy
          subst e4
          obtain ⟨lab, hlab⟩ : ∃ lab, y % La = lab := ⟨_, rfl⟩
          have tm2 : Int.tmod (y : Int) (La : Int) = (lab : Int) := by rw [Int.tmod_eq_emod_of_nonneg (by omega), ← hlab]; rfl
          have hwy : IntKind.i64.wrap (y : Int) = (y : Int) := IntWalk.i64_in _ (by omega)
          have hL9 : ¬ (La = 0) := by omega
          have hL7 : ¬ ((La : Int) = 0) := by omega
          obtain ⟨x1, x2, x3⟩ := id GZ.out
          have j1 : (k : Int) < (m8 : Int) := by omega
          have j1' : k < m8 := by omega
          have HPS := Lib.hid (show labsI (pksN La pl (k + 1)) = labsI (pksN La pl k) ++ [(lab : Int)] by rw [pksN_succ hy, labsI_snoc, hlab])
          have hwl := pksN_len (La := La) (pl := pl) (i := k) (by omega)
          have hown := HI.out
          unfold IntsAt at hown
          have hll2 : (labsI (pksN La pl k)).length = k := by rw [labsI_len, hwl]
          rw [hll2] at hown
          obtain ⟨a5, c5, rfl⟩ := own_slice hown
          have hsz := HB.out.size
          clear hy hcell e2 e3 hlab HI x9b
          go_wp2_with (at_builtin; refine wpList_append_own_at _ rfl _ _ 28 rfl Y.heap.size 3 i0 (.int .i64 0) 1 8 Tryd.underlying28 hi hz0 hz1 hz2 rfl (by decide) _ _ _ rfl (hown.alloc _) ⟨wr.heap.size, 0, none⟩ 1 1 [.int .i64 (lab : Int)] rfl rfl (cell_one_new _ _ _) (by intro u hu; simp at hu; subst hu; rfl) (by unfold maxLen; omega) (by omega) (by rw [World.size_alloc]; omega) ?_; intro v' w4 hown4 hgrow4 hnil4 hloc4)
          go_roundg q2
          case measure => omega
          case rel =>
            refine ⟨k + 1, by omega, by go_num, Lib.hid ?_, Lib.hid ((HB.out.alloc hsz _).grown hgrow4 (by rw [World.size_alloc]; omega) (fun k e => (hown.lt k e).1))⟩
            rw [HPS.out]
            unfold IntsAt
            rw [intz_snoc, List.length_append, hll2]
            exact hown4
    · have j1 : (i : Int) < (n : Int) := by omega
      have c4 := HQ.out.cell (show i < n by omega)
      have f4 := HQ.out.frozen i
      have HQ2 := Lib.hid ((HQ.out.set i (i : Int)).congr (g := fun j => if j < i + 1 then (j : Int) else 0) (fun j _ => by
        by_cases h : j = i
        · subst h; rw [if_pos rfl, if_pos (by omega)]
        · rw [if_neg h]
          by_cases h2 : j < i
          · rw [if_pos h2, if_pos (by omega)]
          · rw [if_neg h2, if_neg (by omega)]))
      have HX2 := Lib.hid (HXB.out.kept (grownBy_setCellJ wr p i (.int .i64 (i : Int))) (by intro e; injection e with e; omega))
      have HB2 := Lib.hid (HB.out.setCell (p := ⟨p, i, none⟩) (Nat.le_refl _) (.int .i64 (i : Int)))
      go_wp2_with fail
      go_roundg q
      case measure => omega
      case rel => exact ⟨i + 1, by omega, by go_num, HQ2, HX2, HB2⟩
set_option maxRecDepth 100000 in
set_option maxHeartbeats 12800000 in
theorem foci_false (La n : Nat) (es : List E3) (v vp : Value) (pl : List Nat) (w : World) (lw : List Nat) (sv : Int) (hrd : EdgesRd w v es) (hpr : BysRd w vp pl) (hT : TabD w) (hg : greatB (n : Int) es.length = false) (hvg : VG (La : Int) (n : Int) es) (hn0 : n ≠ 0)
    (hlw : lw.length ≤ 100000)
    (hfoc : focR (La : Int) (n : Int) es = (labsI lw, sv, false, 0)) (hno : ∀ ws : List Nat, (∀ l ∈ ws, l < La) → (memN (runN' es (fullN n) ws)).length ≠ 1) :
    Calls Tryd.prog 7 #[grV (La : Int) (n : Int) v, vp] w fun e w' => e = .returned (.bool true) ∧ Below w.heap.size w w' := by
  obtain ⟨i0, hi, hz0, hz1, hz2⟩ := info_parts Tryd.infoI64
  have hn64 : n ≤ 64 := by have := hvg.s2; omega
  have hL256 : La ≤ 256 := by have := hvg.l2; omega
  have hL1 : 1 ≤ La := by have := hvg.l1; omega
  have hn : es.length ≤ 1024 := hvg.len
  have hE := Tryd.endsE
  have hmk := make_ints4 n (by omega)
  have HCK : Hid (∀ W, EdgesRd W v es → Calls Tryd.prog 31 #[grV (La : Int) (n : Int) v] W fun e W' => e = .returned (.int .i64 0) ∧ Below W.heap.size W W') := Lib.hid (fun W h => by
    refine (gcheck_any La n es v W h (by omega)).mono ?_
    rw [hvg.chk]
    exact fun e W' h => h)
  have HFO : Hid (∀ W, EdgesRd W v es → TabD W → Calls Tryd.prog 23 #[grV (La : Int) (n : Int) v] W fun e W' => ∃ a c, e = .returned (.tuple #[.slice a lw.length c, .int .i64 sv, .bool false, .int .i64 0]) ∧ IntsRd W' (.slice a lw.length c) (labsI lw) ∧ Below W.heap.size W W') := Lib.hid (fun W h1 h2 => by
    refine (Focus_any La n es v W h1 (by omega) h2).mono ?_
    rw [hfoc]
    rintro e W' ⟨u, he, h3, h4⟩
    obtain ⟨a, c, hu⟩ := h3.form
    rw [labsI_len] at hu
    subst hu
    exact ⟨a, c, he, h3, h4⟩)
  have HEN : Hid (∀ W (u : Value) (ws : List Nat) (va : Value) (pa : Nat), EdgesRd W v es → BoxG W w.heap.size (La : Int) (n : Int) v → W.cell? ⟨pa, 0, none⟩ = some va → IntsRd W va (memN (fullN n)) → IntsRd W u (labsI ws) → (∀ l ∈ ws, l < La) → ws.length ≤ 100000 →
      Calls Tryd.prog 32 #[u, .pointer (some ⟨pa, 0, none⟩), .pointer (some ⟨w.heap.size, 0, none⟩)] W fun e w' => ∃ a c, e = .returned (.slice a (memN (runN' es (fullN n) ws)).length c) ∧ IntsRd w' (.slice a (memN (runN' es (fullN n) ws)).length c) (memN (runN' es (fullN n) ws)) ∧ Below W.heap.size W w') :=
    Lib.hid (fun W u ws va pa h1 h2 h3 h4 h5 h6 h7 => ends_any La n es v va u ws (fullN n) pa w.heap.size W h1 hvg (fullN_lt hn64) (fullN_small n) h2 h3 h4 h5 h6 h7)
  have HMF := Lib.hid (memN_full hn64)
  have HNO := Lib.hid hno
  have HRD := Lib.hid hrd
  have HPR := Lib.hid hpr
  have HT := Lib.hid hT
  obtain ⟨a, c, hv⟩ := hrd.form
  subst hv
  obtain ⟨a3, c3, hvp, hc3, hc3', hpb, -⟩ := id hpr
  subst hvp
  obtain ⟨m8, hm8⟩ : ∃ m : Nat, (m : Int) = min (pl.length : Int) 4 := ⟨(min (pl.length : Int) 4).toNat, by omega⟩
  have hmin := fun (W : World) (ts : Array TypeId) (t : TypeId) => run_min4b (P := Tryd.prog) .i64 (pl.length : Int) m8 hm8 W ts t
  have hm8a : m8 ≤ pl.length := by omega
  have hm8b : m8 ≤ 4 := by omega
  have hm8c : m8 ≤ c3 := by omega
  have hm8d : (m8 : Int) ≤ (c3 : Int) := by omega
  have HG := Lib.hid (fun W => great12_any (La : Int) (n : Int) a es.length c W)
  rw [hg] at HG
  have HA := Lib.hid (fun W h => awake12_any W h)
  have B0 := Lib.hid (below1 w (.cells #[.int .i64 (La : Int), .int .i64 (n : Int), .slice a es.length c] 24))
  have G0 := Lib.hid (BoxG.new w (La : Int) (n : Int) (.slice a es.length c) 24)
  obtain ⟨x1, x2, x3⟩ := id G0.out
  have d2 : ((n : Int) == 0) = false := by rw [beq_eq_false_iff_ne]; omega
  have HPB := Lib.hid hpb
  clear hrd hpr hT hg hvg hpb hfoc hm8
  go_enter Tryd.func7, Tryd.ntmps7
  go_upto_region 7 with (first
    | (go_at_call 15; (with_reducible refine (HG.out _).mono ?_); rintro e W1 ⟨rfl, b1⟩; (have B1 := Lib.hid (below_more B0.out (Nat.le_refl _) b1)); (have G1 := Lib.hid (G0.out.keep b1)); clear b1 x1 x2 x3; (obtain ⟨x1, x2, x3⟩ := id G1.out))
    | (go_at_call 31; (with_reducible refine (HCK.out _ (HRD.out.keep B1.out)).mono ?_); rintro e W2 ⟨rfl, b2⟩; (have B2 := Lib.hid (B1.out.trans (b2.mono B1.out.size))); (have G2 := Lib.hid (G1.out.keep b2)); clear b2 x1 x2 x3; (obtain ⟨x1, x2, x3⟩ := id G2.out))
    | (go_at_call 23; (with_reducible refine (HFO.out _ (HRD.out.keep B2.out) (HT.out.keep B2.out)).mono ?_); rintro e W3 ⟨al, cl, rfl, hi3, b3⟩; (have B3 := Lib.hid (B2.out.trans (b3.mono B2.out.size))); (have G3 := Lib.hid (G2.out.keep b3)); (have I3 := Lib.hid hi3); clear b3 x1 x2 x3 hi3; (obtain ⟨x1, x2, x3⟩ := id G3.out)))
  clear x1 x2 x3 hmk
  have R0 := Lib.hid (IRow.made W3 n)
  have k0 := below_more (below1 W3 (.cells (madeCells #[.int .i64 0] n) 3)) (Nat.le_refl _) (below1 (W3.alloc (.cells (madeCells #[.int .i64 0] n) 3)) (.cells #[.slice (some ⟨W3.heap.size, 0, none⟩) n n] 28))
  have X0 := Lib.hid (Boxed.new (W3.alloc (.cells (madeCells #[.int .i64 0] n) 3)) 28 (.slice (some ⟨W3.heap.size, 0, none⟩) n n))
  have Q0 := Lib.hid (R0.out.keep (below1 (W3.alloc (.cells (madeCells #[.int .i64 0] n) 3)) (.cells #[.slice (some ⟨W3.heap.size, 0, none⟩) n n] 28)))
  have K0 := Lib.hid k0
  obtain ⟨p, hp⟩ : ∃ p, W3.heap.size = p := ⟨_, rfl⟩
  have hp1 : (W3.alloc (.cells (madeCells #[.int .i64 0] n) 3)).heap.size = p + 1 := by rw [World.size_alloc, hp]
  rw [hp1] at X0
  rw [hp] at X0 Q0 K0 ⊢
  have hpw : w.heap.size ≤ p := by rw [← hp]; have := B3.out.size; omega
  have HP := Lib.hid hp
  clear k0 hp hp1 R0
  generalize ((W3.alloc (.cells (madeCells #[.int .i64 0] n) 3)).alloc (.cells #[.slice (some ⟨p, 0, none⟩) n n] 28)) = X at *
  have x9 := X0.out.cell
  have zX : p + 2 ≤ X.heap.size := by have := X0.out.lt; omega
  clear B2 B1 B0 G0 G1 G2 HCK HFO HG
  go_upto_region 8 with fail
  clear x9
  go_loopg [43] n (fun q s43 wx => ∃ i : Nat, i + q = n ∧ s43 = .int .i64 (i : Int) ∧ Hid (IRow wx p n (fun j => if j < i then (j : Int) else 0)) ∧ Hid (Boxed wx (p + 1) 28 (.slice (some ⟨p, 0, none⟩) n n)) ∧ Hid (Below p W3 wx))
  case atStart => exact ⟨0, by omega, rfl, Lib.hid (Q0.out.congr (fun j _ => by rw [if_neg (by omega)])), X0, K0⟩
  case round =>
    clear Q0 X0
    obtain ⟨i, hin, rfl, HQ, HXB, HB⟩ := hrel
    have x9 := HXB.out.cell
    rcases gk with _ | q
    · obtain rfl : i = n := by omega
      have j0 : ¬ ((i : Int) < (i : Int)) := by omega
      have IA0 := Lib.hid (show IntsRd wr (.slice (some ⟨p, 0, none⟩) i i) (memN (fullN i)) by
        rw [HMF.out]
        refine ⟨_, _, by rw [List.length_map, List.length_range], fun j x hx => ⟨p, 0, rfl, ?_⟩⟩
        have hj : j < i := by
          have := (List.getElem?_eq_some_iff.1 hx).1
          rwa [List.length_map, List.length_range] at this
        rw [List.getElem?_map] at hx
        rw [List.getElem?_range hj] at hx
        injection hx with hx
        rw [Nat.zero_add, HQ.out.cell hj, if_pos hj, ← hx])
      have hb3 : Below W3.heap.size W3 wr := by rw [HP.out]; exact HB.out
      have GA := Lib.hid (G3.out.keep hb3)
      have IL0 := Lib.hid (I3.out.keep hb3)
      have BW0 := Lib.hid (B3.out.trans (HB.out.mono hpw))
      clear hb3 HB B3 G3 I3 HP HMF
      go_upto_region 15 with fail
      have GY := GA
      have ILY := IL0
      have IAY := IA0
      have BY := BW0
      generalize wr = Y at *
      clear GA IL0 IA0 BW0 HXB HQ
      go_upto_region 17 with fail
      clear hmin
      obtain ⟨x1, x2, x3⟩ := id GY.out
      have hn8 := ints_nil Y Y.heap.size
      go_loopg [12, 68] m8 (fun q s12 s68 wx => ∃ k : Nat, k + q = m8 ∧ s68 = .int .i64 (k : Int) ∧ Hid (IntsAt wx Y.heap.size s12 (labsI (pksN La pl k))) ∧ Hid (Below Y.heap.size Y wx))
      case atStart => exact ⟨0, by omega, rfl, Lib.hid hn8, Lib.hid (Below.refl _ _)⟩
      case round =>
        clear hn8 x1 x2 x3
        obtain ⟨k, hkm, rfl, HI, HB⟩ := hrel
        have BW := Lib.hid (BY.out.trans (HB.out.mono BY.out.size))
        have GZ := Lib.hid (GY.out.keep HB.out)
        have x9b := cell_keep x9 HB.out
        rcases gk with _ | q2
        · obtain rfl : k = m8 := by omega
          have j0 : ¬ ((k : Int) < (k : Int)) := by omega
          have HWL := Lib.hid (pksN_lt hL1 pl k)
          have hwl := pksN_len (La := La) hm8a
          have HIR := HI.out.rd
          obtain ⟨a7, c7, rfl⟩ := HI.out.slice
          have HEN2 := Lib.hid (HEN.out wr _ (pksN La pl k) _ (p + 1) (HRD.out.keep BW.out) GZ.out x9b (IAY.out.keep HB.out) HIR HWL.out (by rw [hwl]; omega))
          have hll2 : (labsI (pksN La pl k)).length = k := by rw [labsI_len, hwl]
          rw [hll2] at HEN2 HIR ⊢
          have HIR2 := Lib.hid HIR
          obtain ⟨T, hT2⟩ : ∃ T, (memN (runN' es (fullN i) (pksN La pl k))) = T := ⟨_, rfl⟩
          rw [hT2] at HEN2
          have HTT := Lib.hid hT2
          clear hT2 HIR HI GZ
          by_cases h1 : T.length = 1
          · have d1 : ((T.length : Int) != 1) = false := by rw [h1]; rfl
            exact absurd h1 (by rw [← HTT.out]; exact HNO.out _ HWL.out)
          · have d1 : ((T.length : Int) != 1) = true := by rw [bne_iff_ne]; omega
            clear h1
            go_wp2_with (first
              | (go_at_call 16; (with_reducible refine (HA.out _ (HT.out.keep B6.out)).mono ?_); rintro e W9 ⟨rfl, b9⟩; (have B9 := Lib.hid (B6.out.trans (b9.mono B6.out.size))))
              | ((with_reducible refine HEN2.out.mono ?_); rintro e W6 ⟨a6, c6, rfl, i6, b6⟩; (have B6 := Lib.hid (BW.out.trans (b6.mono BW.out.size))); clear i6 b6))
            go_ret
            exact ⟨rfl, B9.out⟩
        · obtain ⟨y, hy⟩ : ∃ y, pl[k]? = some y := ⟨_, List.getElem?_eq_getElem (by omega)⟩
          have hy256 := HPB.out y (List.mem_of_getElem? hy)
          obtain ⟨a', c', hv', -, -, -, hcell⟩ := HPR.out.keep BW.out
          injection hv' with e1 e2 e3
          subst e1
          obtain ⟨b3, o3, e4, cb⟩ := hcell k y hy
          subst e4
          obtain ⟨lab, hlab⟩ : ∃ lab, y % La = lab := ⟨_, rfl⟩
          have tm2 : Int.tmod (y : Int) (La : Int) = (lab : Int) := by rw [Int.tmod_eq_emod_of_nonneg (by omega), ← hlab]; rfl
          have hwy : IntKind.i64.wrap (y : Int) = (y : Int) := IntWalk.i64_in _ (by omega)
          have hL9 : ¬ (La = 0) := by omega
          have hL7 : ¬ ((La : Int) = 0) := by omega
          obtain ⟨x1, x2, x3⟩ := id GZ.out
          have j1 : (k : Int) < (m8 : Int) := by omega
          have j1' : k < m8 := by omega
          have HPS := Lib.hid (show labsI (pksN La pl (k + 1)) = labsI (pksN La pl k) ++ [(lab : Int)] by rw [pksN_succ hy, labsI_snoc, hlab])
          have hwl := pksN_len (La := La) (pl := pl) (i := k) (by omega)
          have hown := HI.out
          unfold IntsAt at hown
          have hll2 : (labsI (pksN La pl k)).length = k := by rw [labsI_len, hwl]
          rw [hll2] at hown
          obtain ⟨a5, c5, rfl⟩ := own_slice hown
          have hsz := HB.out.size
          clear hy hcell e2 e3 hlab HI x9b
          go_wp2_with (at_builtin; refine wpList_append_own_at _ rfl _ _ 28 rfl Y.heap.size 3 i0 (.int .i64 0) 1 8 Tryd.underlying28 hi hz0 hz1 hz2 rfl (by decide) _ _ _ rfl (hown.alloc _) ⟨wr.heap.size, 0, none⟩ 1 1 [.int .i64 (lab : Int)] rfl rfl (cell_one_new _ _ _) (by intro u hu; simp at hu; subst hu; rfl) (by unfold maxLen; omega) (by omega) (by rw [World.size_alloc]; omega) ?_; intro v' w4 hown4 hgrow4 hnil4 hloc4)
          go_roundg q2
          case measure => omega
          case rel =>
            refine ⟨k + 1, by omega, by go_num, Lib.hid ?_, Lib.hid ((HB.out.alloc hsz _).grown hgrow4 (by rw [World.size_alloc]; omega) (fun k e => (hown.lt k e).1))⟩
            rw [HPS.out]
            unfold IntsAt
            rw [intz_snoc, List.length_append, hll2]
            exact hown4
    · have j1 : (i : Int) < (n : Int) := by omega
      have c4 := HQ.out.cell (show i < n by omega)
      have f4 := HQ.out.frozen i
      have HQ2 := Lib.hid ((HQ.out.set i (i : Int)).congr (g := fun j => if j < i + 1 then (j : Int) else 0) (fun j _ => by
        by_cases h : j = i
        · subst h; rw [if_pos rfl, if_pos (by omega)]
        · rw [if_neg h]
          by_cases h2 : j < i
          · rw [if_pos h2, if_pos (by omega)]
          · rw [if_neg h2, if_neg (by omega)]))
      have HX2 := Lib.hid (HXB.out.kept (grownBy_setCellJ wr p i (.int .i64 (i : Int))) (by intro e; injection e with e; omega))
      have HB2 := Lib.hid (HB.out.setCell (p := ⟨p, i, none⟩) (Nat.le_refl _) (.int .i64 (i : Int)))
      go_wp2_with fail
      go_roundg q
      case measure => omega
      case rel => exact ⟨i + 1, by omega, by go_num, HQ2, HX2, HB2⟩
end Go.Proofs.YtblkijdodojaeaaDoor
