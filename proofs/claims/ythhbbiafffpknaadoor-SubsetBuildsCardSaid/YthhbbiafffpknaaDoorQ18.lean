/- What slices.Repeat of one number returns, and pathsFrom where each number has at most one digit. What subset.pathsFrom returns: the numbers of paths. Conditions: at most 64 states and 1024 edges; every number that is met is below 2^64. What grooveref12.Same and SameSets return; groovelaw12.even; subset.Count where the number is 7. Conditions: all can be read. -/
import Derived.Test.YthhbbiafffpknaaDoorQ17
import Derived.Test.YthhbbiafffpknaaDoorQ08

namespace Go.Proofs.YthhbbiafffpknaaDoor
open Go.RowKit
set_option linter.unusedSimpArgs false
set_option linter.unusedVariables false

abbrev oneV (p : Nat) : Value := .slice (some ⟨p, 0, none⟩) 1 1
theorem Tryd.infoNat : (Tryd.prog.info? 62).map (fun i => (i.zero, i.size, i.bytes)) = some (some (.slice none 0 0), 1, 24) := by kernel_rfl
theorem make_nats (n : Nat) (hn : n ≤ 100000) (W : World) : (Instr.makeSlice 63 (.int .i64 (n : Int)) (.int .i64 (n : Int))).run Tryd.prog W = .ok (.slice (some ⟨W.heap.size, 0, none⟩) n n) (W.alloc (.cells (madeCells #[.slice none 0 0] n) 62)) :=
  run_make_row' _ _ _ 24 Tryd.underlying63 Tryd.infoNat rfl _ _ n (by omega) (by omega) W
structure CN (w : World) (p R n k : Nat) (W : World) : Prop where
  b : Below w.heap.size w W
  r : W.rowIs R 62 n (fun j => if j < k then oneV p else .slice none 0 0)
theorem infoNats : (Tryd.prog.info? 62).map (·.size) = some 1 := by kernel_rfl
theorem sizeNat : ∀ w, (Go.sizeOf 62).run Tryd.prog w = .ok 1 w := fun w => by kernel_rfl
set_option maxRecDepth 100000 in
theorem copy_nats {w W : World} {p R n k : Nat} (h : CN w p R n k W) (hR : w.heap.size ≤ R) (hk : k ≤ n) (a : Addr) (sLen cap : Nat) (ty : TypeId) (m : Nat) (hm : m = Nat.min sLen (n - k)) (hc : ∀ j, j < m → W.cell? (a.add j) = some (oneV p)) :
    ∃ W', (Builtin.copy_ #[63, 63] ty #[.slice (some ⟨R, k, none⟩) (n - k) (n - k), .slice (some a) sLen cap]).run Tryd.prog W = .ok (.int .i64 (m : Int)) W' ∧ CN w p R n (k + m) W' := by
  have hm2 : m ≤ n - k := by rw [hm]; exact Nat.min_le_right _ _
  have hr := run_copy_cells (P := Tryd.prog) W 63 63 ty 62 R k (n - k) (n - k) a sLen cap (List.replicate m (oneV p)) Tryd.underlying63 infoNats (by rw [List.length_replicate]; exact hm)
    (fun j u hj => by
      have hj2 : j < m := by have := (List.getElem?_eq_some_iff.1 hj).1; rwa [List.length_replicate] at this
      rw [List.getElem?_replicate, if_pos hj2] at hj
      injection hj with hj
      subst hj
      exact hc j hj2)
    (fun j hj => by rw [List.length_replicate] at hj; rw [World.rowIs.cell h.r (show k + j < n by omega)]; rfl) (fun j hj => by rw [List.length_replicate] at hj; exact World.rowIs.frozen h.r _)
    (fun u hu => by rw [List.eq_of_mem_replicate hu]; rfl)
  rw [List.length_replicate] at hr
  refine ⟨_, hr, ?_⟩
  refine ⟨Lib.below_setCells R hR _ _ h.b, World.rowIs.congr (rowIs_rep _ m k W _ h.r) (fun i _ => ?_)⟩
  by_cases h1 : k ≤ i ∧ i < k + m
  · rw [if_pos h1]
    rw [if_pos (by omega)]
  · rw [if_neg h1]
    by_cases h2 : i < k
    · rw [if_pos h2, if_pos (by omega)]
    · rw [if_neg h2, if_neg (by omega)]
theorem CN.drew {w W : World} {p R n k : Nat} (h : CN w p R n k W) : CN w p R n k W.drew := ⟨h.b.drew, h.r⟩
set_option maxRecDepth 100000 in
set_option maxHeartbeats 6400000 in
theorem repeatN_any (n b cap p : Nat) (w : World) (hn : n ≤ 64) (hcell : w.cell? ⟨b, 0, none⟩ = some (oneV p)) :
    Calls Tryd.prog 49 #[.slice (some ⟨b, 0, none⟩) 1 cap, .int .i64 (n : Int)] w fun e w' => e = .returned (.slice (some ⟨w.heap.size, 0, none⟩) n n) ∧ w'.rowIs w.heap.size 62 n (fun _ => oneV p) ∧ Below w.heap.size w w' := by
  have hM : ∀ W, Calls Tryd.prog 59 #[.int .u64 1, .int .u64 (n : Int)] W fun e w' => e = .returned (.tuple #[.int .u64 0, .int .u64 (n : Int)]) ∧ w' = W := fun W => by
    have k := Tryd.bits_Mul 1 n (by omega) (by omega) W
    rw [show 1 * n / 18446744073709551616 = 0 by omega, show 1 * n % 18446744073709551616 = n by omega] at k
    exact k
  have HM := Lib.hid hM
  clear hM
  have hmx : Tryd.prog.follows .mixedOrders = true := by kernel_rfl
  have hmk := make_nats n (by omega)
  have C0 : CN w p w.heap.size n 0 (w.alloc (.cells (madeCells #[.slice none 0 0] n) 62)) :=
    ⟨below1 w _, World.rowIs.congr (World.rowIs_made w _ n _) (fun j _ => by rw [if_neg (by omega)])⟩
  obtain ⟨m, hm⟩ : ∃ m, m = Nat.min 1 (n - 0) := ⟨_, rfl⟩
  obtain ⟨w1, hr1, C1⟩ := copy_nats C0 (Nat.le_refl _) (Nat.zero_le _) ⟨b, 0, none⟩ 1 cap 3 m hm (fun j hj => by
    have h1 : m ≤ 1 := by rw [hm]; exact Nat.min_le_left _ _
    obtain rfl : j = 0 := by omega
    exact cell_keep hcell (below1 w _))
  have hm2 : m ≤ n ∧ (n = m ∨ (1 ≤ m ∧ m ≤ n)) := by
    rcases Nat.eq_zero_or_pos n with h | h
    · subst h; have : m = 0 := hm; omega
    · have : m = 1 := by rw [hm, Nat.sub_zero]; exact Nat.min_eq_left h
      omega
  rw [Nat.sub_zero] at hr1
  rw [Nat.zero_add] at C1
  have HC1 := Lib.hid C1
  have d0 : decide ((9223372036854775807 : Int) < (n : Int)) = false := decide_eq_false (by omega)
  clear C0 C1 hcell hm
  go_enter Tryd.func49, Tryd.ntmps49
  go_wp2_with (first
    | (go_at_call 59; (with_reducible refine (HM.out _).mono ?_); rintro e W0 ⟨rfl, hW⟩; (rw [hW]); (clear hW))
    | (at_builtin; refine Lib.wpList_copy_run _ rfl _ _ 63 63 rfl _ _ rfl rfl hr1 ?_))
  clear hr1 HM hmk
  go_loopg [8] n (fun q s8 wx => ∃ k : Nat, k ≤ n ∧ n - k ≤ q ∧ (n = k ∨ 1 ≤ k) ∧ s8 = .int .i64 (k : Int) ∧ Hid (CN w p w.heap.size n k wx))
  case atStart => exact ⟨m, hm2.1, by omega, by omega, rfl, HC1⟩
  case round =>
    clear HC1
    obtain ⟨k, hkn, hgk, hk1, rfl, HB⟩ := hrel
    by_cases hlt : k < n
    · have hmin : min (k : Int) (n : Int) = (k : Int) := by omega
      obtain ⟨m', hm'⟩ : ∃ m', m' = Nat.min k (n - k) := ⟨_, rfl⟩
      have hmk : m' ≤ k := by rw [hm']; exact Nat.min_le_left _ _
      have hmn : m' ≤ n - k := by rw [hm']; exact Nat.min_le_right _ _
      have hm1 : 1 ≤ m' := by
        rw [hm']
        exact Nat.le_min.2 ⟨by omega, by omega⟩
      obtain ⟨w2, hr2, C2⟩ := copy_nats HB.out.drew (Nat.le_refl _) hkn ⟨w.heap.size, 0, none⟩ k n 3 m' hm' (fun j hj => by
        rw [show (⟨w.heap.size, 0, none⟩ : Addr).add j = ⟨w.heap.size, j, none⟩ by unfold Addr.add; split <;> simp_all]
        rw [World.rowIs.cell HB.out.drew.r (show j < n by omega), if_pos (by omega)])
      have hsl1 : ∀ W, (Instr.slice 63 (.slice (some ⟨w.heap.size, 0, none⟩) n n) (some (.int .i64 (k : Int))) none none).run Tryd.prog W = .ok (.slice (some ⟨w.heap.size, k, none⟩) (n - k) (n - k)) W := fun W => by
        have h := Lib.run_slice_tailV W 63 62 Tryd.underlying63 sizeNat w.heap.size n k (by omega)
        unfold Lib.tailV at h
        rw [if_neg (by omega)] at h
        exact h
      have hB2 := Lib.hid C2
      have dk : (0 : Int) ≤ (k : Int) := by omega
      have hw : IntKind.i64.wrap ((k : Int) + (m' : Int)) = (k : Int) + (m' : Int) := by clear hmin; rw [IntKind.wrap_i64]; omega
      have dkn : (k : Int) ≤ (n : Int) := by omega
      clear C2 HB hm'
      go_wp2_with fail
      go_region_law (refine step_copy _ rfl (.tmp 41) (.tmp 44) 63 63 rfl (.slice (some ⟨w.heap.size, k, none⟩) (n - k) (n - k)) (.slice (some ⟨w.heap.size, 0, none⟩) k n) (by simp [Act.eval, Act.put]) (by simp [Act.eval, Act.put]) hr2 ?_)
      clear hr2 hsl1 hmin
      go_wp2
      go_roundg (n - (k + m'))
      case measure => omega
      case rel => exact ⟨k + m', by omega, by omega, by omega, by go_num, hB2⟩
    · obtain rfl : k = n := by omega
      have HB2 := Lib.hid (show wr.rowIs w.heap.size 62 k (fun _ => oneV p) from World.rowIs.congr HB.out.r (fun i hi => by rw [if_pos hi]))
      have hb := HB.out.b
      clear HB
      go_wp2
      go_ret
      exact ⟨rfl, HB2.out, hb⟩
end Go.Proofs.YthhbbiafffpknaaDoor

namespace Go.Proofs.YthhbbiafffpknaaDoor
open Go.RowKit
set_option linter.unusedSimpArgs false
set_option linter.unusedVariables false

def addF (F f : Nat → Nat) (e : E3) : Nat → Nat := fun s => if (s : Int) = e.1 then f s + F e.2.2.toNat else f s
def lonF (F : Nat → Nat) (es : List E3) : Nat → Nat := es.foldl (addF F) fun _ => 0
theorem lonF_snoc (F : Nat → Nat) (es : List E3) (e : E3) : lonF F (es ++ [e]) = addF F (lonF F es) e := by unfold lonF; rw [List.foldl_append]; rfl
def wayF (es : List E3) : Nat → Nat → Nat
  | 0 => fun _ => 1
  | k + 1 => lonF (wayF es k) es
def DigRd (W : World) (u : Value) (x : Nat) : Prop := (u = .slice none 0 0 ∧ x = 0) ∨ ∃ q c, u = .slice (some ⟨q, 0, none⟩) 1 c ∧ W.cell? ⟨q, 0, none⟩ = some (u64v x)
theorem DigRd.keep {W W' : World} {u : Value} {x : Nat} (h : DigRd W u x) (hb : Below W.heap.size W W') : DigRd W' u x := by
  rcases h with h | ⟨q, c, h1, h2⟩
  · exact .inl h
  · exact .inr ⟨q, c, h1, cell_keep h2 hb⟩
/-- The numbers, read. -/
def NumRd (W : World) (v : Value) (n : Nat) (F : Nat → Nat) : Prop := ∃ b, v = .slice (some ⟨b, 0, none⟩) n n ∧ b < W.heap.size ∧ ∀ s, s < n → ∃ u, W.cell? ⟨b, s, none⟩ = some u ∧ DigRd W u (F s)
theorem NumRd.keep {W W' : World} {v : Value} {n : Nat} {F : Nat → Nat} (h : NumRd W v n F) (hb : Below W.heap.size W W') : NumRd W' v n F := by
  obtain ⟨b, h1, h0, h2⟩ := h
  exact ⟨b, h1, Nat.lt_of_lt_of_le h0 hb.size, fun s hs => by
    obtain ⟨u, k1, k2⟩ := h2 s hs
    exact ⟨u, cell_keep k1 hb, k2.keep hb⟩⟩
def DigW (W : World) (A : Nat) (u : Value) (x : Nat) : Prop := (u = .slice none 0 0 ∧ x = 0) ∨ ∃ g c, u = .slice (some ⟨g, 0, none⟩) 1 c ∧ Dig W A g c x
theorem DigW.own {W : World} {A : Nat} {u : Value} {x : Nat} (h : DigW W A u x) {k : Nat} (hk : u.ownBlock = some k) : A ≤ k ∧ k < W.heap.size ∧ ∃ c fr, W.heap[k]? = some (.cells c 47 fr) := by
  rcases h with ⟨rfl, _⟩ | ⟨g, c, rfl, h2⟩
  · simp [Value.ownBlock] at hk
  · obtain ⟨h3, h4⟩ := World.ownsRow.lt h2 k hk
    exact ⟨h3, h4, row_cells h2 hk⟩
theorem DigW.kept {W W' : World} {A : Nat} {u : Value} {x : Nat} {row : Option Nat} (h : DigW W A u x) (hg : W.grownBy W' row) (hr : ∀ k, u.ownBlock = some k → row ≠ some k) : DigW W' A u x := by
  rcases h with h | ⟨g, c, rfl, h2⟩
  · exact .inl h
  · exact .inr ⟨g, c, rfl, World.ownsRow.kept h2 hg (.inr (fun e => hr g rfl e.symm))⟩
structure LongW (b n : Nat) (us : Nat → Value) (f : Nat → Nat) (W : World) : Prop where
  row : W.rowIs b 62 n us
  own : ∀ s, s < n → DigW W (b + 1) (us s) (f s)
  apart : ∀ s t, s < n → t < n → s ≠ t → ∀ k, (us s).ownBlock = some k → (us t).ownBlock ≠ some k
theorem LongW.keep {b n : Nat} {us : Nat → Value} {f : Nat → Nat} {W W' : World} (h : LongW b n us f W) (hb : Below W.heap.size W W') : LongW b n us f W' :=
  ⟨World.rowIs.of_block h.row (hb.block b (World.rowIs.lt h.row)), fun s hs => (h.own s hs).kept (grown_none hb) (fun k _ => by simp), h.apart⟩
theorem LongW.made (w : World) (n : Nat) : LongW w.heap.size n (fun _ => .slice none 0 0) (fun _ => 0) (w.alloc (.cells (madeCells #[.slice none 0 0] n) 62)) :=
  ⟨World.rowIs_made w _ n _, fun s hs => .inl ⟨rfl, rfl⟩, fun s t _ _ _ k hk => by simp [Value.ownBlock] at hk⟩
theorem LongW.app {b n x y : Nat} {us : Nat → Value} {f : Nat → Nat} {W W' : World} {v' : Value} (h : LongW b n us f W) (hx : x < n) (hg : W.grownBy W' (us x).ownBlock) (hd : DigW W' (b + 1) v' y) (hv : ∀ k, v'.ownBlock = some k → (us x).ownBlock = some k ∨ W.heap.size ≤ k) :
    LongW b n (fun j => if j = x then v' else us j) (fun j => if j = x then y else f j) (W'.setCell ⟨b, x, none⟩ v') := by
  have hbl := World.rowIs.lt h.row
  have hrow : W'.rowIs b 62 n us := World.rowIs.of_block h.row (hg.block b hbl (fun e => by have := ((h.own x hx).own e.symm).1; omega))
  have hset := grownBy_setCellJ W' b x v'
  refine ⟨World.rowIs.set hrow x v', fun s hs => ?_, fun s t hs ht hst k hk => ?_⟩
  · by_cases e : s = x
    · subst e
      rw [if_pos rfl, if_pos rfl]
      exact hd.kept hset (fun k hk e => by injection e with e; subst e; have := (hd.own hk).1; omega)
    · rw [if_neg e, if_neg e]
      have h1 := (h.own s hs).kept hg (fun k hk e2 => h.apart x s hx hs (Ne.symm e) k e2 hk)
      exact h1.kept hset (fun k hk e => by injection e with e; subst e; have := (h1.own hk).1; omega)
  · by_cases e : s = x
    · subst e
      rw [if_pos rfl] at hk
      rw [if_neg (Ne.symm hst)]
      rcases hv k hk with h1 | h1
      · exact h.apart s t hs ht hst k h1
      · exact fun e2 => by have := ((h.own t ht).own e2).2.1; omega
    · rw [if_neg e] at hk
      by_cases e3 : t = x
      · subst e3
        rw [if_pos rfl]
        intro e2
        rcases hv k e2 with h1 | h1
        · exact h.apart s t hs ht hst k hk h1
        · have := ((h.own s hs).own hk).2.1; omega
      · rw [if_neg e3]; exact h.apart s t hs ht hst k hk
theorem LongW.num {b n : Nat} {us : Nat → Value} {f : Nat → Nat} {W : World} (h : LongW b n us f W) : NumRd W (.slice (some ⟨b, 0, none⟩) n n) n f :=
  ⟨b, rfl, World.rowIs.lt h.row, fun s hs => ⟨us s, World.rowIs.cell h.row hs, by
    rcases h.own s hs with h1 | ⟨g, c, h1, h2⟩
    · exact .inl h1
    · exact .inr ⟨g, c, h1, h2.cell⟩⟩⟩
/-- A sum in a row of its own. -/
theorem plus_row (A : Nat) (v u : Value) (x y : Nat) (w : World) (hA : A ≤ w.heap.size) (hv : DigW w A v x) (hu : DigRd w u y) (hxy : x + y < 18446744073709551616) :
    Calls Tryd.prog 50 #[v, u] w fun e w' => ∃ v', e = .returned v' ∧ DigW w' A v' (x + y) ∧ w.grownBy w' v.ownBlock ∧ (∀ k, v'.ownBlock = some k → v.ownBlock = some k ∨ w.heap.size ≤ k) ∧ (∃ a n c, v' = .slice a n c) := by
  rcases hu with ⟨rfl, rfl⟩ | ⟨q, c2, rfl, hc⟩
  · have hf : ∃ a n c, v = .slice a n c := by
      rcases hv with ⟨h, _⟩ | ⟨g, c, h, _⟩
      · exact ⟨_, _, _, h⟩
      · exact ⟨_, _, _, h⟩
    obtain ⟨a, n, c, hvv⟩ := hf
    subst hvv
    refine (plus_none a n c w).mono ?_
    rintro e w' ⟨he, rfl⟩
    exact ⟨_, he, by rw [Nat.add_zero]; exact hv, World.grownBy.refl _ _, fun k hk => .inl hk, _, _, _, rfl⟩
  · rcases hv with ⟨rfl, rfl⟩ | ⟨g, c, rfl, hd⟩
    · refine (plus_new q 0 c2 y w hc (by omega)).mono ?_
      rintro e w' ⟨g, c, he, h1, h2⟩
      exact ⟨_, he, .inr ⟨g, c, rfl, by rw [Nat.zero_add]; exact own_low h1 hA⟩, grown_none h2, fun k hk => .inr (World.ownsRow.lt h1 k hk).1, _, _, _, rfl⟩
    · refine (plus_two A g c q 0 c2 x y w hd hc hxy).mono ?_
      rintro e w' ⟨he, rfl⟩
      exact ⟨_, he, .inr ⟨g, c, rfl, hd.set _⟩, grownBy_setCellJ w g 0 _, fun k hk => .inl hk, _, _, _, rfl⟩
def SP (P0 b bn x z : Nat) (u1 u2 : Value) (W : World) : Prop := W.cell? ⟨P0, 0, none⟩ = some (.int .i64 (x : Int)) ∧ W.cell? ⟨P0, 2, none⟩ = some (.int .i64 (z : Int)) ∧ W.cell? ⟨b, x, none⟩ = some u1 ∧ W.cell? ⟨bn, z, none⟩ = some u2
theorem sp_grown {P0 b bn x z : Nat} {u1 u2 : Value} {W W' : World} (h : SP P0 b bn x z u1 u2 W) {row : Option Nat} (hg : W.grownBy W' row) (h0 : row ≠ some P0) (h1 : row ≠ some b) (h2 : row ≠ some bn) : SP P0 b bn x z u1 u2 W' := by
  have k : ∀ {p o : Nat} {y : Value}, W.cell? ⟨p, o, none⟩ = some y → row ≠ some p → W'.cell? ⟨p, o, none⟩ = some y := fun {p o y} hc hr =>
    (World.cell?_of_block (w := W) (a := ⟨p, o, none⟩) (hg.block p (World.block_lt_of_cell? W ⟨p, o, none⟩ hc) (Ne.symm hr))).trans hc
  exact ⟨k h.1 h0, k h.2.1 h0, k h.2.2.1 h1, k h.2.2.2 h2⟩
set_option maxRecDepth 100000 in
set_option maxHeartbeats 12800000 in
theorem paths_any (La : Int) (n N : Nat) (es : List E3) (v : Value) (w : World) (hrd : EdgesRd w v es) (hn : n ≤ 64) (hN : N ≤ 100000) (hlen : es.length ≤ 1024) (hes : ∀ e ∈ es, 0 ≤ e.1 ∧ e.1 < (n : Int) ∧ 0 ≤ e.2.2 ∧ e.2.2 < (n : Int))
    (hB : ∀ k, k < N → ∀ i, i ≤ es.length → ∀ s, s < n → lonF (wayF es k) (es.take i) s < 18446744073709551616) :
    Calls Tryd.prog 29 #[grV La (n : Int) v, .int .i64 (N : Int)] w fun e w' => ∃ u, e = .returned u ∧ NumRd w' u n (wayF es N) ∧ Below w.heap.size w w' := by
  have hmx : Tryd.prog.follows .mixedOrders = true := by kernel_rfl
  have HMN := make_nats n (by omega)
  have HRD := Lib.hid hrd
  have HES := Lib.hid hes
  have HBB := Lib.hid hB
  obtain ⟨a, c, rfl⟩ := hrd.form
  obtain ⟨W1, hW1⟩ : ∃ W1, ((w.alloc (.cells #[.int .i64 La, .int .i64 (n : Int), .slice a es.length c] 24)).alloc (.cells #[.int .u64 1] 47)).alloc (.cells #[.slice (some ⟨w.heap.size + 1, 0, none⟩) 1 1] 62) = W1 := ⟨_, rfl⟩
  have z1 : W1.heap.size = w.heap.size + 3 := by rw [← hW1, World.size_alloc, World.size_alloc, World.size_alloc]
  have G1 := Lib.hid (show BoxG W1 w.heap.size La (n : Int) (.slice a es.length c) by rw [← hW1]; exact ((BoxG.new w La (n : Int) _ _).keep (below1 _ _)).keep (below1 _ _))
  have B1 := Lib.hid (show Below w.heap.size w W1 by rw [← hW1]; exact below_more (below_more (below1 w _) (Nat.le_refl _) (below1 _ _)) (Nat.le_refl _) (below1 _ _))
  have D1 := Lib.hid (show W1.cell? ⟨w.heap.size + 1, 0, none⟩ = some (u64v 1) by
    rw [← hW1]
    have y1 := (Boxed.new (w.alloc (.cells #[.int .i64 La, .int .i64 (n : Int), .slice a es.length c] 24)) 47 (u64v 1)).cell
    rw [World.size_alloc] at y1
    exact cell_keep y1 (below1 _ _))
  have E1 : W1.cell? ⟨w.heap.size + 1 + 1, 0, none⟩ = some (oneV (w.heap.size + 1)) := by
    rw [← hW1]
    have y1 := (Boxed.new ((w.alloc (.cells #[.int .i64 La, .int .i64 (n : Int), .slice a es.length c] 24)).alloc (.cells #[.int .u64 1] 47)) 62 (oneV (w.heap.size + 1))).cell
    rw [World.size_alloc, World.size_alloc] at y1
    exact y1
  have HRP := Lib.hid (repeatN_any n (w.heap.size + 1 + 1) 1 (w.heap.size + 1) W1 hn E1)
  obtain ⟨x1, x2, x3⟩ := id G1.out
  have HW := Lib.hid hW1
  clear hrd hes hB E1
  go_enter Tryd.func29, Tryd.ntmps29
  go_wp2_with (go_at_call 49; (with_reducible refine HRP.out.mono ?_); rintro e W2 ⟨rfl, hrow, b2⟩)
  have G2 := Lib.hid (G1.out.keep b2)
  have B2 := Lib.hid (show Below w.heap.size w W2 from B1.out.trans (b2.mono (by omega)))
  have NU := Lib.hid (show NumRd W2 (.slice (some ⟨W1.heap.size, 0, none⟩) n n) n (wayF es 0) from ⟨W1.heap.size, rfl, World.rowIs.lt hrow, fun s hs => ⟨_, World.rowIs.cell hrow hs, .inr ⟨_, _, rfl, cell_keep D1.out b2⟩⟩⟩)
  rw [z1] at NU
  have hs2 : w.heap.size + 3 ≤ W2.heap.size := by have := b2.size; omega
  clear x1 x2 x3 hrow b2 G1 B1 D1 HRP
  go_loopg [5, 15] N (fun q s5 s15 wx => ∃ i : Nat, i + q = N ∧ s15 = .int .i64 (i : Int) ∧ Hid (NumRd wx s5 n (wayF es i)) ∧ Hid (BoxG wx w.heap.size La (n : Int) (.slice a es.length c)) ∧ Hid (Below w.heap.size w wx) ∧ w.heap.size + 3 ≤ wx.heap.size)
  case atStart => exact ⟨0, by omega, rfl, NU, G2, B2, hs2⟩
  case round =>
    clear NU G2 B2 hs2
    obtain ⟨i, hin, rfl, NU, G, B, hsz⟩ := hrel
    obtain ⟨bn, rfl, hbn, hnum⟩ := id NU.out
    rcases gk with _ | q
    · obtain rfl : i = N := by omega
      go_wp2_with fail
      go_ret
      exact ⟨_, rfl, NU.out, B.out⟩
    · obtain ⟨x1, x2, x3⟩ := id G.out
      have j1 : (i : Int) < (N : Int) := by omega
      have hb1 := below1 wr (.cells (madeCells #[.slice none 0 0] n) 62)
      obtain ⟨y1, y2, y3⟩ := id (G.out.keep hb1)
      have L0 := Lib.hid (LongW.made wr n)
      have T0 := Lib.hid hb1
      have HNUM := Lib.hid hnum
      clear hnum hb1
      go_upto_region 6 with fail
      clear x1 x2 x3 y1 y2 y3
      obtain ⟨Wo, hWo⟩ : ∃ Wo, Wo = wr := ⟨_, rfl⟩
      rw [← hWo] at hsz hbn L0 T0 NU G B HNUM ⊢
      obtain ⟨b, hb⟩ : ∃ b, Wo.heap.size = b := ⟨_, rfl⟩
      rw [hb] at L0 T0 hbn hsz ⊢
      clear hWo
      generalize Wo.alloc (.cells (madeCells #[.slice none 0 0] n) 62) = W3 at *
      go_loopg [23] es.length (fun q s23 wx => ∃ (k : Nat) (us : Nat → Value), k + q = es.length ∧ s23 = .int .i64 (k : Int) ∧ Hid (LongW b n us (lonF (wayF es i) (es.take k)) wx) ∧ Hid (Below b Wo wx))
      case atStart => exact ⟨0, _, by omega, rfl, L0, T0⟩
      case round =>
        clear L0 T0
        obtain ⟨k, us, hkn, rfl, LW, T⟩ := hrel
        rcases gk with _ | q2
        · obtain rfl : k = es.length := by omega
          have HE := Lib.hid (List.take_length (l := es))
          have HT2 := Lib.hid (show Below Wo.heap.size Wo wr by rw [hb]; exact T.out)
          go_wp2_with fail
          go_roundg q
          case measure => omega
          case rel =>
            refine ⟨i + 1, by omega, by go_num, Lib.hid ?_, Lib.hid (G.out.keep HT2.out), Lib.hid (B.out.trans (HT2.out.mono (by omega))), by have := HT2.out.size; omega⟩
            have h1 := LW.out.num
            rw [HE.out] at h1
            exact h1
        · obtain ⟨e, he⟩ : ∃ e, es[k]? = some e := ⟨_, List.getElem?_eq_getElem (by omega)⟩
          have hek := HES.out e (List.mem_of_getElem? he)
          have HT2 := Lib.hid (show Below Wo.heap.size Wo wr by rw [hb]; exact T.out)
          obtain ⟨bb, off, c', hv, k1, k2, k3⟩ := ((HRD.out.keep B.out).keep HT2.out).at he
          injection hv with e1 e2 e3
          subst e1
          subst e3
          have HT := Lib.hid (take_snoc he)
          obtain ⟨x, y, z⟩ := e
          dsimp only at hek k1 k2 k3
          obtain ⟨hx0, hx1, hz0, hz1⟩ := hek
          obtain ⟨x, rfl⟩ : ∃ m : Nat, x = (m : Int) := ⟨x.toNat, by omega⟩
          obtain ⟨z, rfl⟩ : ∃ m : Nat, z = (m : Int) := ⟨z.toNat, by omega⟩
          have hxn : x < n := by omega
          have hzn : z < n := by omega
          have o1 := below1 wr (.cells #[.int .i64 (x : Int), .int .i64 y, .int .i64 (z : Int)] 57)
          have L1 := Lib.hid (LW.out.keep o1)
          have T1 := Lib.hid (show Below b Wo (wr.alloc (.cells #[.int .i64 (x : Int), .int .i64 y, .int .i64 (z : Int)] 57)) from T.out.alloc (by have := T.out.size; omega) _)
          have X1 := Box3.new wr (x : Int) y (z : Int) 57
          have XH := heap_alloc_new wr (.cells #[.int .i64 (x : Int), .int .i64 y, .int .i64 (z : Int)] 57)
          have j2 : (k : Int) < (es.length : Int) := by omega
          have j3 : (x : Int) < (n : Int) := by omega
          have j4 : (z : Int) < (n : Int) := by omega
          have hbd := HBB.out i (by omega) (k + 1) (by omega) x hxn
          rw [HT.out, lonF_snoc] at hbd
          unfold addF at hbd
          dsimp only at hbd
          rw [if_pos rfl, Int.toNat_natCast] at hbd
          go_upto_region 8 with fail
          obtain ⟨W1, hW1⟩ : ∃ W1, wr.alloc (.cells #[.int .i64 (x : Int), .int .i64 y, .int .i64 (z : Int)] 57) = W1 := ⟨_, rfl⟩
          obtain ⟨P0, hP0⟩ : ∃ P0, wr.heap.size = P0 := ⟨_, rfl⟩
          rw [hP0] at X1 XH
          rw [hW1] at L1 X1 T1 XH ⊢
          rw [hP0]
          obtain ⟨x1, x2, x3, -, -, -⟩ := id X1
          obtain ⟨u2, hu2, hd2⟩ := HNUM.out z hzn
          have HT3 : Below Wo.heap.size Wo W1 := by rw [hb]; exact T1.out
          have cu2 := cell_keep hu2 HT3
          have du2 := hd2.keep HT3
          have cu1 := World.rowIs.cell L1.out.row hxn
          have ho1 := L1.out.own x hxn
          have HPL := Lib.hid (plus_row (b + 1) (us x) u2 (lonF (wayF es i) (es.take k) x) (wayF es i z) W1.drew (by have := World.rowIs.lt L1.out.row; show b + 1 ≤ W1.heap.size; omega) (by exact ho1) (by exact du2) hbd)
          have HO := Lib.hid (fun kk (hk : (us x).ownBlock = some kk) => ho1.own hk)
          obtain ⟨au, nu, cu, hus⟩ : ∃ a n c, us x = .slice a n c := by
            rcases ho1 with ⟨h, _⟩ | ⟨g, c, h, _⟩
            · exact ⟨_, _, _, h⟩
            · exact ⟨_, _, _, h⟩
          obtain ⟨au2, nu2, cu3, hus2⟩ : ∃ a n c, u2 = .slice a n c := by
            rcases hd2 with ⟨h, _⟩ | ⟨g, c, h, _⟩
            · exact ⟨_, _, _, h⟩
            · exact ⟨_, _, _, h⟩
          subst hus2
          have HUS := Lib.hid hus
          rw [hus] at cu1 HPL HO
          have hR0 : SP P0 b bn x z (.slice au nu cu) (.slice au2 nu2 cu3) W1.drew := ⟨x1, x3, cu1, cu2⟩
          have hP1 : (Value.slice au nu cu).ownBlock ≠ some P0 := fun e => by
            obtain ⟨_, _, cc, fr, h5⟩ := HO.out P0 e
            rw [XH] at h5
            injection h5 with h5
            injection h5 with _ h5 _
            exact absurd h5 (by decide)
          have hP2 : (Value.slice au nu cu).ownBlock ≠ some b := fun e => by have := (HO.out b e).1; omega
          have hP3 : (Value.slice au nu cu).ownBlock ≠ some bn := fun e => by have := (HO.out bn e).1; omega
          clear hW1 hP0 k1 k2 k3 X1 LW e2 he o1 hus ho1 hu2 hd2 cu1 cu2 du2 x1 x2 x3 T XH HT3
          -- region 8
          refine regionT (T := T2 15 15 (SP P0 b bn x z (.slice au nu cu) (.slice au2 nu2 cu3)) (SP P0 b bn x z (.slice au nu cu) (.slice au2 nu2 cu3))) hmx ?_
          have hR := hR0
          refine take1 (i := 0) (v := ?_) rfl (by kernel_rfl) (by kernel_rfl) (by kernel_rfl) (by kernel_rfl) (by kernel_rfl) (by decide) (by decide) (fun _ _ _ h => h) (Or.inl ⟨by rfl, ?_⟩) hR hR ?_
          rotate_left
          · intro w hSw
            (try unfold SP at hSw)
            go_simp
            all_goals with_reducible rfl
          (try simp only [Act.put, List.setIfInBounds_toArray, List.set_cons_zero, List.set_cons_succ])
          refine take1 (i := 1) (v := ?_) rfl (by kernel_rfl) (by kernel_rfl) (by kernel_rfl) (by kernel_rfl) (by kernel_rfl) (by decide) (by decide) (fun _ _ _ h => h) (Or.inl ⟨by rfl, ?_⟩) hR hR ?_
          rotate_left
          · intro w hSw
            (try unfold SP at hSw)
            go_simp
            all_goals with_reducible rfl
          (try simp only [Act.put, List.setIfInBounds_toArray, List.set_cons_zero, List.set_cons_succ])
          refine take1 (i := 2) (v := ?_) rfl (by kernel_rfl) (by kernel_rfl) (by kernel_rfl) (by kernel_rfl) (by kernel_rfl) (by decide) (by decide) (fun _ _ _ h => h) (Or.inl ⟨by rfl, ?_⟩) hR hR ?_
          rotate_left
          · intro w hSw
            (try unfold SP at hSw)
            go_simp
            all_goals with_reducible rfl
          (try simp only [Act.put, List.setIfInBounds_toArray, List.set_cons_zero, List.set_cons_succ])
          refine take1 (i := 3) (v := ?_) rfl (by kernel_rfl) (by kernel_rfl) (by kernel_rfl) (by kernel_rfl) (by kernel_rfl) (by decide) (by decide) (fun _ _ _ h => h) (Or.inl ⟨by rfl, ?_⟩) hR hR ?_
          rotate_left
          · intro w hSw
            (try unfold SP at hSw)
            go_simp
            all_goals with_reducible rfl
          (try simp only [Act.put, List.setIfInBounds_toArray, List.set_cons_zero, List.set_cons_succ])
          refine take1 (i := 4) (v := ?_) rfl (by kernel_rfl) (by kernel_rfl) (by kernel_rfl) (by kernel_rfl) (by kernel_rfl) (by decide) (by decide) (fun _ _ _ h => h) (Or.inl ⟨by rfl, ?_⟩) hR hR ?_
          rotate_left
          · intro w hSw
            (try unfold SP at hSw)
            go_simp
            all_goals with_reducible rfl
          (try simp only [Act.put, List.setIfInBounds_toArray, List.set_cons_zero, List.set_cons_succ])
          refine take1 (i := 5) (v := ?_) rfl (by kernel_rfl) (by kernel_rfl) (by kernel_rfl) (by kernel_rfl) (by kernel_rfl) (by decide) (by decide) (fun _ _ _ h => h) (Or.inl ⟨by rfl, ?_⟩) hR hR ?_
          rotate_left
          · intro w hSw
            (try unfold SP at hSw)
            go_simp
            all_goals with_reducible rfl
          (try simp only [Act.put, List.setIfInBounds_toArray, List.set_cons_zero, List.set_cons_succ])
          refine take1 (i := 6) (v := ?_) rfl (by kernel_rfl) (by kernel_rfl) (by kernel_rfl) (by kernel_rfl) (by kernel_rfl) (by decide) (by decide) (fun _ _ _ h => h) (Or.inl ⟨by rfl, ?_⟩) hR hR ?_
          rotate_left
          · intro w hSw
            (try unfold SP at hSw)
            go_simp
            all_goals with_reducible rfl
          (try simp only [Act.put, List.setIfInBounds_toArray, List.set_cons_zero, List.set_cons_succ])
          refine take1 (i := 7) (v := ?_) rfl (by kernel_rfl) (by kernel_rfl) (by kernel_rfl) (by kernel_rfl) (by kernel_rfl) (by decide) (by decide) (fun _ _ _ h => h) (Or.inl ⟨by rfl, ?_⟩) hR hR ?_
          rotate_left
          · intro w hSw
            (try unfold SP at hSw)
            go_simp
            all_goals with_reducible rfl
          (try simp only [Act.put, List.setIfInBounds_toArray, List.set_cons_zero, List.set_cons_succ])
          refine take1 (i := 8) (v := ?_) rfl (by kernel_rfl) (by kernel_rfl) (by kernel_rfl) (by kernel_rfl) (by kernel_rfl) (by decide) (by decide) (fun _ _ _ h => h) (Or.inl ⟨by rfl, ?_⟩) hR hR ?_
          rotate_left
          · intro w hSw
            (try unfold SP at hSw)
            go_simp
            all_goals with_reducible rfl
          (try simp only [Act.put, List.setIfInBounds_toArray, List.set_cons_zero, List.set_cons_succ])
          refine take1 (i := 9) (v := ?_) rfl (by kernel_rfl) (by kernel_rfl) (by kernel_rfl) (by kernel_rfl) (by kernel_rfl) (by decide) (by decide) (fun _ _ _ h => h) (Or.inl ⟨by rfl, ?_⟩) hR hR ?_
          rotate_left
          · intro w hSw
            (try unfold SP at hSw)
            go_simp
            all_goals with_reducible rfl
          (try simp only [Act.put, List.setIfInBounds_toArray, List.set_cons_zero, List.set_cons_succ])
          refine take1 (i := 10) (v := ?_) rfl (by kernel_rfl) (by kernel_rfl) (by kernel_rfl) (by kernel_rfl) (by kernel_rfl) (by decide) (by decide) (fun _ _ _ h => h) (Or.inl ⟨by rfl, ?_⟩) hR hR ?_
          rotate_left
          · intro w hSw
            (try unfold SP at hSw)
            go_simp
            all_goals with_reducible rfl
          (try simp only [Act.put, List.setIfInBounds_toArray, List.set_cons_zero, List.set_cons_succ])
          refine take1 (i := 11) (v := ?_) rfl (by kernel_rfl) (by kernel_rfl) (by kernel_rfl) (by kernel_rfl) (by kernel_rfl) (by decide) (by decide) (fun _ _ _ h => h) (Or.inl ⟨by rfl, ?_⟩) hR hR ?_
          rotate_left
          · intro w hSw
            (try unfold SP at hSw)
            go_simp
            all_goals with_reducible rfl
          (try simp only [Act.put, List.setIfInBounds_toArray, List.set_cons_zero, List.set_cons_succ])
          refine take1 (i := 12) (v := ?_) rfl (by kernel_rfl) (by kernel_rfl) (by kernel_rfl) (by kernel_rfl) (by kernel_rfl) (by decide) (by decide) (fun _ _ _ h => h) (Or.inl ⟨by rfl, ?_⟩) hR hR ?_
          rotate_left
          · intro w hSw
            (try unfold SP at hSw)
            go_simp
            all_goals with_reducible rfl
          (try simp only [Act.put, List.setIfInBounds_toArray, List.set_cons_zero, List.set_cons_succ])
          refine stepT (i := 13) (by kernel_rfl) rfl (fun K hK => ?_)
          go_simp
          go_at_call 50
          (with_reducible refine HPL.out.mono ?_)
          rintro e0 W5 ⟨v5, rfl, hd5, hg5, hv5, ⟨a5, n5, c5, rfl⟩⟩
          have hR5 := sp_grown hR0 hg5 hP1 hP2 hP3
          have hg' : W1.grownBy W5 (Value.slice au nu cu).ownBlock := ⟨hg5.os, hg5.tape, hg5.output, hg5.size, hg5.block⟩
          have f5 : W5.frozen? ⟨b, x, none⟩ = false := World.rowIs.frozen (World.rowIs.of_block L1.out.row (hg'.block b (World.rowIs.lt L1.out.row) (Ne.symm hP2))) x
          have c5' := hR5.2.2.1
          go_wp2_with fail
          refine hK.out _ _ ⟨fun _ => hR5, fun _ => hR5⟩ ?_
          clear hK K hR
          have hR := hR5
          (try simp only [Act.put, List.setIfInBounds_toArray, List.set_cons_zero, List.set_cons_succ])
          refine take1 (i := 14) (v := ?_) rfl (by kernel_rfl) (by kernel_rfl) (by kernel_rfl) (by kernel_rfl) (by kernel_rfl) (by decide) (by decide) (fun _ _ _ h => h) (Or.inl ⟨by rfl, ?_⟩) hR hR ?_
          rotate_left
          · intro w hSw
            (try unfold SP at hSw)
            go_simp
            all_goals with_reducible rfl
          (try simp only [Act.put, List.setIfInBounds_toArray, List.set_cons_zero, List.set_cons_succ])
          refine stepT (i := 15) (by kernel_rfl) rfl (fun K hK => ?_)
          go_simp
          refine hK.out _ _ ⟨fun h => absurd h (by decide), fun h => absurd h (by decide)⟩ ?_
          clear hK K
          (try simp only [Act.put, List.setIfInBounds_toArray, List.set_cons_zero, List.set_cons_succ])
          refine doneT (by kernel_rfl) ?_ _
          -- behind region 8
          go_wp2_with fail
          go_roundg q2
          case measure => omega
          case rel =>
            refine ⟨k + 1, (fun j => if j = x then .slice a5 n5 c5 else us j), by omega, by go_num, Lib.hid ?_, Lib.hid ?_⟩
            · have h1 := L1.out.app (W' := W5) hxn (show W1.grownBy W5 (us x).ownBlock by rw [HUS.out]; exact hg') hd5 (by rw [HUS.out]; exact hv5)
              rw [HT.out, lonF_snoc]
              unfold addF
              dsimp only
              refine ⟨h1.row, fun s hs => ?_, h1.apart⟩
              have h2 := h1.own s hs
              by_cases e : s = x
              · subst e; rw [if_pos rfl] at h2 ⊢; rw [if_pos rfl] at h2; rw [if_pos rfl, Int.toNat_natCast]; exact h2
              · rw [if_neg e] at h2 ⊢; rw [if_neg e] at h2; rw [if_neg (by omega)]; exact h2
            · exact ((T1.out).grown hg' (by have := World.rowIs.lt L1.out.row; omega) (fun kk e => by have := (HO.out kk e).1; omega)).setCell (by show b ≤ b; omega) _
end Go.Proofs.YthhbbiafffpknaaDoor

namespace Go.Proofs.YthhbbiafffpknaaDoor
open Go.RowKit
set_option linter.unusedSimpArgs false
set_option linter.unusedVariables false

theorem take_ne {α : Type} {l m : List α} {i : Nat} {x y : α} (hx : l[i]? = some x) (hy : m[i]? = some y) (h : x ≠ y) : l ≠ m := fun e => h (by rw [e, hy] at hx; injection hx with hx; exact hx.symm)
theorem take_all {α : Type} {l m : List α} (hl : l.length = m.length) (h : l.take l.length = m.take l.length) : l = m := by
  rw [List.take_length, hl, List.take_length] at h; exact h
set_option maxRecDepth 100000 in
set_option maxHeartbeats 3200000 in
theorem same12_any (l m : List Int) (u v : Value) (w : World) (hu : IntsRd w u l) (hv : IntsRd w v m) (hl : l.length ≤ 100000) (hm : m.length ≤ 9223372036854775807) :
    Calls Tryd.prog 16 #[u, v] w fun e w' => e = .returned (.bool (decide (l = m))) ∧ Below w.heap.size w w' := by
  have HU := Lib.hid hu
  have HV := Lib.hid hv
  obtain ⟨a, c, rfl⟩ := hu.form
  obtain ⟨a2, c2, rfl⟩ := hv.form
  clear hu hv
  by_cases h0 : l.length = m.length
  · have d0 : ((l.length : Int) != (m.length : Int)) = false := by rw [h0]; simp
    obtain ⟨R, hR⟩ : ∃ R, decide (l = m) = R := ⟨_, rfl⟩
    have HR := Lib.hid hR
    have HL0 := Lib.hid h0
    rw [hR]
    rw [← h0] at d0 ⊢
    clear hR h0
    go_enter Tryd.func16, Tryd.ntmps16
    go_wp2_with fail
    go_loopg [5] l.length (fun q s5 wx => ∃ i : Nat, i + q = l.length ∧ s5 = .int .i64 (i : Int) ∧ Hid (l.take i = m.take i) ∧ Hid (Below w.heap.size w wx))
    case atStart => exact ⟨0, by omega, rfl, Lib.hid rfl, Lib.hid (Below.refl _ _)⟩
    case round =>
      obtain ⟨i, hin, rfl, HT, HB⟩ := hrel
      rcases gk with _ | q
      · obtain rfl : i = l.length := by omega
        have HE := Lib.hid (show R = true by rw [← HR.out]; exact decide_eq_true (take_all HL0.out HT.out))
        have j1 : ¬ ((l.length : Int) < (l.length : Int)) := by omega
        go_wp2_with fail
        go_ret
        exact ⟨by rw [HE.out]; rfl, HB.out⟩
      · obtain ⟨x, hx⟩ : ∃ x, l[i]? = some x := ⟨_, List.getElem?_eq_getElem (by omega)⟩
        obtain ⟨y, hy⟩ : ∃ y, m[i]? = some y := ⟨_, List.getElem?_eq_getElem (by have := HL0.out; omega)⟩
        obtain ⟨b1, o1, k1, e1, c1⟩ := (HU.out.keep HB.out).at hx
        obtain ⟨b2, o2, k2, e2, c3⟩ := (HV.out.keep HB.out).at hy
        injection e1 with e1 _ e3
        injection e2 with e2 _ e4
        subst e1
        subst e2
        subst e3
        subst e4
        have HX := Lib.hid hx
        have HY := Lib.hid hy
        have HLM := Lib.hid HL0.out
        have j1 : (i : Int) < (l.length : Int) := by omega
        have KX := Lib.hid (show wr.drew.cell? ⟨b1, o1 + i, none⟩ = some (.int .i64 x) ∧ wr.drew.cell? ⟨b2, o2 + i, none⟩ = some (.int .i64 y) from ⟨c1, c3⟩)
        have j2 : i < l.length := by omega
        clear hx hy
        by_cases hxy : x = y
        · have d1 : (x != y) = false := by simpa using hxy
          have HT2 := Lib.hid (show l.take (i + 1) = m.take (i + 1) by rw [take_snoc HX.out, take_snoc HY.out, HT.out, hxy])
          clear hxy
          go_upto_region 6 with fail
          go_region_held3 (fun W => W.cell? ⟨b1, o1 + i, none⟩ = some (.int .i64 x) ∧ W.cell? ⟨b2, o2 + i, none⟩ = some (.int .i64 y)) (first | exact KX.out | go_keep) (fail)
          all_goals
            go_wp2_with fail
            go_roundg q
            case measure => omega
            case rel => exact ⟨i + 1, by omega, by go_num, HT2, Lib.hid HB.out.drew⟩
        · have d1 : (x != y) = true := by simpa using hxy
          have HE := Lib.hid (show R = false by rw [← HR.out]; exact decide_eq_false (take_ne HX.out HY.out hxy))
          clear hxy
          go_upto_region 6 with fail
          go_region_held3 (fun W => W.cell? ⟨b1, o1 + i, none⟩ = some (.int .i64 x) ∧ W.cell? ⟨b2, o2 + i, none⟩ = some (.int .i64 y)) (first | exact KX.out | go_keep) (fail)
          all_goals
            go_wp2_with fail
            go_ret
            exact ⟨by rw [HE.out]; rfl, HB.out.drew⟩
  · have d0 : ((l.length : Int) != (m.length : Int)) = true := by rw [bne_iff_ne]; omega
    have HE := Lib.hid (show decide (l = m) = false from decide_eq_false (fun e => h0 (by rw [e])))
    clear h0
    go_enter Tryd.func16, Tryd.ntmps16
    go_wp2_with fail
    go_ret
    exact ⟨by rw [HE.out]; rfl, Below.refl _ _⟩
set_option maxRecDepth 100000 in
set_option maxHeartbeats 3200000 in
theorem sameSets_any (l m : List (List Int)) (u v : Value) (w : World) (hu : RowsRd w u l) (hv : RowsRd w v m) (hl : l.length ≤ 100000) (hm : m.length ≤ 9223372036854775807) (hl2 : ∀ r ∈ l, r.length ≤ 100000) (hm2 : ∀ r ∈ m, r.length ≤ 100000) :
    Calls Tryd.prog 11 #[u, v] w fun e w' => e = .returned (.bool (decide (l = m))) ∧ Below w.heap.size w w' := by
  have HU := Lib.hid hu
  have HV := Lib.hid hv
  have HL2 := Lib.hid hl2
  have HM2 := Lib.hid hm2
  obtain ⟨a, c, rfl⟩ := hu.form
  obtain ⟨a2, c2, rfl⟩ := hv.form
  clear hu hv hl2 hm2
  by_cases h0 : l.length = m.length
  · have d0 : ((l.length : Int) != (m.length : Int)) = false := by rw [h0]; simp
    obtain ⟨R, hR⟩ : ∃ R, decide (l = m) = R := ⟨_, rfl⟩
    have HR := Lib.hid hR
    have HL0 := Lib.hid h0
    rw [hR]
    rw [← h0] at d0 ⊢
    clear hR h0
    go_enter Tryd.func11, Tryd.ntmps11
    go_wp2_with fail
    go_loopg [5] l.length (fun q s5 wx => ∃ i : Nat, i + q = l.length ∧ s5 = .int .i64 (i : Int) ∧ Hid (l.take i = m.take i) ∧ Hid (Below w.heap.size w wx))
    case atStart => exact ⟨0, by omega, rfl, Lib.hid rfl, Lib.hid (Below.refl _ _)⟩
    case round =>
      obtain ⟨i, hin, rfl, HT, HB⟩ := hrel
      rcases gk with _ | q
      · obtain rfl : i = l.length := by omega
        have HE := Lib.hid (show R = true by rw [← HR.out]; exact decide_eq_true (take_all HL0.out HT.out))
        have j1 : ¬ ((l.length : Int) < (l.length : Int)) := by omega
        go_wp2_with fail
        go_ret
        exact ⟨by rw [HE.out]; rfl, HB.out⟩
      · obtain ⟨x, hx⟩ : ∃ x, l[i]? = some x := ⟨_, List.getElem?_eq_getElem (by omega)⟩
        obtain ⟨y, hy⟩ : ∃ y, m[i]? = some y := ⟨_, List.getElem?_eq_getElem (by have := HL0.out; omega)⟩
        obtain ⟨b1, o1, k1, u1, e1, c1, r1⟩ := (HU.out.keep HB.out).at hx
        obtain ⟨b2, o2, k2, u2, e2, c3, r2⟩ := (HV.out.keep HB.out).at hy
        injection e1 with e1 _ e3
        injection e2 with e2 _ e4
        subst e1
        subst e2
        subst e3
        subst e4
        have HX := Lib.hid hx
        have HY := Lib.hid hy
        have HS := Lib.hid (same12_any x y u1 u2 wr.drew (r1.keep (Below.refl _ _).drew) (r2.keep (Below.refl _ _).drew) (HL2.out x (List.mem_of_getElem? hx)) (by have := HM2.out y (List.mem_of_getElem? hy); omega))
        obtain ⟨a1, k1', rfl⟩ := r1.form
        obtain ⟨a3, k2', rfl⟩ := r2.form
        have j1 : (i : Int) < (l.length : Int) := by omega
        have KX := Lib.hid (show wr.drew.cell? ⟨b1, o1 + i, none⟩ = some (.slice a1 x.length k1') ∧ wr.drew.cell? ⟨b2, o2 + i, none⟩ = some (.slice a3 y.length k2') from ⟨c1, c3⟩)
        have j2 : i < l.length := by omega
        clear hx hy r1 r2 c1 c3
        by_cases hxy : x = y
        · have HT2 := Lib.hid (show l.take (i + 1) = m.take (i + 1) by rw [take_snoc HX.out, take_snoc HY.out, HT.out, hxy])
          rw [decide_eq_true hxy] at HS
          clear hxy
          go_upto_region 6 with fail
          go_region_held3 (fun W => W.cell? ⟨b1, o1 + i, none⟩ = some (.slice a1 x.length k1') ∧ W.cell? ⟨b2, o2 + i, none⟩ = some (.slice a3 y.length k2')) (first | exact KX.out | exact ⟨cell_keep KX.out.1 b5, cell_keep KX.out.2 b5⟩ | go_keep)
            (first | (go_at_call 16; (with_reducible refine HS.out.mono ?_); rintro e0 W5 ⟨rfl, b5⟩))
          all_goals
            go_wp2_with fail
            go_roundg q
            case measure => omega
            case rel => exact ⟨i + 1, by omega, by go_num, HT2, Lib.hid (HB.out.drew.trans (b5.mono HB.out.size))⟩
        · have HE := Lib.hid (show R = false by rw [← HR.out]; exact decide_eq_false (take_ne HX.out HY.out hxy))
          rw [decide_eq_false hxy] at HS
          clear hxy
          go_upto_region 6 with fail
          go_region_held3 (fun W => W.cell? ⟨b1, o1 + i, none⟩ = some (.slice a1 x.length k1') ∧ W.cell? ⟨b2, o2 + i, none⟩ = some (.slice a3 y.length k2')) (first | exact KX.out | exact ⟨cell_keep KX.out.1 b5, cell_keep KX.out.2 b5⟩ | go_keep)
            (first | (go_at_call 16; (with_reducible refine HS.out.mono ?_); rintro e0 W5 ⟨rfl, b5⟩))
          all_goals
            go_wp2_with fail
            go_ret
            exact ⟨by rw [HE.out]; rfl, HB.out.drew.trans (b5.mono HB.out.size)⟩
  · have d0 : ((l.length : Int) != (m.length : Int)) = true := by rw [bne_iff_ne]; omega
    have HE := Lib.hid (show decide (l = m) = false from decide_eq_false (fun e => h0 (by rw [e])))
    clear h0
    go_enter Tryd.func11, Tryd.ntmps11
    go_wp2_with fail
    go_ret
    exact ⟨by rw [HE.out]; rfl, Below.refl _ _⟩
/-- The example's graph. -/
abbrev evE : List E3 := [(0, 0, 1), (0, 1, 0), (1, 0, 0)]
set_option maxRecDepth 100000 in
set_option maxHeartbeats 1600000 in
theorem even_any (w : World) : Calls Tryd.prog 13 #[] w fun e w' => ∃ g, e = .returned (grV 2 2 (.slice (some ⟨g, 0, none⟩) 3 3)) ∧ EdgesRd w' (.slice (some ⟨g, 0, none⟩) 3 3) evE ∧ Below w.heap.size w w' := by
  have hs : (w.alloc (.cells #[.int .i64 2, .int .i64 2, .slice (some ⟨w.heap.size + 1, 0, none⟩) 3 3] 24)).heap.size = w.heap.size + 1 := World.size_alloc ..
  have he : EdgesAt ((w.alloc (.cells #[.int .i64 2, .int .i64 2, .slice (some ⟨w.heap.size + 1, 0, none⟩) 3 3] 24)).alloc (.cells #[.int .i64 0, .int .i64 0, .int .i64 1, .int .i64 0, .int .i64 1, .int .i64 0, .int .i64 1, .int .i64 0, .int .i64 0] 57)) (w.heap.size + 1) (.slice (some ⟨w.heap.size + 1, 0, none⟩) 3 3) evE := by
    have k := edgesLit (w.alloc (.cells #[.int .i64 2, .int .i64 2, .slice (some ⟨w.heap.size + 1, 0, none⟩) 3 3] 24)) evE (by decide) (by decide)
    rw [hs] at k
    exact k
  have HE := Lib.hid he
  have hb := Lib.hid ((below1 w (.cells #[.int .i64 2, .int .i64 2, .slice (some ⟨w.heap.size + 1, 0, none⟩) 3 3] 24)).alloc (by rw [hs]; omega) (.cells #[.int .i64 0, .int .i64 0, .int .i64 1, .int .i64 0, .int .i64 1, .int .i64 0, .int .i64 1, .int .i64 0, .int .i64 0] 57))
  clear he
  go_enter Tryd.func13, Tryd.ntmps13
  go_wp2
  exact bodyPost_ret (v := grV 2 2 (.slice (some ⟨w.heap.size + 1, 0, none⟩) 3 3)) (by simp [results, Tryd.results13, go_sem]) rfl ⟨_, rfl, HE.out.rd, hb.out⟩
end Go.Proofs.YthhbbiafffpknaaDoor
