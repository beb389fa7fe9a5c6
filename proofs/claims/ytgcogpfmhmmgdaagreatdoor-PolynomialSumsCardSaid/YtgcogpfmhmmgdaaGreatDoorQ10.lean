/- What integer.divideSmall returns: the quotient and the rest. Condition: a number in memory; the divisor is not 0. What integer.decimalGroups returns: the digits to the base 10^9, the least one first. What the three writing methods of strings.Builder leave in this program. -/
import Derived.Test.YtgcogpfmhmmgdaaGreatDoorQ05
import Derived.Test.YtgcogpfmhmmgdaaGreatDoorQ09
import Derived.Test.YtgcogpfmhmmgdaaGreatDoorQ08
import Derived.Maps.AppendAt
import Derived.OwnWalk
import Derived.Test.YtgcogpfmhmmgdaaGreatDoorQ02

namespace Go.Proofs.YtgcogpfmhmmgdaaGreatDoor
open Go.RowKit

def DivOut (w : World) (Q R : Nat) (e : Ending) (w' : World) : Prop :=
  ∃ A n c, e = .returned (.tuple #[.slice A n c, .int .u32 (R : Int)]) ∧ IsNat w' A n c Q ∧ Below w.heap.size w w'

/-- .. and where the quotient lies: in the block that was made first. -/
def DivNew (w : World) (Q R : Nat) (e : Ending) (w' : World) : Prop :=
  ∃ n c, e = .returned (.tuple #[.slice (some ⟨w.heap.size, 0, none⟩) n c, .int .u32 (R : Int)]) ∧ IsNat w' (some ⟨w.heap.size, 0, none⟩) n c Q ∧ Below w.heap.size w w'

set_option maxHeartbeats 800000 in
theorem divSmall_new (A : Option Addr) (n c N d : Nat) (w : World) (hA : ∃ f, Rd w A n f ∧ Dig f n ∧ val f n = N) (hn : n ≤ 10000000000) (hd0 : 1 ≤ d) (hd : d < 4294967296) :
    Calls Tryz.prog 127 #[.slice A n c, .int .u32 (d : Int)] w (DivNew w (N / d) (N % d)) := by
  obtain ⟨f, ⟨b, off, hAe, hcell⟩, df, rfl⟩ := hA
  have hmk := run_make_row' (P := Tryz.prog) 86 93 (.int .u32 0) 4 Tryz.underlying86 Tryz.infoU32 rfl .i64 .i64 n (by omega) (by omega)
  go_enter Tryz.func127, Tryz.ntmps127
  go_wp2
  clear hmk
  go_loopg [7, 8] n (fun k rs i wx => ∃ (r : Nat) (s : Nat → Nat), k ≤ n ∧ i = .int .i64 ((k : Int) - 1) ∧ rs = .int .u64 (r : Int) ∧ r < d ∧ (∀ j, k ≤ j → j < n → s j < 4294967296) ∧ top f k n = d * top s k n + r ∧ Below w.heap.size w wx ∧ wx.heap.size = w.heap.size + 1 ∧ wx.rowIs w.heap.size 93 n (dsdn s k))
  case atStart => exact ⟨0, fun _ => 0, Nat.le_refl _, by go_num, rfl, by omega, fun i _ _ => by omega, by rw [top_all, top_all]; simp, (Below.refl _ _).alloc (Nat.le_refl _) _, by simp, (World.rowIs_made w _ n _).congr (fun i _ => by simp [dsdn])⟩
  case round =>
    obtain ⟨r, s, hk, rfl, rfl, hr, ds, hv, hb, hsz, hrow⟩ := hrel
    rcases gk with _ | k
    · have Hv : Hid (top f 0 n = d * top s 0 n + r) := hv
      have hr2 := dsdn_rd hrow
      clear hv hsz
      go_wp2_with fail
      refine (trim_any _ n n s _ (Nat.le_refl _) (by omega) hr2).mono ?_
      rintro e w' ⟨rfl, rfl⟩
      go_wp2
      go_ret2
      have h := Hv.out
      rw [top_zero, top_zero] at h
      have hq : val f n / d = val s n := by rw [h, Nat.add_comm, Nat.add_mul_div_left _ _ (by omega), Nat.div_eq_of_lt hr, Nat.zero_add]
      have hm : val f n % d = r := by rw [h, Nat.add_comm, Nat.add_mul_mod_self_left, Nat.mod_eq_of_lt hr]
      rw [hq, hm]
      obtain ⟨A', n', c', he, hi, hbb⟩ := nat_out hr2 hb (fun i hi => ds i (Nat.zero_le _) hi) (by omega) (rfl : val s n = val s n)
      injection he with he
      injection he with h1 h2 h3
      subst h1 h2 h3
      exact ⟨_, _, rfl, hi, hbb⟩
    · obtain rfl := hAe (by omega)
      have hx : wr.cell? ⟨b, off + k, none⟩ = some (.int .u32 (f k : Int)) := by rw [hb.cell (Rd.lt hcell (by omega))]; exact hcell k (by omega)
      have hw1 := hrow.cell (i := k) (by omega)
      have hw2 := hrow.frozen k
      have dk := df k (by omega)
      have hor := u64_or_shl r (f k) (by omega) dk
      have Hv : Hid (top f (k + 1) n = d * top s (k + 1) n + r) := hv
      have Hs : Hid (wr.heap.size = w.heap.size + 1) := hsz
      clear hv hsz
      go_wp2
      have hlt : (r * 4294967296 + f k) / d < 4294967296 := by
        apply Nat.div_lt_of_lt_mul
        have : (r + 1) * 4294967296 ≤ d * 4294967296 := Nat.mul_le_mul_right _ (by omega)
        omega
      have hmd : (r * 4294967296 + f k) % d < d := Nat.mod_lt _ (by omega)
      have hdm : (r * 4294967296 + f k) / d * d + (r * 4294967296 + f k) % d = r * 4294967296 + f k := by
        rw [Nat.mul_comm]; exact Nat.div_add_mod _ _
      have hst := div_step hk Hv.out hdm
      have e1 : ((r : Int) * 4294967296 + (f k : Int)) / (d : Int) = (((r * 4294967296 + f k) / d : Nat) : Int) := by rw [Int.natCast_ediv, Int.natCast_add, Int.natCast_mul]; rfl
      have e2 : ((r : Int) * 4294967296 + (f k : Int)) % (d : Int) = (((r * 4294967296 + f k) % d : Nat) : Int) := by rw [Int.natCast_emod, Int.natCast_add, Int.natCast_mul]; rfl
      have e3 : ((r : Int) * 4294967296 + (f k : Int)) / (d : Int) % 4294967296 = (((r * 4294967296 + f k) / d : Nat) : Int) := by
        rw [e1]
        clear hst hdm hmd e1 e2
        generalize (r * 4294967296 + f k) / d = Q at hlt ⊢
        omega
      go_roundg k
      case measure => omega
      case rel => exact ⟨(r * 4294967296 + f k) % d, upd s k ((r * 4294967296 + f k) / d), by omega, rfl, by rw [e2], hmd, (fun j a b' => by
        by_cases e : j = k
        · subst e; rw [upd_same]; exact hlt
        · simp only [upd, if_neg e]; exact ds j (by omega) b'), hst, hb.setCell (Nat.le_refl _) _, by simpa using Hs.out, dsdn_step hrow e3⟩

theorem divSmall_any (A : Option Addr) (n c N d : Nat) (w : World) (hA : ∃ f, Rd w A n f ∧ Dig f n ∧ val f n = N) (hn : n ≤ 10000000000) (hd0 : 1 ≤ d) (hd : d < 4294967296) :
    Calls Tryz.prog 127 #[.slice A n c, .int .u32 (d : Int)] w (DivOut w (N / d) (N % d)) :=
  (divSmall_new A n c N d w hA hn hd0 hd).mono fun _ _ ⟨m, k, h1, h2, h3⟩ => ⟨_, m, k, h1, h2, h3⟩
end Go.Proofs.YtgcogpfmhmmgdaaGreatDoor

namespace Go.Proofs.YtgcogpfmhmmgdaaGreatDoor
open Go.RowKit

/-- The digits of N to the base 10^9, the least one first. -/
def gs (N : Nat) : List Nat := if h : N = 0 then [] else N % 1000000000 :: gs (N / 1000000000)
termination_by N
decreasing_by exact Nat.div_lt_self (by omega) (by omega)
theorem gs_zero : gs 0 = [] := by rw [gs]; rfl
theorem gs_pos {N : Nat} (h : N ≠ 0) : gs N = N % 1000000000 :: gs (N / 1000000000) := by rw [gs, dif_neg h]
theorem gs_len {N k : Nat} (h : N < 1000000000 ^ k) : (gs N).length ≤ k := by
  induction k generalizing N with
  | zero => have : N = 0 := by simp at h; exact h
            subst this; rw [gs_zero]; exact Nat.le_refl _
  | succ k ih =>
    by_cases h0 : N = 0
    · subst h0; rw [gs_zero]; exact Nat.zero_le _
    · rw [gs_pos h0, List.length_cons]
      have := ih (Nat.div_lt_of_lt_mul (by rw [Nat.pow_succ, Nat.mul_comm] at h; exact h))
      omega
theorem gs_room {N k : Nat} (h : N < 4294967296 ^ k) : (gs N).length ≤ 2 * k := by
  apply gs_len
  refine Nat.lt_of_lt_of_le h ?_
  rw [Nat.pow_mul]
  exact Nat.pow_le_pow_left (by omega) _
def gvs (l : List Nat) : List Value := l.map fun (d : Nat) => .int .u32 (d : Int)
theorem gvs_len (l : List Nat) : (gvs l).length = l.length := by unfold gvs; exact List.length_map _
theorem gvs_snoc (l : List Nat) (d : Nat) : gvs (l ++ [d]) = gvs l ++ [.int .u32 (d : Int)] := by unfold gvs; rw [List.map_append]; rfl

/-- A number keeps where another block grows. -/
theorem isNat_grown {w w' : World} {a : Addr} {n c N : Nat} {row : Option Nat} (h : IsNat w (some a) n c N) (hg : w.grownBy w' row) (hr : some a.block ≠ row) : IsNat w' (some a) n c N := by
  obtain ⟨h1, h2, f, ⟨b, off, hA, hcell⟩, h4⟩ := h
  refine ⟨h1, h2, f, ⟨b, off, hA, fun i hi => hg.cell (hcell i hi) ?_⟩, h4⟩
  have := hA (by omega)
  injection this with this
  subst this
  exact hr
theorem grown_of_below {w w' : World} (h : Below w.heap.size w w') (row : Option Nat) : w.grownBy w' row := ⟨h.os, h.tape, h.output, h.size, fun k hk _ => h.block k hk⟩
theorem nat_none {w : World} {A : Option Addr} {n c N : Nat} (h : IsNat w A n c N) : (n = 0 ↔ N = 0) := by
  obtain ⟨_, _, f, _, _, tf, hv⟩ := h
  constructor
  · rintro rfl; exact hv.symm
  · intro h0
    rcases Nat.eq_zero_or_pos n with h1 | h1
    · exact h1
    · have := val_ge h1 (tf h1)
      have hp : 0 < 4294967296 ^ (n - 1) := Nat.pow_pos (by omega)
      omega

def GrOut (w : World) (N : Nat) (e : Ending) (w' : World) : Prop := ∃ v, e = .returned v ∧ w'.ownsRow w.heap.size 93 1 v (gs N).length (gvs (gs N)) ∧ Below w.heap.size w w'

set_option maxHeartbeats 1600000 in
theorem groups_any (A : Option Addr) (n c N k : Nat) (w : World) (hA : IsNat w A n c N) (hN : N < 4294967296 ^ k) (hk : k ≤ 10000000) :
    Calls Tryz.prog 108 #[.slice A n c] w (GrOut w N) := by
  have hn := hA.len hN
  have hroom := gs_room hN
  have Hk : Hid (N < 4294967296 ^ k) := hN
  obtain ⟨i0, hi, hz0, hz1, hz2⟩ := info_parts Tryz.infoU32
  clear hN
  go_enter Tryz.func108, Tryz.ntmps108
  go_wp2_with fail
  go_loopg [0, 3] (gs N).length (fun g s0 s3 wx => ∃ A1 n1 c1 M xs, g = (gs M).length ∧ s0 = .slice A1 n1 c1 ∧ IsNat wx A1 n1 c1 M ∧ M < 4294967296 ^ k ∧ Hid (xs ++ gs M = gs N) ∧ wx.ownsRow w.heap.size 93 1 s3 xs.length (gvs xs) ∧ (∀ b, s3.ownBlock = some b → ∀ a, A1 = some a → some a.block ≠ some b) ∧ Below w.heap.size w wx)
  case atStart => exact ⟨A, n, c, N, [], rfl, rfl, hA, Hk.out, rfl, World.ownsRow_nil _ _ _ _, fun b hb => by simp [Value.ownBlock] at hb, Below.refl _ _⟩
  case round =>
    obtain ⟨A1, n1, c1, M, xs, rfl, rfl, i1, hM, HX, hown, hne, hb⟩ := hrel
    have HM : Hid (M < 4294967296 ^ k) := hM
    have hn1 : n1 ≤ 10000000 := by have := i1.len hM; omega
    by_cases h0 : M = 0
    · subst h0
      obtain rfl := (nat_none i1).2 rfl
      have hx := HX.out
      rw [gs_zero, List.append_nil] at hx
      subst hx
      clear hM hne i1
      go_wp2
      go_ret
      exact ⟨_, rfl, hown, hb⟩
    · have hn0 : 0 < n1 := by have := mt (nat_none i1).1 h0; omega
      have hlen : xs.length + (gs M).length = (gs N).length := by rw [← HX.out, List.length_append]
      have hg := gs_pos h0
      have hg1 : (gs M).length = (gs (M / 1000000000)).length + 1 := by rw [hg, List.length_cons]
      have HX2 : Hid ((xs ++ [M % 1000000000]) ++ gs (M / 1000000000) = gs N) := by
        show _ = _
        rw [← HX.out, hg, List.append_assoc]; rfl
      have HM2 : Hid (M / 1000000000 < 4294967296 ^ k) := Nat.lt_of_le_of_lt (Nat.div_le_self _ _) HM.out
      have HG1 := Lib.hid hg1
      have Hlen : Hid (xs.length + (gs M).length = (gs N).length) := hlen
      have hr := Nat.mod_lt M (show 1000000000 > 0 by omega)
      have hlt := hown.lt
      have hbs := hb.size
      have hxl : xs.length ≤ 20000000 := by omega
      clear hM hg hg1 hlen
      go_wp2_with fail
      refine (divSmall_new A1 n1 c1 M 1000000000 _ (by obtain ⟨_, _, f, a1, a2, _, a3⟩ := i1; exact ⟨f, a1, a2, a3⟩) (by omega) (by omega) (by omega)).mono ?_
      rintro e W1 ⟨n2, c2, rfl, i2, b2⟩
      have hown1 : W1.ownsRow w.heap.size 93 1 u3 xs.length (gvs xs) := hown.kept (grown_of_below b2 none) (by cases hv : u3.ownBlock <;> simp)
      have hb1 := below_more hb (Nat.le_refl _) b2
      have hs2 := b2.size
      have hs3 := hb1.size
      clear i1 hne hown hb
      generalize M % 1000000000 = r at *
      generalize hQ : M / 1000000000 = Q at *
      go_wp2_with (first | (at_builtin; refine wpList_append_own_at _ rfl _ _ 85 rfl w.heap.size 93 i0 (.int .u32 0) 1 4 Tryz.underlying85 hi hz0 hz1 hz2 rfl (by decide) _ _ _ rfl (hown1.alloc _) ⟨W1.heap.size, 0, none⟩ 1 1 [.int .u32 (r : Int)] rfl rfl ?c1 ?c2 ?c3 ?c4 ?c5 ?_))
      case c1 => exact cell_one_new _ _ _
      case c2 => intro u hu; simp at hu; subst hu; rfl
      case c3 => unfold maxLen; omega
      case c4 => omega
      case c5 => rw [World.size_alloc]; omega
      · intro v' W2 hown2 hgrow _ hv'
        have hlt1 := hown1.lt
        have hA2 : some wr.heap.size ≠ u3.ownBlock := fun e => by have := (hlt _ e.symm).2; omega
        have i3 : IsNat (W1.alloc (.cells #[.int .u32 (r : Int)] 93)) (some ⟨wr.heap.size, 0, none⟩) n2 c2 Q := i2.below (Nat.le_refl _) (below1 _ _)
        have i4 : IsNat W2 (some ⟨wr.heap.size, 0, none⟩) n2 c2 Q := isNat_grown i3 hgrow hA2
        have hne2 : ∀ b, v'.ownBlock = some b → ∀ a, (some ⟨wr.heap.size, 0, none⟩ : Option Addr) = some a → some a.block ≠ some b := by
          intro b hb' a ha
          injection ha with ha
          subst ha
          rcases hv' with h | h
          · rw [← hb', h]; exact hA2
          · rw [← hb', h]; intro e; injection e with e; have : wr.heap.size = W1.heap.size + 1 := e; omega
        have hb2 : Below w.heap.size w W2 := ((hb1.alloc (Nat.le_trans (Nat.le_refl _) hs3) _).grown hgrow (by rw [World.size_alloc]; omega) (fun k hk => (hlt1 k hk).1))
        rw [← gvs_snoc] at hown2
        have hl : xs.length + 1 = (xs ++ [r]).length := by simp
        rw [hl] at hown2
        clear hown1 hgrow hv' hlt hlt1 i2 i3 b2 hb1 hs2 hs3 hl
        go_wp2
        go_roundg (gs Q).length
        case measure => have := HG1.out; omega
        case rel => exact ⟨some ⟨wr.heap.size, 0, none⟩, n2, c2, Q, xs ++ [r], rfl, rfl, i4, HM2.out, HX2, hown2, hne2, hb2⟩
end Go.Proofs.YtgcogpfmhmmgdaaGreatDoor

namespace Go.Proofs.YtgcogpfmhmmgdaaGreatDoor
open Go.RowKit

abbrev tB : TypeId := 61
/-- A builder that has been written at least once, and holds these bytes. -/
abbrev BldAt (B b : Nat) (bs : List Value) (w : World) : Prop := Lib.BuilderAt 61 5 B b (.pointer (some ⟨b, 0, none⟩)) bs w
/-- A builder that holds these bytes. -/
abbrev Bld (B b : Nat) (bs : List Value) (w : World) : Prop := Lib.IsBuilder 61 5 B b bs w

/-- Blocks of another type than the builder's and its bytes' are as they were. -/
def KeepT (w w' : World) : Prop := ∀ (k : Nat) (cs : Array Value) (T : TypeId) (fz : Nat × Nat), w.heap[k]? = some (.cells cs T fz) → T ≠ 61 → T ≠ 5 → w'.heap[k]? = some (.cells cs T fz)
theorem KeepT.refl (w : World) : KeepT w w := fun _ _ _ _ h _ _ => h
theorem KeepT.trans {w w1 w2 : World} (h : KeepT w w1) (k : KeepT w1 w2) : KeepT w w2 := fun i cs T fz a b c => k i cs T fz (h i cs T fz a b c) b c
theorem heap_lt {w : World} {k : Nat} {o : Obj} (h : w.heap[k]? = some o) : k < w.heap.size := by
  rcases Nat.lt_or_ge k w.heap.size with h' | h'
  · exact h'
  · simp [Array.getElem?_eq_none h'] at h
theorem KeepT.below {w w' : World} (h : Below w.heap.size w w') : KeepT w w' := fun k _ _ _ a _ _ => (h.block k (heap_lt a)).trans a
theorem KeepT.grown {w w' : World} {B : Nat} {v : Value} {n : Nat} {xs : List Value} (hown : w.ownsRow B 5 1 v n xs) (hg : w.grownBy w' v.ownBlock) : KeepT w w' := fun k cs T fz a _ c => by
  rw [hg.block k (heap_lt a) (fun e => ?_)]
  · exact a
  · rcases hown.2 with ⟨rfl, _⟩ | ⟨g, cap, cur, rfl, _, hgg, _⟩
    · simp [Value.ownBlock] at e
    · simp only [Value.ownBlock, Option.some.injEq] at e
      subst e
      rw [hgg] at a
      injection a with a
      injection a with _ a _
      exact c a.symm
theorem KeepT.set {w : World} {b j : Nat} {cs0 : Array Value} {fz0 : Nat × Nat} (hb : w.heap[b]? = some (.cells cs0 61 fz0)) (u : Value) : KeepT w (w.setCell ⟨b, j, none⟩ u) := fun k cs T fz a c _ => by
  rw [Below.heap_setCell _ _ _ _ (fun e => ?_)]
  · exact a
  · have e : k = b := e
    subst e
    rw [hb] at a
    injection a with a
    injection a with _ a _
    exact c a.symm

theorem Tryz.sizeBld : (Tryz.prog.info? 61).map (·.size) = some 2 := by kernel_rfl
theorem Tryz.liesBld : liesAt Tryz.prog Tryz.prog.depth 61 (2 / Tryz.prog.cellsOf 61) 0 61 1 = true := by kernel_rfl

set_option maxRecDepth 100000 in
set_option maxHeartbeats 1000000 in
theorem check_old (b : Nat) (w : World) (h0 : w.cell? ⟨b, 0, none⟩ = some (.pointer (some ⟨b, 0, none⟩))) :
    Calls Tryz.prog 85 #[.pointer (some ⟨b, 0, none⟩)] w fun e w' => e = .returned (.tuple #[]) ∧ w' = w := by
  obtain ⟨j, hj, _⟩ := Option.map_eq_some_iff.1 Tryz.sizeBld
  go_enter Tryz.func85, Tryz.ntmps85
  go_wp2
  rw [Lib.run_neq_ptr_same w _ Tryz.underlying58 hj]
  go_wp2
  go_end0
  exact ⟨rfl, rfl⟩

set_option maxRecDepth 100000 in
set_option maxHeartbeats 1000000 in
theorem check_new (b : Nat) (w : World) (h0 : w.cell? ⟨b, 0, none⟩ = some (.pointer none)) (hsh : w.shape? b = some (61, 2)) (hfz : w.frozen? ⟨b, 0, none⟩ = false) :
    Calls Tryz.prog 85 #[.pointer (some ⟨b, 0, none⟩)] w fun e w' => e = .returned (.tuple #[]) ∧ w' = w.setCell ⟨b, 0, none⟩ (.pointer (some ⟨b, 0, none⟩)) := by
  obtain ⟨j, hj, hjs⟩ := Option.map_eq_some_iff.1 Tryz.sizeBld
  go_enter Tryz.func85, Tryz.ntmps85
  go_wp2
  rw [Lib.run_to_unsafe w ⟨b, 0, none⟩ Tryz.underlying58 Tryz.underlying118 hj (by rw [hjs]; decide) hsh (Nat.zero_lt_succ 1)]
  simp only [Result.andThen]
  rw [Oper.upon_value]
  go_wp2
  rw [run_callFunc_extern Tryz.func106 (by kernel_rfl) (by kernel_rfl) (by kernel_rfl) (e := Extern.AbiNoEscape.same) (by kernel_rfl), Lib.run_noEscape]
  simp only [Result.andThen]
  rw [Oper.upon_value]
  go_wp2
  rw [Lib.run_from_unsafe w ⟨b, 0, none⟩ Tryz.underlying118 Tryz.underlying58 hj hsh Tryz.liesBld]
  simp only [Result.andThen]
  rw [Oper.upon_value]
  go_wp2
  go_end0
  exact ⟨rfl, rfl⟩

/-- Behind copyCheck the builder is written, and holds what it held. -/
theorem check_any (B b : Nat) (bs : List Value) (w : World) (h : Bld B b bs w) :
    Calls Tryz.prog 85 #[.pointer (some ⟨b, 0, none⟩)] w fun e w' => e = .returned (.tuple #[]) ∧ BldAt B b bs w' ∧ Below B w w' ∧ KeepT w w' := by
  rcases h with h | h
  · refine (check_new b w h.cell0 h.shape h.frozen0).mono ?_
    rintro e w' ⟨rfl, rfl⟩
    obtain ⟨_, v, hbk, _⟩ := id h
    exact ⟨rfl, h.used _, (Below.refl B w).setCell (p := ⟨b, 0, none⟩) h.1 _, KeepT.set hbk _⟩
  · refine (check_old b w h.cell0).mono ?_
    rintro e w' ⟨rfl, rfl⟩
    exact ⟨rfl, h, Below.refl B _, KeepT.refl _⟩

theorem Tryz.infoByte : (Tryz.prog.info? 5).map (fun i => (i.zero, i.size, i.bytes)) = some (some (.int .u8 0), 1, 1) := by kernel_rfl

/-- The builder's own block while its row grows. -/
theorem bld_block {b : Nat} {v : Value} {p : Value} {w w' : World} (hbk : w.heap[b]? = some (.cells #[p, v] 61 (0, 0))) (hg : w.grownBy w' v.ownBlock) (hne : v.ownBlock ≠ some b) : w'.heap[b]? = some (.cells #[p, v] 61 (0, 0)) ∧ b < w.heap.size := by
  have hlt : b < w.heap.size := by
    rcases Nat.lt_or_ge b w.heap.size with h' | h'
    · exact h'
    · simp [Array.getElem?_eq_none h'] at hbk
  exact ⟨(hg.block b hlt (fun e => hne e.symm)).trans hbk, hlt⟩

set_option maxRecDepth 100000 in
set_option maxHeartbeats 2000000 in
theorem writeByte_any (B b : Nat) (bs : List Value) (c : Int) (w : World) (h : Bld B b bs w) (hlen : bs.length ≤ 1000000000) (hBw : B ≤ w.heap.size) :
    Calls Tryz.prog 107 #[.pointer (some ⟨b, 0, none⟩), .int .u8 c] w fun e w' => e = .returned .nilIface ∧ BldAt B b (bs ++ [.int .u8 c]) w' ∧ Below B w w' ∧ KeepT w w' := by
  obtain ⟨i0, hi, hz0, hz1, hz2⟩ := info_parts Tryz.infoByte
  go_enter Tryz.func107, Tryz.ntmps107
  go_wp2_with fail
  refine (check_any B b bs _ h).mono ?_
  rintro e w1 ⟨rfl, ⟨hB, v, hbk, hown, hne⟩, hb1, hk1⟩
  have c0 : w1.cell? ⟨b, 0, none⟩ = some (.pointer (some ⟨b, 0, none⟩)) := by rw [Lib.cell_of_heap hbk]; rfl
  have c1 : w1.cell? ⟨b, 1, none⟩ = some v := by rw [Lib.cell_of_heap hbk]; rfl
  have hs1 := hb1.size
  have hbk' : (w1.alloc (.cells #[.int .u8 c] 5)).heap[b]? = some (.cells #[.pointer (some ⟨b, 0, none⟩), v] 61 (0, 0)) := by
    rw [Lib.alloc_old w1 _ b (by
      rcases Nat.lt_or_ge b w1.heap.size with h' | h'
      · exact h'
      · simp [Array.getElem?_eq_none h'] at hbk)]
    exact hbk
  go_wp2_with (at_builtin; refine wpList_append_own_at _ rfl _ _ 59 rfl B 5 i0 (.int .u8 0) 1 1 Tryz.underlying59 hi hz0 hz1 hz2 rfl (by decide) _ _ _ rfl (hown.alloc _) ⟨w1.heap.size, 0, none⟩ 1 1 [.int .u8 c] rfl rfl ?c1 ?c2 ?c3 ?c4 ?c5 ?_)
  case c1 => exact cell_one_new _ _ _
  case c2 => intro u hu; simp at hu; subst hu; rfl
  case c3 => unfold maxLen; omega
  case c4 => omega
  case c5 => rw [World.size_alloc]; omega
  intro v' w2 hown' hgrow _ _
  obtain ⟨hb2, hlt⟩ := bld_block hbk' hgrow hne
  have d0 : w2.cell? ⟨b, 0, none⟩ = some (.pointer (some ⟨b, 0, none⟩)) := by rw [Lib.cell_of_heap hb2]; rfl
  have d1 : w2.cell? ⟨b, 1, none⟩ = some v := by rw [Lib.cell_of_heap hb2]; rfl
  have f1 : w2.frozen? ⟨b, 1, none⟩ = false := Lib.frozen_of_heap hb2 1
  obtain ⟨g, cap, rfl⟩ : ∃ g cap, v' = .slice (some ⟨g, 0, none⟩) (bs.length + 1) cap := by
    rcases hown'.2 with ⟨_, h0⟩ | ⟨g, cap, cur, hv, _⟩
    · omega
    · exact ⟨g, cap, hv⟩
  go_wp2
  go_ret
  refine ⟨rfl, Lib.BuilderAt.put hB hb2 (bs' := bs ++ [.int .u8 c]) (by simpa using hown') (by decide), ?_, ((hk1.trans (KeepT.below (below1 _ _))).trans (KeepT.grown (hown.alloc _) hgrow)).trans (KeepT.set hb2 _)⟩
  exact ((hb1.alloc (by omega) _).grown hgrow (by rw [World.size_alloc]; omega) (fun k hk => (hown.lt k hk).1)).setCell (p := ⟨b, 1, none⟩) hB _

set_option maxRecDepth 100000 in
set_option maxHeartbeats 2000000 in
theorem writeString_any (B b : Nat) (bs : List Value) (s : ByteArray) (w : World) (h : Bld B b bs w) (hlen : bs.length + s.size ≤ 1000000000) (hBw : B ≤ w.heap.size) :
    Calls Tryz.prog 49 #[.pointer (some ⟨b, 0, none⟩), .string s] w fun e w' => e = .returned (.tuple #[.int .i64 s.size, .nilIface]) ∧ BldAt B b (bs ++ Lib.strCells s) w' ∧ Below B w w' ∧ KeepT w w' := by
  obtain ⟨i0, hi, hz0, hz1, hz2⟩ := info_parts Tryz.infoByte
  go_enter Tryz.func49, Tryz.ntmps49
  go_wp2_with fail
  refine (check_any B b bs _ h).mono ?_
  rintro e w1 ⟨rfl, ⟨hB, v, hbk, hown, hne⟩, hb1, hk1⟩
  have c0 : w1.cell? ⟨b, 0, none⟩ = some (.pointer (some ⟨b, 0, none⟩)) := by rw [Lib.cell_of_heap hbk]; rfl
  have c1 : w1.cell? ⟨b, 1, none⟩ = some v := by rw [Lib.cell_of_heap hbk]; rfl
  have hs1 := hb1.size
  go_wp2_with (at_builtin; refine Lib.wpList_append_own_string _ rfl _ _ 59 9 rfl B 5 i0 Tryz.underlying59 Tryz.underlying9 hi hz0 hz1 hz2 _ _ _ rfl hown s rfl ?c3 ?c4 ?c5 ?_)
  case c3 => unfold maxLen; omega
  case c4 => omega
  case c5 => omega
  intro v' w2 hown' hgrow _
  obtain ⟨hb2, hlt⟩ := bld_block hbk hgrow hne
  have d0 : w2.cell? ⟨b, 0, none⟩ = some (.pointer (some ⟨b, 0, none⟩)) := by rw [Lib.cell_of_heap hb2]; rfl
  have d1 : w2.cell? ⟨b, 1, none⟩ = some v := by rw [Lib.cell_of_heap hb2]; rfl
  have f1 : w2.frozen? ⟨b, 1, none⟩ = false := Lib.frozen_of_heap hb2 1
  obtain ⟨ao, n', cap, rfl⟩ : ∃ ao n' cap, v' = .slice ao n' cap := by
    rcases hown'.2 with ⟨hv, _⟩ | ⟨g, cap, cur, hv, _⟩
    · exact ⟨_, _, _, hv⟩
    · exact ⟨_, _, _, hv⟩
  go_wp2
  go_ret2
  refine ⟨rfl, Lib.BuilderAt.put hB hb2 (bs' := bs ++ Lib.strCells s) (by simpa [Lib.strCells_length] using hown') (by decide), ?_, (hk1.trans (KeepT.grown hown hgrow)).trans (KeepT.set hb2 _)⟩
  exact (hb1.grown hgrow (by omega) (fun k hk => (hown.lt k hk).1)).setCell (p := ⟨b, 1, none⟩) hB _
end Go.Proofs.YtgcogpfmhmmgdaaGreatDoor
