/- What integer.decimalGroups returns: the digits to the base 10^9, the least one first. -/
import Derived.Test.YtmdkkeklihfdgaaGreatDoorDivS
import Derived.Test.YtmdkkeklihfdgaaGreatDoorInt
import Derived.Maps.AppendAt
import Derived.OwnWalk
namespace Go.Proofs.YtmdkkeklihfdgaaGreatDoor
open Go.RowKit

/-- The digits of N to the base 10^9, the least one first. -/
def gs (N : Nat) : List Nat := if h : N = 0 then [] else N % 1000000000 :: gs (N / 1000000000)
termination_by N
decreasing_by exact Nat.div_lt_self (by omega) (by omega)
theorem gs_zero : gs 0 = [] := by rw [gs]; rfl
theorem gs_pos {N : Nat} (h : N ≠ 0) : gs N = N % 1000000000 :: gs (N / 1000000000) := by rw [gs, dif_neg h]
theorem gs_len {N k : Nat} (h : N < 1000000000 ^ k) : (gs N).length ≤ k := by
  induction k generalizing N with
  | zero => have : N = 0 := by simp at h; exact h
            subst this; rw [gs_zero]; exact Nat.le_refl _
  | succ k ih =>
    by_cases h0 : N = 0
    · subst h0; rw [gs_zero]; exact Nat.zero_le _
    · rw [gs_pos h0, List.length_cons]
      have := ih (Nat.div_lt_of_lt_mul (by rw [Nat.pow_succ, Nat.mul_comm] at h; exact h))
      omega
theorem gs_room {N k : Nat} (h : N < 4294967296 ^ k) : (gs N).length ≤ 2 * k := by
  apply gs_len
  refine Nat.lt_of_lt_of_le h ?_
  rw [Nat.pow_mul]
  exact Nat.pow_le_pow_left (by omega) _
def gvs (l : List Nat) : List Value := l.map fun (d : Nat) => .int .u32 (d : Int)
theorem gvs_len (l : List Nat) : (gvs l).length = l.length := by unfold gvs; exact List.length_map _
theorem gvs_snoc (l : List Nat) (d : Nat) : gvs (l ++ [d]) = gvs l ++ [.int .u32 (d : Int)] := by unfold gvs; rw [List.map_append]; rfl

/-- A number keeps where another block grows. -/
theorem isNat_grown {w w' : World} {a : Addr} {n c N : Nat} {row : Option Nat} (h : IsNat w (some a) n c N) (hg : w.grownBy w' row) (hr : some a.block ≠ row) : IsNat w' (some a) n c N := by
  obtain ⟨h1, h2, f, ⟨b, off, hA, hcell⟩, h4⟩ := h
  refine ⟨h1, h2, f, ⟨b, off, hA, fun i hi => hg.cell (hcell i hi) ?_⟩, h4⟩
  have := hA (by omega)
  injection this with this
  subst this
  exact hr
theorem grown_of_below {w w' : World} (h : Below w.heap.size w w') (row : Option Nat) : w.grownBy w' row := ⟨h.os, h.tape, h.output, h.size, fun k hk _ => h.block k hk⟩
theorem nat_none {w : World} {A : Option Addr} {n c N : Nat} (h : IsNat w A n c N) : (n = 0 ↔ N = 0) := by
  obtain ⟨_, _, f, _, _, tf, hv⟩ := h
  constructor
  · rintro rfl; exact hv.symm
  · intro h0
    rcases Nat.eq_zero_or_pos n with h1 | h1
    · exact h1
    · have := val_ge h1 (tf h1)
      have hp : 0 < 4294967296 ^ (n - 1) := Nat.pow_pos (by omega)
      omega

def GrOut (w : World) (N : Nat) (e : Ending) (w' : World) : Prop := ∃ v, e = .returned v ∧ w'.ownsRow w.heap.size 47 1 v (gs N).length (gvs (gs N)) ∧ Below w.heap.size w w'

set_option maxHeartbeats 1600000 in
theorem groups_any (A : Option Addr) (n c N k : Nat) (w : World) (hA : IsNat w A n c N) (hN : N < 4294967296 ^ k) (hk : k ≤ 10000000) :
    Calls Tryz.prog 44 #[.slice A n c] w (GrOut w N) := by
  have hn := hA.len hN
  have hroom := gs_room hN
  have Hk : Hid (N < 4294967296 ^ k) := hN
  obtain ⟨i0, hi, hz0, hz1, hz2⟩ := info_parts Tryz.infoU32
  clear hN
  go_enter Tryz.func44, Tryz.ntmps44
  go_wp2_with fail
  go_loopg [0, 3] (gs N).length (fun g s0 s3 wx => ∃ A1 n1 c1 M xs, g = (gs M).length ∧ s0 = .slice A1 n1 c1 ∧ IsNat wx A1 n1 c1 M ∧ M < 4294967296 ^ k ∧ Hid (xs ++ gs M = gs N) ∧ wx.ownsRow w.heap.size 47 1 s3 xs.length (gvs xs) ∧ (∀ b, s3.ownBlock = some b → ∀ a, A1 = some a → some a.block ≠ some b) ∧ Below w.heap.size w wx)
  case atStart => exact ⟨A, n, c, N, [], rfl, rfl, hA, Hk.out, rfl, World.ownsRow_nil _ _ _ _, fun b hb => by simp [Value.ownBlock] at hb, Below.refl _ _⟩
  case round =>
    obtain ⟨A1, n1, c1, M, xs, rfl, rfl, i1, hM, HX, hown, hne, hb⟩ := hrel
    have HM : Hid (M < 4294967296 ^ k) := hM
    have hn1 : n1 ≤ 10000000 := by have := i1.len hM; omega
    by_cases h0 : M = 0
    · subst h0
      obtain rfl := (nat_none i1).2 rfl
      have hx := HX.out
      rw [gs_zero, List.append_nil] at hx
      subst hx
      clear hM hne i1
      go_wp2
      go_ret
      exact ⟨_, rfl, hown, hb⟩
    · have hn0 : 0 < n1 := by have := mt (nat_none i1).1 h0; omega
      have hlen : xs.length + (gs M).length = (gs N).length := by rw [← HX.out, List.length_append]
      have hg := gs_pos h0
      have hg1 : (gs M).length = (gs (M / 1000000000)).length + 1 := by rw [hg, List.length_cons]
      have HX2 : Hid ((xs ++ [M % 1000000000]) ++ gs (M / 1000000000) = gs N) := by
        show _ = _
        rw [← HX.out, hg, List.append_assoc]; rfl
      have HM2 : Hid (M / 1000000000 < 4294967296 ^ k) := Nat.lt_of_le_of_lt (Nat.div_le_self _ _) HM.out
      have HG1 := Lib.hid hg1
      have Hlen : Hid (xs.length + (gs M).length = (gs N).length) := hlen
      have hr := Nat.mod_lt M (show 1000000000 > 0 by omega)
      have hlt := hown.lt
      have hbs := hb.size
      have hxl : xs.length ≤ 20000000 := by omega
      clear hM hg hg1 hlen
      go_wp2_with fail
      refine (divSmall_new A1 n1 c1 M 1000000000 _ (by obtain ⟨_, _, f, a1, a2, _, a3⟩ := i1; exact ⟨f, a1, a2, a3⟩) (by omega) (by omega) (by omega)).mono ?_
      rintro e W1 ⟨n2, c2, rfl, i2, b2⟩
      have hown1 : W1.ownsRow w.heap.size 47 1 u3 xs.length (gvs xs) := hown.kept (grown_of_below b2 none) (by cases hv : u3.ownBlock <;> simp)
      have hb1 := below_more hb (Nat.le_refl _) b2
      have hs2 := b2.size
      have hs3 := hb1.size
      clear i1 hne hown hb
      generalize M % 1000000000 = r at *
      generalize hQ : M / 1000000000 = Q at *
      go_wp2_with (first | (at_builtin; refine wpList_append_own_at _ rfl _ _ 44 rfl w.heap.size 47 i0 (.int .u32 0) 1 4 Tryz.underlying44 hi hz0 hz1 hz2 rfl (by decide) _ _ _ rfl (hown1.alloc _) ⟨W1.heap.size, 0, none⟩ 1 1 [.int .u32 (r : Int)] rfl rfl ?c1 ?c2 ?c3 ?c4 ?c5 ?_))
      case c1 => exact cell_one_new _ _ _
      case c2 => intro u hu; simp at hu; subst hu; rfl
      case c3 => unfold maxLen; omega
      case c4 => omega
      case c5 => rw [World.size_alloc]; omega
      · intro v' W2 hown2 hgrow _ hv'
        have hlt1 := hown1.lt
        have hA2 : some wr.heap.size ≠ u3.ownBlock := fun e => by have := (hlt _ e.symm).2; omega
        have i3 : IsNat (W1.alloc (.cells #[.int .u32 (r : Int)] 47)) (some ⟨wr.heap.size, 0, none⟩) n2 c2 Q := i2.below (Nat.le_refl _) (below1 _ _)
        have i4 : IsNat W2 (some ⟨wr.heap.size, 0, none⟩) n2 c2 Q := isNat_grown i3 hgrow hA2
        have hne2 : ∀ b, v'.ownBlock = some b → ∀ a, (some ⟨wr.heap.size, 0, none⟩ : Option Addr) = some a → some a.block ≠ some b := by
          intro b hb' a ha
          injection ha with ha
          subst ha
          rcases hv' with h | h
          · rw [← hb', h]; exact hA2
          · rw [← hb', h]; intro e; injection e with e; have : wr.heap.size = W1.heap.size + 1 := e; omega
        have hb2 : Below w.heap.size w W2 := ((hb1.alloc (Nat.le_trans (Nat.le_refl _) hs3) _).grown hgrow (by rw [World.size_alloc]; omega) (fun k hk => (hlt1 k hk).1))
        rw [← gvs_snoc] at hown2
        have hl : xs.length + 1 = (xs ++ [r]).length := by simp
        rw [hl] at hown2
        clear hown1 hgrow hv' hlt hlt1 i2 i3 b2 hb1 hs2 hs3 hl
        go_wp2
        go_roundg (gs Q).length
        case measure => have := HG1.out; omega
        case rel => exact ⟨some ⟨wr.heap.size, 0, none⟩, n2, c2, Q, xs ++ [r], rfl, rfl, i4, HM2.out, HX2, hown2, hne2, hb2⟩
end Go.Proofs.YtmdkkeklihfdgaaGreatDoor
