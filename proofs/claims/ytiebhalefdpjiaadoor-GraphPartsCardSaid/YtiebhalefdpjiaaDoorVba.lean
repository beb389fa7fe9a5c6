/- What groovelaw09.choose returns: the numbers below n whose bits are set. Condition: n at most 64. -/
import Derived.Test.YtiebhalefdpjiaaDoorVf
namespace Go.Proofs.YtiebhalefdpjiaaDoor
open Go.RowKit
set_option linter.unusedSimpArgs false
set_option linter.unusedVariables false

/-- A bit of a number of 16 bits. -/
def bitB (b i : Nat) : Bool := (bits BinOp.and IntKind.u16 ((b : Int) / 2 ^ (i % 16)) 1 == 1)
theorem bitB_all (i : Nat) : bitB 65535 i = true := by
  have h : ∀ z, z < 16 → (bits BinOp.and IntKind.u16 (((65535 : Nat) : Int) / 2 ^ z) 1 == 1) = true := by decide
  exact h _ (Nat.mod_lt _ (by decide))
set_option maxRecDepth 100000 in
set_option maxHeartbeats 1600000 in
theorem choose_any (n : Nat) (b : Nat) (w : World) (hn : n ≤ 64) (hb : b < 65536) :
    Calls Tryd.prog 31 #[.int .i64 (n : Int), .int .u16 (b : Int)] w (NewInts w (mems n (bitB b))) := by
  obtain ⟨i0, hi, hz0, hz1, hz2⟩ := info_parts Tryd.infoI64
  go_enter Tryd.func31, Tryd.ntmps31
  go_wp2_with fail
  go_loopg [5, 8] n (fun q s5 s8 wx => ∃ i : Nat, i + q = n ∧ s8 = .int .i64 (i : Int) ∧ IntsAt wx w.heap.size s5 (mems i (bitB b)) ∧ Below w.heap.size w wx)
  case atStart => exact ⟨0, by omega, rfl, ints_nil _ _, Below.refl _ _⟩
  case round =>
    obtain ⟨i, hin, rfl, hown, hb⟩ := hrel
    obtain ⟨a3, c3, rfl⟩ := hown.slice
    rcases gk with _ | q
    · obtain rfl : i = n := by omega
      have HI := Lib.hid hown
      clear hown
      obtain ⟨m, hm⟩ : ∃ m, (mems i (bitB b)).length = m := ⟨_, rfl⟩
      rw [hm] at HI ⊢
      clear hm
      go_wp2_with fail
      go_ret
      exact ⟨_, rfl, HI.out, hb⟩
    · have j1 : (i : Int) < (n : Int) := by omega
      have hml := mems_len i (bitB b)
      have hsn := mems_succ i (bitB b)
      have t1 : Int.tmod (i : Int) 16 = ((i % 16 : Nat) : Int) := by rw [Int.tmod_eq_emod_of_nonneg (by omega)]; rfl
      have hfe : bitB b i = (bits BinOp.and IntKind.u16 ((b : Int) / 2 ^ (i % 16)) 1 == 1) := rfl
      obtain ⟨z, hz⟩ : ∃ z, i % 16 = z := ⟨_, rfl⟩
      rw [hz] at t1 hfe
      have hz16 : z < 16 := by omega
      have hmz : min z 16 = z := by omega
      have hz0' : ¬ ((z : Int) < 0) := by omega
      clear hz
      cases hfi : bitB b i with
      | true =>
        rw [hfi] at hfe
        have d1 := hfe.symm
        have HS := Lib.hid (show mems (i + 1) (bitB b) = mems i (bitB b) ++ [(i : Int)] by rw [hsn, hfi]; rfl)
        have hlt := hown.lt
        have hown0 := hown
        unfold IntsAt at hown0
        obtain ⟨m, hm⟩ : ∃ m, (mems i (bitB b)).length = m := ⟨_, rfl⟩
        rw [hm] at hown0 hml hlt ⊢
        have HM := Lib.hid hm
        clear hfi hsn hown hm hfe
        go_wp2_with (first | (at_builtin; refine wpList_append_own_at _ rfl _ _ 32 rfl w.heap.size 3 i0 (.int .i64 0) 1 8 Tryd.underlying32 hi hz0 hz1 hz2 rfl (by decide) _ _ _ rfl (hown0.alloc _) ⟨wr.heap.size, 0, none⟩ 1 1 [.int .i64 (i : Int)] rfl rfl ?c1 ?c2 ?c3 ?c4 ?c5 ?_))
        case c2 => first | rfl | (intro u hu; simp at hu; subst hu; rfl)
        case c3 => unfold maxLen; omega
        case c4 => omega
        case c5 => have := hb.size; first | omega | (rw [World.size_alloc]; omega)
        intro v' W2 hown2 hgrow _ hv'
        have hb2 : Below w.heap.size w W2 := (hb.alloc hb.size _).grown hgrow (by rw [World.size_alloc]; have := hb.size; omega) (fun k hk => (hlt k hk).1)
        rw [← intz_snoc, ← HS.out] at hown2
        have HI2 := Lib.hid (show IntsAt W2 w.heap.size v' (mems (i + 1) (bitB b)) by unfold IntsAt; rw [HS.out, List.length_append, HM.out]; rw [HS.out] at hown2; exact hown2)
        obtain ⟨a', c', rfl⟩ := own_slice hown2
        clear hown0 hown2 hgrow hlt hv' hb
        go_wp2_with fail
        go_roundg q
        case measure => omega
        case rel => exact ⟨i + 1, by omega, by go_num, HI2.out, hb2⟩
      | false =>
        rw [hfi] at hfe
        have d1 := hfe.symm
        have HI2 := Lib.hid (show IntsAt wr w.heap.size (.slice a3 (mems i (bitB b)).length c3) (mems (i + 1) (bitB b)) by rw [hsn, hfi]; simpa using hown)
        obtain ⟨m, hm⟩ : ∃ m, (mems i (bitB b)).length = m := ⟨_, rfl⟩
        rw [hm] at HI2 ⊢
        clear hfi hsn hown hm hfe
        go_wp2_with fail
        go_roundg q
        case measure => omega
        case rel => exact ⟨i + 1, by omega, by go_num, HI2.out, hb⟩
end Go.Proofs.YtiebhalefdpjiaaDoor
