/- What the laws' great returns over a slice of integers. -/
import Derived.Test.YtmdkkeklihfdgaaGreatDoorGreat
import Derived.Lib.Hide
namespace Go.Proofs.YtmdkkeklihfdgaaGreatDoor
open Go.RowKit

/-- n integers lie in a row. -/
def RdInts (w : World) (b off n : Nat) (ng : Nat → Bool) (s : Nat → ByteArray) : Prop :=
  ∀ i, i < n → w.cell? ⟨b, off + i * 2, none⟩ = some (.bool (ng i)) ∧ w.cell? ⟨b, off + i * 2 + 1, none⟩ = some (.string (s i))
def greatB (n : Nat) (s : Nat → ByteArray) : Bool := (List.range n).any fun i => decide (60 < (s i).size)

set_option maxRecDepth 100000 in
set_option maxHeartbeats 1600000 in
theorem greats_any (b off n c : Nat) (ng : Nat → Bool) (s : Nat → ByteArray) (w : World) (h : RdInts w b off n ng s) (hn : n ≤ 1000000) (hs : ∀ i, i < n → (s i).size ≤ 9223372036854775807) :
    Calls Tryz.prog 4 #[.slice (some ⟨b, off, none⟩) n c] w fun e w' => e = .returned (.bool (greatB n s)) ∧ Below w.heap.size w w' := by
  have H : Hid (RdInts w b off n ng s) := h
  have Hs : Hid (∀ i, i < n → (s i).size ≤ 9223372036854775807) := hs
  clear h hs
  go_enter Tryz.func4, Tryz.ntmps4
  go_wp2_with fail
  go_loopg [7] n (fun g s7 wx => g ≤ n ∧ s7 = .int .i64 ((n - g : Nat) : Int) ∧ Below w.heap.size w wx ∧ Hid (∀ i, i < n - g → (s i).size ≤ 60))
  case atStart => exact ⟨Nat.le_refl _, by rw [Nat.sub_self]; rfl, Below.refl _ _, fun i hi => absurd hi (by omega)⟩
  case round =>
    obtain ⟨hg, rfl, hb, hall⟩ := hrel
    rcases gk with _ | g
    · have hgr : Hid (greatB n s = false) := by
        show _ = _
        unfold greatB
        rw [List.any_eq_false]
        intro i hi
        have := hall.out i (by have := List.mem_range.1 hi; omega)
        simp; omega
      go_wp2
      go_ret
      exact ⟨by rw [hgr.out]; rfl, hb⟩
    · obtain ⟨i, hi⟩ : ∃ i, i = n - (g + 1) := ⟨_, rfl⟩
      rw [← hi] at hall ⊢
      have hin : i < n := by omega
      have HI : Hid (i + 1 = n - g ∧ g + 1 ≤ n) := by show _ ∧ _; omega
      obtain ⟨h1, h2⟩ := H.out i hin
      have x1 : wr.cell? ⟨b, off + i * 2, none⟩ = some (.bool (ng i)) := (hb.cell (World.block_lt_of_cell? _ _ h1)).trans h1
      have x2 : wr.cell? ⟨b, off + i * 2 + 1, none⟩ = some (.string (s i)) := (hb.cell (World.block_lt_of_cell? _ _ h2)).trans h2
      have hbl := World.block_lt_of_cell? _ _ x1
      have hsz := Hs.out i hin
      clear hi h1 h2 hg
      have hb1 := below1 wr (.cells #[.bool (ng i), .string (s i)] 23)
      go_wp2_with fail
      refine (great_int (ng i) (s i) _ hsz).mono ?_
      rintro e W1 ⟨rfl, b1⟩
      have hb2 := hb.trans (below_more hb1 (Nat.le_refl _) b1 |>.mono hb.size)
      clear hb hb1 b1 x1 x2 hbl
      by_cases hbig : 60 < (s i).size
      · have hgr : Hid (greatB n s = true) := by
          show _ = _
          unfold greatB
          rw [List.any_eq_true]
          exact ⟨i, List.mem_range.2 hin, decide_eq_true hbig⟩
        rw [decide_eq_true hbig]
        go_wp2
        go_ret
        exact ⟨by rw [hgr.out]; rfl, hb2⟩
      · have hall2 : Hid (∀ j, j < i + 1 → (s j).size ≤ 60) := by
          intro j hj
          by_cases e : j = i
          · subst e; omega
          · exact hall.out j (by omega)
        rw [decide_eq_false hbig]
        go_wp2
        go_roundg g
        case measure => omega
        case rel => exact ⟨by have := HI.out.2; omega, by rw [← HI.out.1]; rfl, hb2, by rw [← HI.out.1]; exact hall2⟩
end Go.Proofs.YtmdkkeklihfdgaaGreatDoor
