/- What the byte replacer of 0 and 1 returns for a binary word: the opposite one. Condition: at most 1000 letters. -/
import Derived.Test.YtokpfbbhkmlclaaGreatDoorZr2
import Derived.Test.YtokpfbbhkmlclaaGreatDoorUf
import Derived.Lib.SliceRun
namespace Go.Proofs.YtokpfbbhkmlclaaGreatDoor
open Go.RowKit
set_option linter.unusedSimpArgs false
set_option linter.unusedVariables false

theorem nil_nil (w : World) : (binOp .eql 69 (.slice none 0 0) (.slice none 0 0)).run Tryz.prog w = .ok (.bool true) w := Lib.run_eql_slice_nil w 69 5 none 0 0 0 0 Tryz.underlying69
theorem some_nil (a : Addr) (n c : Nat) (w : World) : (binOp .eql 69 (.slice (some a) n c) (.slice none 0 0)).run Tryz.prog w = .ok (.bool false) w := Lib.run_eql_slice_nil w 69 5 (some a) n c 0 0 Tryz.underlying69
theorem tab_flip {c : UInt8} (h : dgt c < 2) : (tabF c.toNat : Int) = ((flipB c).toNat : Int) ∧ flipB c ≠ c := by
  rcases wof2 h with rfl | rfl
  · exact ⟨by decide, by decide⟩
  · exact ⟨by decide, by decide⟩
set_option maxRecDepth 100000 in
set_option maxHeartbeats 6400000 in
theorem byteReplace_any (T : Nat) (l : List UInt8) (w : World) (hl : l.length ≤ 1000) (hW : Wof 2 l) (hrow : w.rowIs T 87 256 (fun j => .int .u8 (tabF j : Int))) :
    Calls Tryz.prog 117 #[.pointer (some ⟨T, 0, none⟩), .string ⟨l.toArray⟩] w fun e w' => e = .returned (.string ⟨(l.map flipB).toArray⟩) ∧ Below w.heap.size w w' := by
  have hcv := fun W => Lib.run_convert_string_bytes (P := Tryz.prog) W 9 69 5 ⟨l.toArray⟩ Tryz.underlying9 Tryz.underlying69 Tryz.underlying5
  have n1 := nil_nil
  have n2 := some_nil
  have HW := Lib.hid hW
  have HROW := Lib.hid hrow
  have hTl := hrow.lt
  obtain ⟨R, hR⟩ : ∃ R, l.map flipB = R := ⟨_, rfl⟩
  have HR := Lib.hid hR
  have hRl : R.length = l.length := by rw [← hR, List.length_map]
  rw [hR]
  clear hW hrow hR
  go_enter Tryz.func117, Tryz.ntmps117
  go_wp2_with fail
  go_loopg [5, 6] l.length (fun q s5 s6 wx => ∃ i : Nat, i + q = l.length ∧ s6 = .int .i64 (i : Int) ∧ ((i = 0 ∧ s5 = .slice none 0 0) ∨ (0 < i ∧ ∃ g cap, s5 = .slice (some ⟨g, 0, none⟩) l.length cap ∧ w.heap.size ≤ g ∧ BRow wx g ((l.take i).map flipB ++ l.drop i))) ∧ Below w.heap.size w wx)
  case atStart => exact ⟨0, by omega, rfl, Or.inl ⟨rfl, rfl⟩, Below.refl _ _⟩
  case round =>
    obtain ⟨i, hi, rfl, hs, hb⟩ := hrel
    rcases gk with _ | q
    · obtain rfl : i = l.length := by omega
      rcases hs with ⟨h0, rfl⟩ | ⟨h0, g, cap, rfl, hg, hr⟩
      · have hRn : (⟨l.toArray⟩ : ByteArray) = ⟨R.toArray⟩ := by
          rw [List.eq_nil_of_length_eq_zero h0, List.eq_nil_of_length_eq_zero (hRl.trans h0)]
        have HRN := Lib.hid hRn
        clear hRn h0
        go_wp2
        go_ret
        exact ⟨congrArg (fun s => Ending.returned (.string s)) HRN.out, hb⟩
      · rw [List.take_length, List.drop_length, List.append_nil, HR.out] at hr
        have hbk := row_back (c := cap) hr
        rw [hRl] at hbk
        clear hr
        go_wp2
        go_ret
        exact ⟨rfl, hb⟩
    · have hil : i < l.length := by omega
      obtain ⟨c, hc⟩ : ∃ c, l[i]? = some c := ⟨_, List.getElem?_eq_getElem hil⟩
      have hix := run_at_bytes l i c hc (i : Int) rfl
      have hcu := c.toNat_lt
      obtain ⟨ht1, ht2⟩ := tab_flip (HW.out c (List.mem_of_getElem? hc))
      have hdrop : l.drop i = c :: l.drop (i + 1) := by
        rw [List.drop_eq_getElem_cons hil]
        rw [List.getElem?_eq_getElem hil] at hc
        injection hc with hc
        rw [hc]
      have htake : (l.take (i + 1)).map flipB = (l.take i).map flipB ++ [flipB c] := by
        rw [List.take_add_one, hc, List.map_append]; rfl
      have hul : ((l.take i).map flipB).length = i := by rw [List.length_map, List.length_take]; omega
      have hTc : ∀ W, Below w.heap.size w W → W.cell? ⟨T, c.toNat, none⟩ = some (.int .u8 (((flipB c).toNat : Nat) : Int)) := fun W hW => by
        have := (World.rowIs.of_block HROW.out (hW.block T hTl)).cell (i := c.toNat) (by omega)
        rw [this, ht1]
      obtain ⟨d, hd⟩ : ∃ d, flipB c = d := ⟨_, rfl⟩
      rw [hd] at ht2 htake
      simp only [hd] at hTc
      have hne : ((d.toNat : Int) == (c.toNat : Int)) = false := by
        rw [beq_eq_false_iff_ne]
        intro e
        exact ht2 (UInt8.toNat_inj.1 (by omega))
      have hdl := d.toNat_lt
      have HTC := Lib.hid hTc
      have hset : ∀ W g, BRow W g ((l.take i).map flipB ++ l.drop i) → BRow (W.setCell ⟨g, i, none⟩ (.int .u8 (d.toNat : Int))) g ((l.take (i + 1)).map flipB ++ l.drop (i + 1)) := fun W g hr => by
        have h1 := hr.set (i := i) d
        rw [hdrop, set_mid hul, ← htake] at h1
        exact h1
      have HSET := Lib.hid hset
      have hget : ((l.take i).map flipB ++ l.drop i)[i]? = some c := by rw [get_mid hul, hdrop]; rfl
      have HGET := Lib.hid hget
      have y1 := hTc wr hb
      clear hc hd ht1 ht2 hdrop htake hul hTc hset hget
      rcases hs with ⟨h0, rfl⟩ | ⟨h0, g, cap, rfl, hg, hr⟩
      · have hr0 := bytes_row wr l
        have hb0 := hb.trans ((bytes_below wr 5 ⟨l.toArray⟩).mono hb.size)
        have hr1 : BRow (Lib.bytesWorld wr 5 ⟨l.toArray⟩) wr.heap.size ((l.take i).map flipB ++ l.drop i) := by
          rw [h0, List.take_zero, List.drop_zero]; exact hr0
        have y2 := HTC.out _ hb0
        have z := hr1 i c HGET.out
        have hN := HSET.out _ _ hr1
        have hbN := hb0.setCell (p := ⟨wr.heap.size, i, none⟩) hb.size (.int .u8 (d.toNat : Int))
        have hi1 : 0 < i + 1 := Nat.succ_pos i
        obtain ⟨z1, z2⟩ := z
        have hsz := hb.size
        have hcv0 := hcv wr
        have j2 : (i : Int) < (l.length : Int) := by omega
        clear h0 hr0 hr1 HGET HSET HTC hcv
        generalize Lib.bytesWorld wr 5 ⟨l.toArray⟩ = W1 at *
        go_wp2_with fail
        go_roundg q
        case measure => omega
        case rel => exact ⟨i + 1, by omega, by go_num, Or.inr ⟨hi1, _, _, rfl, hsz, hN⟩, hbN⟩
      · obtain ⟨z1, z2⟩ := hr i c HGET.out
        have hN := HSET.out _ _ hr
        have hbN := hb.setCell (p := ⟨g, i, none⟩) hg (.int .u8 (d.toNat : Int))
        have hi1 : 0 < i + 1 := Nat.succ_pos i
        have j2 : (i : Int) < (l.length : Int) := by omega
        clear hr HGET HSET HTC hcv
        go_wp2_with fail
        go_roundg q
        case measure => omega
        case rel => exact ⟨i + 1, by omega, by go_num, Or.inr ⟨hi1, _, _, rfl, hg, hN⟩, hbN⟩
end Go.Proofs.YtokpfbbhkmlclaaGreatDoor
