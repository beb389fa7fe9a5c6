/- What runs.Charges, runs.Disparity and runs.Range return. Condition: at most 1000 letters, or an error of Check. -/
import Derived.Test.YtokpfbbhkmlclaaGreatDoorUf
namespace Go.Proofs.YtokpfbbhkmlclaaGreatDoor
open Go.RowKit
set_option linter.unusedSimpArgs false
set_option linter.unusedVariables false

/-- What Charges returns. -/
def chgR (l : List UInt8) : List Int × Int := if chk 2 l = 0 then (chgs l, 0) else ([], chk 2 l)
def IntsOut (w : World) (r : List Int × Int) (e : Ending) (w' : World) : Prop := ∃ v, e = .returned (.tuple #[v, .int .i64 r.2]) ∧ IntsAt w' w.heap.size v r.1 ∧ Below w.heap.size w w'
theorem made_own (W : World) (B n : Nat) (hB : B ≤ W.heap.size) (hn : n ≤ 1000000) : (W.alloc (.cells (madeCells #[.int .i64 0] (n + 1)) 3)).ownsRow B 3 1 (.slice (some ⟨W.heap.size, 0, none⟩) 1 (n + 1)) 1 [.int .i64 0] := by
  refine ⟨rfl, .inr ⟨W.heap.size, n + 1, madeCells #[.int .i64 0] (n + 1), rfl, hB, heap_alloc_new W _, by omega, by unfold maxLen; omega, by rw [size_madeCells]; omega, ?_⟩⟩
  rw [toList_madeCells_one]; rfl
theorem BRow.grown {W W' : World} {b g : Nat} {l : List UInt8} (h : BRow W b l) (hg : W.grownBy W' (some g)) (hne : b ≠ g) : BRow W' b l := fun j c hc => by
  obtain ⟨k1, k2⟩ := h j c hc
  have e := hg.block b (World.block_lt_of_cell? _ _ k1) (by simpa using hne)
  exact ⟨(World.cell?_of_block (w := W) e).trans k1, (World.frozen?_of_block (w := W) e).trans k2⟩
set_option maxRecDepth 100000 in
set_option maxHeartbeats 3200000 in
theorem charges_any (l : List UInt8) (w : World) (hl : l.length ≤ 1000 ∨ (65536 < l.length ∧ l.length ≤ 9223372036854775807)) :
    Calls Tryz.prog 13 #[.string ⟨l.toArray⟩] w (IntsOut w (chgR l)) := by
  have HC := Lib.hid (fun W => checkBinary_any l W (by omega))
  by_cases h0 : chk 2 l = 0
  · obtain ⟨m, hm, m1, m2, hl2, hW⟩ := chk_zero h0
    obtain rfl : m = 2 := by omega
    have hl3 : l.length ≤ 1000 := by omega
    have HX := Lib.hid (show chgR l = (chgs l, 0) by unfold chgR; rw [if_pos h0])
    rw [HX.out]
    simp only [h0] at HC
    obtain ⟨i0, hi, hz0, hz1, hz2⟩ := info_parts Tryz.infoI64
    have hmk := fun W => run_make (P := Tryz.prog) W 36 3 i0 (.int .i64 0) Tryz.underlying36 hi hz0 .i64 .i64 1 ((l.length : Int) + 1) (by omega) (by omega) (by rw [hz2]; omega) (by omega)
    rw [hz1, show (((l.length : Int) + 1).toNat) = l.length + 1 by omega, show Int.toNat 1 = 1 from rfl, Nat.mul_one] at hmk
    have hcv := fun W => Lib.run_convert_string_bytes (P := Tryz.prog) W 9 69 5 ⟨l.toArray⟩ Tryz.underlying9 Tryz.underlying69 Tryz.underlying5
    have HR := Lib.hid (fun W => bytes_row W l)
    have HB := Lib.hid (fun W => bytes_below W 5 ⟨l.toArray⟩)
    have HO := Lib.hid (fun W hB => made_own W w.heap.size l.length hB (by omega))
    have HW := Lib.hid hW
    clear hW hl h0 HX hm
    go_enter Tryz.func13, Tryz.ntmps13
    go_wp2_with (go_at_call 29; (with_reducible refine (HC.out _).mono ?_); rintro e W1 ⟨rfl, b1⟩)
    have o1 := HO.out W1 b1.size
    clear hmk hcv
    have o2 := World.ownsRow.kept o1 (grown_none (HB.out _)) (Or.inr (by simp [Value.ownBlock]))
    have hr0 := HR.out (W1.alloc (.cells (madeCells #[.int .i64 0] (l.length + 1)) 3))
    have hb0 := (b1.alloc b1.size (.cells (madeCells #[.int .i64 0] (l.length + 1)) 3)).trans ((HB.out (W1.alloc (.cells (madeCells #[.int .i64 0] (l.length + 1)) 3))).mono (by rw [World.size_alloc]; have := b1.size; omega))
    rw [World.size_alloc] at hr0
    clear HO HR HB o1
    generalize Lib.bytesWorld (W1.alloc (.cells (madeCells #[.int .i64 0] (l.length + 1)) 3)) 5 ⟨l.toArray⟩ = W0 at *
    go_loopg [5, 20] l.length (fun q s5 s20 wx => ∃ i : Nat, i + q = l.length ∧ s20 = .int .i64 (i : Int) ∧ s5 = .slice (some ⟨W1.heap.size, 0, none⟩) (i + 1) (l.length + 1) ∧ wx.ownsRow w.heap.size 3 1 (.slice (some ⟨W1.heap.size, 0, none⟩) (i + 1) (l.length + 1)) (i + 1) (intz (chgs (l.take i))) ∧ BRow wx (W1.heap.size + 1) l ∧ Below w.heap.size w wx)
    case atStart => exact ⟨0, by omega, rfl, rfl, o2, hr0, hb0⟩
    case round =>
      obtain ⟨i, hin, rfl, rfl, hown, hr, hb⟩ := hrel
      rcases gk with _ | q
      · obtain rfl : i = l.length := by omega
        have HI := Lib.hid (show IntsAt wr w.heap.size (.slice (some ⟨W1.heap.size, 0, none⟩) (l.length + 1) (l.length + 1)) (chgs l) by
          rw [List.take_length] at hown
          unfold IntsAt
          rw [chgs_len]; exact hown)
        clear hown hr
        go_wp2
        exact bodyPost_ret (v := .tuple #[.slice (some ⟨W1.heap.size, 0, none⟩) (l.length + 1) (l.length + 1), .int .i64 0]) (by simp [results, Tryz.results13, go_sem]) rfl ⟨_, rfl, HI.out, hb⟩
      · obtain ⟨c, hci⟩ : ∃ c, l[i]? = some c := ⟨_, List.getElem?_eq_getElem (by omega)⟩
        have hil : i < l.length := by omega
        have hcell := (hr i c hci).1
        have hcu := c.toNat_lt
        have hc2 : dgt c < 2 := HW.out c (List.mem_of_getElem? hci)
        have hcb := chg_bound (HW.out.takeU i)
        rw [List.length_take] at hcb
        have hx : wr.cell? ⟨W1.heap.size, i, none⟩ = some (.int .i64 (chg (l.take i))) := by
          rw [hown.cellAt i (by omega)]
          unfold intz
          have := chgs_at (l := l.take i) (i := i) (by rw [List.length_take]; omega)
          rw [List.take_take, Nat.min_self] at this
          rw [List.getElem?_map, this]; rfl
        have hsn := chgs_snoc (l.take i) c
        rw [show l.take i ++ [c] = l.take (i + 1) by rw [List.take_add_one, hci]; rfl] at hsn
        unfold ch1 at hsn
        obtain ⟨x, hxx⟩ : ∃ x, chg (l.take i) = x := ⟨_, rfl⟩
        obtain ⟨d, hd⟩ : ∃ d, dgt c = d := ⟨_, rfl⟩
        have HD := Lib.hid (fun W => digit_any c W (by omega))
        simp only [hd] at HD
        rw [hd] at hc2 hsn
        rw [hxx] at hx hsn hcb
        rw [show x + (2 * (d : Int) - 1) = x + 2 * (d : Int) - 1 by omega] at hsn
        have HS := Lib.hid hsn
        have hne : W1.heap.size + 1 ≠ W1.heap.size := by omega
        have hrl : BRow (wr.drew.alloc (.cells #[.int .i64 (x + 2 * (d : Int) - 1)] 3)) (W1.heap.size + 1) l := hr.keep ((Below.refl _ wr).drew.alloc (Nat.le_refl _) _)
        have hbl : Below w.heap.size w (wr.drew.alloc (.cells #[.int .i64 (x + 2 * (d : Int) - 1)] 3)) := hb.drew.alloc hb.size _
        have hown2 := (show wr.drew.ownsRow w.heap.size 3 1 (.slice (some ⟨W1.heap.size, 0, none⟩) (i + 1) (l.length + 1)) (i + 1) (intz (chgs (l.take i))) from hown).alloc (.cells #[.int .i64 (x + 2 * (d : Int) - 1)] 3)
        have hcn := World.news_of_block (cs := #[.int .i64 (x + 2 * (d : Int) - 1)]) (t := 3) (fr := (0, 0)) (heap_alloc_new wr.drew _)
        have hx2 : wr.drew.cell? ⟨W1.heap.size, i, none⟩ = some (.int .i64 x) := hx
        have hcap : i + 1 + 1 ≤ l.length + 1 := by omega
        have hB1 : w.heap.size ≤ W1.heap.size := b1.size
        have j0 : (0 : Int) ≤ (i : Int) := by omega
        have j1 : (i : Int) < ((i + 1 : Nat) : Int) := by omega
        have j2 : (i : Int) < (i : Int) + 1 := by omega
        have j3 : IntKind.i64.wrap (2 * (d : Int)) = 2 * (d : Int) := by rw [IntKind.wrap_i64]; omega
        have j4 : IntKind.i64.wrap (x + 2 * (d : Int)) = x + 2 * (d : Int) := by rw [IntKind.wrap_i64]; omega
        have j5 : IntKind.i64.wrap (x + 2 * (d : Int) - 1) = x + 2 * (d : Int) - 1 := by rw [IntKind.wrap_i64]; omega
        clear hci hxx hd hsn hr hown
        go_wp2_with fail
        go_region_law (first
          | (refine step_append_fits _ rfl (.tmp 25) (.tmp 35) 36 rfl w.heap.size 3 i0 1 Tryz.underlying36 hi hz1 W1.heap.size (i + 1) (l.length + 1) (intz (chgs (l.take i))) (by simp [Act.eval, Act.put]) hown2 ⟨wr.drew.heap.size, 0, none⟩ 1 1 [.int .i64 (x + 2 * (d : Int) - 1)] (by simp [Act.eval, Act.put]) rfl hcn (by intro u hu; simp at hu; subst hu; rfl) hcap ?_; intro W2 r1 r2)
          | (go_simp; go_at_call 28; (with_reducible refine (HD.out _).mono ?_); rintro e X1 ⟨rfl, hX⟩; (rw [hX]); (clear hX); go_wp2_with fail))
        all_goals
          have hr2 := hrl.grown r2 hne
          have hb2 : Below w.heap.size w W2 := hbl.grown r2 hbl.size (fun k hk => by injection hk with hk; omega)
          rw [← intz_snoc, ← HS.out] at r1
          clear hown2 hrl hbl r2 hcn hx hx2 hcell
          go_wp2
          go_roundg q
          case measure => omega
          case rel => exact ⟨i + 1, by omega, by go_num, rfl, r1, hr2, hb2⟩
  · obtain ⟨c, hc⟩ : ∃ c, chk 2 l = c := ⟨_, rfl⟩
    have HX := Lib.hid (show chgR l = ([], c) by unfold chgR; rw [if_neg h0, hc])
    rw [HX.out]
    simp only [hc] at HC
    rw [hc] at h0
    have h1 : (c == 0) = false := by rw [beq_eq_false_iff_ne]; exact h0
    clear hc h0
    go_enter Tryz.func13, Tryz.ntmps13
    go_wp2_with (go_at_call 29; (with_reducible refine (HC.out _).mono ?_); rintro e W1 ⟨rfl, b1⟩)
    exact bodyPost_ret (v := .tuple #[.slice none 0 0, .int .i64 c]) (by simp [results, Tryz.results13, go_sem]) rfl ⟨_, rfl, ints_nil _ _, b1⟩
end Go.Proofs.YtokpfbbhkmlclaaGreatDoor
