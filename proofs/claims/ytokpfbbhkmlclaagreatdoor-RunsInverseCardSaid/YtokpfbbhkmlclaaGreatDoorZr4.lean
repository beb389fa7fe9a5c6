/- What strings.NewReplacer("0", "1", "1", "0") and its Replace return for a binary word. Condition: at most 1000 letters. -/
import Derived.Test.YtokpfbbhkmlclaaGreatDoorZr3
import Derived.Laws.NewBlocks
namespace Go.Proofs.YtokpfbbhkmlclaaGreatDoor
open Go.RowKit
set_option linter.unusedSimpArgs false
set_option linter.unusedVariables false

theorem infoStr : (Tryz.prog.info? 9).map (fun i => (i.zero, i.size, i.bytes)) = some (some (.string ⟨#[]⟩), 1, 16) := by kernel_rfl
/-- A replacer that has not been built yet. -/
structure Rep (W : World) (b h c : Nat) : Prop where
  done : W.cell? ⟨b, 0, none⟩ = some (.int .u32 0)
  state : W.cell? ⟨b, 1, none⟩ = some (.int .i32 0)
  r : W.cell? ⟨b, 3, none⟩ = some .nilIface
  old : W.cell? ⟨b, 4, none⟩ = some (.slice (some ⟨h, 0, none⟩) 4 c)
  f0 : W.frozen? ⟨b, 0, none⟩ = false
  f1 : W.frozen? ⟨b, 1, none⟩ = false
  f3 : W.frozen? ⟨b, 3, none⟩ = false
  f4 : W.frozen? ⟨b, 4, none⟩ = false
  four : Four W h
set_option maxRecDepth 100000 in
set_option maxHeartbeats 3200000 in
theorem newReplacer_any (g c : Nat) (w : World) (h4 : Four w g) :
    Calls Tryz.prog 9 #[.slice (some ⟨g, 0, none⟩) 4 c] w fun e w' => ∃ b h c', e = .returned (.pointer (some ⟨b, 0, none⟩)) ∧ Rep w' b h c' ∧ w.heap.size ≤ b ∧ Below w.heap.size w w' := by
  obtain ⟨i0, hi, hz0, hz1, hz2⟩ := info_parts infoStr
  obtain ⟨x0, x1, x2, x3⟩ := h4
  go_enter Tryz.func9, Tryz.ntmps9
  go_wp2_with (at_builtin; refine wpList_append_own_at _ rfl _ _ 50 rfl w.heap.size 9 i0 (.string ⟨#[]⟩) 1 16 Tryz.underlying50 hi hz0 hz1 hz2 rfl (by decide) _ _ _ rfl (World.ownsRow_nil _ _ _ _) ⟨g, 0, none⟩ 4 c [.string ⟨#[48]⟩, .string ⟨#[49]⟩, .string ⟨#[49]⟩, .string ⟨#[48]⟩] rfl rfl ?c1 ?c2 ?c3 ?c4 ?c5 ?_)
  case c1 =>
    intro j u hj
    have ha : ∀ i, (⟨g, 0, none⟩ : Addr).add i = ⟨g, i, none⟩ := fun i => by unfold Addr.add; split <;> simp_all
    rw [ha]
    match j, hj with
    | 0, hj => simp at hj; subst hj; exact x0
    | 1, hj => simp at hj; subst hj; exact x1
    | 2, hj => simp at hj; subst hj; exact x2
    | 3, hj => simp at hj; subst hj; exact x3
  case c2 => intro u hu; simp at hu; rcases hu with rfl | rfl | rfl <;> rfl
  case c3 => decide
  case c4 => omega
  case c5 => exact Nat.le_refl _
  intro v' W2 hown hgrow _ hv'
  obtain ⟨h, c', hv, hB, _⟩ := World.ownsRow.form hown (by omega)
  subst hv
  have hb2 : Below w.heap.size w W2 := (Below.refl _ w).grown hgrow (Nat.le_refl _) (fun k hk => by cases hk)
  have y0 := World.ownsRow.cellAt hown 0 (by omega)
  have y1 := World.ownsRow.cellAt hown 1 (by omega)
  have y2 := World.ownsRow.cellAt hown 2 (by omega)
  have y3 := World.ownsRow.cellAt hown 3 (by omega)
  have h4' : Four W2 h := ⟨y0, y1, y2, y3⟩
  clear hown hgrow hv' y0 y1 y2 y3 x0 x1 x2 x3
  go_wp2
  go_ret
  refine ⟨_, h, c', rfl, ⟨?_, ?_, ?_, ?_, ?_, ?_, ?_, ?_, h4'.keep (below1 _ _)⟩, hb2.size, hb2.alloc hb2.size _⟩
  all_goals simp [go_sem]
set_option maxRecDepth 100000 in
set_option maxHeartbeats 3200000 in
theorem buildOnce_any (b h c : Nat) (v3 : Value) (w : World) (h3 : w.cell? ⟨b, 3, none⟩ = some v3) (h4 : w.cell? ⟨b, 4, none⟩ = some (.slice (some ⟨h, 0, none⟩) 4 c)) (f3 : w.frozen? ⟨b, 3, none⟩ = false) (f4 : w.frozen? ⟨b, 4, none⟩ = false) (hF : Four w h) :
    Calls Tryz.prog 24 #[.pointer (some ⟨b, 0, none⟩)] w fun e w' => e = .returned (.tuple #[]) ∧ ∃ T W1, w' = (W1.setCell ⟨b, 3, none⟩ (.iface 88 (.pointer (some ⟨T, 0, none⟩)))).setCell ⟨b, 4, none⟩ (.slice none 0 0) ∧ W1.rowIs T 87 256 (fun j => .int .u8 (tabF j : Int)) ∧ Below w.heap.size w W1 := by
  have HB := Lib.hid (build_any b h c w h4 hF)
  go_enter Tryz.func24, Tryz.ntmps24
  go_wp2_with (go_at_call 35; (with_reducible refine (HB.out).mono ?_); rintro e W1 ⟨T, rfl, hrow, b1⟩; (have y3 := cell_keep h3 b1); (have y4 := cell_keep h4 b1); (have z3 := frozen_keep h3 f3 b1); (have z4 := frozen_keep h4 f4 b1))
  go_end0
  exact ⟨rfl, T, W1, rfl, hrow, b1⟩
theorem at_ne {b i j : Nat} (h : i ≠ j) : (⟨b, i, none⟩ : Addr) ≠ ⟨b, j, none⟩ := fun e => h (by injection e)
/-- What is behind Do: the replacer has its table. -/
def Built (w : World) (b : Nat) (w' : World) : Prop := ∃ T, w'.cell? ⟨b, 3, none⟩ = some (.iface 88 (.pointer (some ⟨T, 0, none⟩))) ∧ w'.rowIs T 87 256 (fun j => .int .u8 (tabF j : Int)) ∧ Below b w w'
set_option maxRecDepth 100000 in
set_option maxHeartbeats 6400000 in
theorem slow_any (b h c : Nat) (w : World) (hr : Rep w b h c) :
    Calls Tryz.prog 34 #[.pointer (some ⟨b, 0, none⟩), .func (.func 24) #[.pointer (some ⟨b, 0, none⟩)] #[]] w fun e w' => e = .returned (.tuple #[]) ∧ Built w b w' := by
  obtain ⟨h0, h1, h3, h4, f0, f1, f3, f4, hF⟩ := hr
  have hbl : b < w.heap.size := World.block_lt_of_cell? _ _ h0
  have hbh : h ≠ b := fun e => by
    have := hF.1
    rw [e, h0] at this
    cases this
  have k0 := (World.cell?_setCell_other w ⟨b, 1, none⟩ ⟨b, 0, none⟩ (.int .i32 1) (at_ne (by decide))).trans h0
  have k1 : (w.setCell ⟨b, 1, none⟩ (.int .i32 1)).cell? ⟨b, 1, none⟩ = some (.int .i32 1) := World.cell?_setCell_same w _ _ h1
  have k3 := (World.cell?_setCell_other w ⟨b, 1, none⟩ ⟨b, 3, none⟩ (.int .i32 1) (at_ne (by decide))).trans h3
  have k4 := (World.cell?_setCell_other w ⟨b, 1, none⟩ ⟨b, 4, none⟩ (.int .i32 1) (at_ne (by decide))).trans h4
  have kf : ∀ j, (w.setCell ⟨b, 1, none⟩ (.int .i32 1)).frozen? ⟨b, j, none⟩ = w.frozen? ⟨b, j, none⟩ := fun j => World.frozen?_setCell _ _ _ _
  have kF : Four (w.setCell ⟨b, 1, none⟩ (.int .i32 1)) h := by
    obtain ⟨a0, a1, a2, a3⟩ := hF
    exact ⟨by rw [World.cell?_setCell_far _ _ _ _ (fun e => hbh e.symm)]; exact a0, by rw [World.cell?_setCell_far _ _ _ _ (fun e => hbh e.symm)]; exact a1, by rw [World.cell?_setCell_far _ _ _ _ (fun e => hbh e.symm)]; exact a2, by rw [World.cell?_setCell_far _ _ _ _ (fun e => hbh e.symm)]; exact a3⟩
  have hl := run_call_load (P := Tryz.prog) Tryz.func39 (by kernel_rfl) (by kernel_rfl) (by kernel_rfl) .u32 (by kernel_rfl) k0
  have hnot : ∀ (x : Bool) (w : World), (Op.unary .not (.bool x)).run Tryz.prog w = .ok (.bool (!x)) w := fun _ _ => rfl
  have HBO := Lib.hid (buildOnce_any b h c _ _ k3 k4 ((kf 3).trans f3) ((kf 4).trans f4) kF)
  have hb1 : Below b w (w.setCell ⟨b, 1, none⟩ (.int .i32 1)) := (Below.refl b w).setCell (p := ⟨b, 1, none⟩) (Nat.le_refl b) _
  have hsz : b < (w.setCell ⟨b, 1, none⟩ (.int .i32 1)).heap.size := World.block_lt_of_cell? _ _ k0
  go_enter_defers Tryz.func34, Tryz.ntmps34
  go_wp2_with (first
    | (go_at_call 40; refine (lock_free ⟨b, 1, none⟩ _ h1 f1).mono ?_; rintro e w' ⟨rfl, rfl⟩)
    | (go_at_call 24; (refine (HBO.out).mono ?_); rintro e w' ⟨rfl, T, W1, rfl, hrow, hb⟩)
    | (go_at_call 33; go_in))
  have y0 := cell_keep k0 hb
  have y1 := cell_keep k1 hb
  have y3 := cell_keep k3 hb
  have hTb : T ≠ b := fun e => by
    have := hrow.cell (i := 0) (by omega)
    rw [e, y0] at this
    cases this
  obtain ⟨X, hX⟩ : ∃ X, (W1.setCell ⟨b, 3, none⟩ (.iface 88 (.pointer (some ⟨T, 0, none⟩)))).setCell ⟨b, 4, none⟩ (.slice none 0 0) = X := ⟨_, rfl⟩
  have q0 : X.cell? ⟨b, 0, none⟩ = some (.int .u32 0) := by
    rw [← hX, World.cell?_setCell_other _ ⟨b, 4, none⟩ ⟨b, 0, none⟩ _ (at_ne (by decide)), World.cell?_setCell_other _ ⟨b, 3, none⟩ ⟨b, 0, none⟩ _ (at_ne (by decide))]; exact y0
  have q1 : X.cell? ⟨b, 1, none⟩ = some (.int .i32 1) := by
    rw [← hX, World.cell?_setCell_other _ ⟨b, 4, none⟩ ⟨b, 1, none⟩ _ (at_ne (by decide)), World.cell?_setCell_other _ ⟨b, 3, none⟩ ⟨b, 1, none⟩ _ (at_ne (by decide))]; exact y1
  have q3 : X.cell? ⟨b, 3, none⟩ = some (.iface 88 (.pointer (some ⟨T, 0, none⟩))) := by
    rw [← hX, World.cell?_setCell_other _ ⟨b, 4, none⟩ ⟨b, 3, none⟩ _ (at_ne (by decide))]; exact World.cell?_setCell_same _ _ _ y3
  have g0 : X.frozen? ⟨b, 0, none⟩ = false := by
    rw [← hX, World.frozen?_setCell, World.frozen?_setCell]; exact frozen_keep k0 ((kf 0).trans f0) hb
  have g1 : X.frozen? ⟨b, 1, none⟩ = false := by
    rw [← hX, World.frozen?_setCell, World.frozen?_setCell]; exact frozen_keep k1 ((kf 1).trans f1) hb
  have qrow : X.rowIs T 87 256 (fun j => .int .u8 (tabF j : Int)) := by
    rw [← hX]; exact (hrow.setOther (a := ⟨b, 3, none⟩) hTb _).setOther (a := ⟨b, 4, none⟩) hTb _
  have qb : Below b w X := by
    rw [← hX]
    exact ((hb1.trans (hb.mono (Nat.le_of_lt hsz))).setCell (p := ⟨b, 3, none⟩) (Nat.le_refl b) _).setCell (p := ⟨b, 4, none⟩) (Nat.le_refl b) _
  rw [hX]
  have u1 : (X.drew.setCell ⟨b, 0, none⟩ (.int .u32 1)).cell? ⟨b, 1, none⟩ = some (.int .i32 1) := (World.cell?_setCell_other _ ⟨b, 0, none⟩ ⟨b, 1, none⟩ _ (at_ne (by decide))).trans q1
  have u2 : (X.drew.setCell ⟨b, 0, none⟩ (.int .u32 1)).frozen? ⟨b, 1, none⟩ = false := (World.frozen?_setCell _ _ _ _).trans g1
  have hfin : Built w b ((X.drew.setCell ⟨b, 0, none⟩ (.int .u32 1)).setCell ⟨b, 1, none⟩ (.int .i32 0)) := by
    refine ⟨T, ?_, ((qrow.drew).setOther (a := ⟨b, 0, none⟩) hTb _).setOther (a := ⟨b, 1, none⟩) hTb _, (qb.drew.setCell (p := ⟨b, 0, none⟩) (Nat.le_refl b) _).setCell (p := ⟨b, 1, none⟩) (Nat.le_refl b) _⟩
    rw [World.cell?_setCell_other _ ⟨b, 1, none⟩ ⟨b, 3, none⟩ _ (at_ne (by decide)), World.cell?_setCell_other _ ⟨b, 0, none⟩ ⟨b, 3, none⟩ _ (at_ne (by decide))]
    exact q3
  refine leaves_cons (f := 42) (args := #[.pointer (some ⟨b, 0, none⟩), .bool true]) (by simp) (by simp [go_sem]) ?_
  refine (store_deferred ⟨b, 0, none⟩ (.int .u32 0) .returning _ q0 g0).mono ?_
  rintro e u' w'' ⟨rfl, rfl, rfl⟩
  refine leaves_cons (f := 41) (args := #[.pointer (some ⟨b, 1, none⟩)]) (by simp [settle]) (by simp [go_sem]) ?_
  refine (unlock_deferred ⟨b, 1, none⟩ _ _ u1 u2).mono ?_
  rintro e u' w'' ⟨rfl, rfl, rfl⟩
  simp [Leaves, settle, results, Tryz.results34]
  exact hfin
set_option maxRecDepth 100000 in
set_option maxHeartbeats 3200000 in
theorem do_first (b h c : Nat) (w : World) (hr : Rep w b h c) :
    Calls Tryz.prog 23 #[.pointer (some ⟨b, 0, none⟩), .func (.func 24) #[.pointer (some ⟨b, 0, none⟩)] #[]] w fun e w' => e = .returned (.tuple #[]) ∧ Built w b w' := by
  have hl := run_call_load (P := Tryz.prog) Tryz.func39 (by kernel_rfl) (by kernel_rfl) (by kernel_rfl) .u32 (by kernel_rfl) hr.done
  have hnot : ∀ (x : Bool) (w : World), (Op.unary .not (.bool x)).run Tryz.prog w = .ok (.bool (!x)) w := fun _ _ => rfl
  have HS := Lib.hid (slow_any b h c w hr)
  go_enter Tryz.func23, Tryz.ntmps23
  go_wp2_with (first | (go_at_call 34; refine (HS.out).mono ?_; rintro e w' ⟨rfl, hB⟩) | (go_at_call 33; go_in))
  go_end0
  exact ⟨rfl, hB⟩
set_option maxRecDepth 100000 in
set_option maxHeartbeats 3200000 in
theorem replaceAll_any (b h c : Nat) (l : List UInt8) (w : World) (hr : Rep w b h c) (hl : l.length ≤ 1000) (hW : Wof 2 l) :
    Calls Tryz.prog 10 #[.pointer (some ⟨b, 0, none⟩), .string ⟨l.toArray⟩] w fun e w' => e = .returned (.string ⟨(l.map flipB).toArray⟩) ∧ Below b w w' := by
  have HD := Lib.hid (do_first b h c w hr)
  have HR := Lib.hid (fun T W hrow => byteReplace_any T l W hl hW hrow)
  have hmf : ∀ (fn : Fn) (first cap : Array Value) (w : World), (Instr.makeFunc fn first cap).run Tryz.prog w = .ok (.func fn first cap) w := fun _ _ _ _ => rfl
  obtain ⟨R, hR⟩ : ∃ R, l.map flipB = R := ⟨_, rfl⟩
  simp only [hR] at HR
  rw [hR]
  have hmeth : ∀ (T : Nat) (w : World), (method 281 88 (.pointer (some ⟨T, 0, none⟩)) "Replace").run Tryz.prog w = .ok (117, .pointer (some ⟨T, 0, none⟩)) w := fun T w => by kernel_rfl
  have hbl : b < w.heap.size := World.block_lt_of_cell? _ _ hr.done
  clear hR hr hW
  go_enter Tryz.func10, Tryz.ntmps10
  go_wp2_with (first
    | (go_at_call 23; refine (HD.out).mono ?_; rintro e W1 ⟨rfl, T, h3, hrow, hb1⟩; (have HROW := Lib.hid hrow); (clear hrow))
    | (go_at_call 117; refine (HR.out _ _ HROW.out).mono ?_; rintro e W2 ⟨rfl, hb2⟩))
  go_ret
  exact ⟨rfl, hb1.trans (hb2.mono (Nat.le_trans (Nat.le_of_lt hbl) hb1.size))⟩
end Go.Proofs.YtokpfbbhkmlclaaGreatDoor
