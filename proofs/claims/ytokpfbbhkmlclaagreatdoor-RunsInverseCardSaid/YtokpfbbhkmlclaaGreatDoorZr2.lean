/- What the build of strings.NewReplacer("0", "1", "1", "0") returns: a table of bytes. Condition: the four strings lie in memory. -/
import Derived.Test.YtokpfbbhkmlclaaGreatDoorZr1
import Derived.Test.YtokpfbbhkmlclaaGreatDoorUe
import Derived.Laws.IdiomCopy
namespace Go.Proofs.YtokpfbbhkmlclaaGreatDoor
open Go.RowKit
set_option linter.unusedSimpArgs false
set_option linter.unusedVariables false

/-- The table. -/
def tabF (j : Nat) : Nat := if j = 48 then 49 else if j = 49 then 48 else j
/-- The four strings. -/
def Four (W : World) (h : Nat) : Prop := W.cell? ⟨h, 0, none⟩ = some (.string ⟨#[48]⟩) ∧ W.cell? ⟨h, 1, none⟩ = some (.string ⟨#[49]⟩) ∧ W.cell? ⟨h, 2, none⟩ = some (.string ⟨#[49]⟩) ∧ W.cell? ⟨h, 3, none⟩ = some (.string ⟨#[48]⟩)
theorem Four.keep {W W' : World} {h : Nat} (k : Four W h) (hb : Below W.heap.size W W') : Four W' h := ⟨cell_keep k.1 hb, cell_keep k.2.1 hb, cell_keep k.2.2.1 hb, cell_keep k.2.2.2 hb⟩
theorem zc256 : Tryz.zeroCells87 = Array.replicate 256 (.int .u8 0) := by kernel_rfl
theorem row_zeros {b n : Nat} {t : TypeId} {z : Value} : ∀ (m o : Nat) (W : World), W.rowIs b t n (fun _ => z) → (W.setCells b o (List.replicate m z)).rowIs b t n (fun _ => z)
  | 0, _, _, h => h
  | m + 1, o, W, h => by
    rw [List.replicate_succ]
    show ((W.setCell ⟨b, o, none⟩ z).setCells b (o + 1) (List.replicate m z)).rowIs b t n (fun _ => z)
    exact row_zeros m (o + 1) _ (World.rowIs.congr (World.rowIs.set h o z) (fun i _ => by split <;> rfl))
theorem below_cells {B : Nat} {a : World} (b : Nat) (hb : B ≤ b) : ∀ (vs : List Value) (o : Nat) {w : World}, Below B a w → Below B a (w.setCells b o vs)
  | [], _, _, h => h
  | v :: r, o, _, h => below_cells b hb r (o + 1) (h.setCell (p := ⟨b, o, none⟩) hb v)
/-- The new table: bytes 0. -/
theorem zeros_new (w : World) : (storeCells ⟨w.heap.size, 0, none⟩ Tryz.zeroCells87.toList).run Tryz.prog (w.alloc (.cells Tryz.zeroCells87 87)) = .ok () ((w.alloc (.cells Tryz.zeroCells87 87)).setCells w.heap.size 0 Tryz.zeroCells87.toList) ∧
    ((w.alloc (.cells Tryz.zeroCells87 87)).setCells w.heap.size 0 Tryz.zeroCells87.toList).rowIs w.heap.size 87 256 (fun _ => .int .u8 0) ∧
    Below w.heap.size w ((w.alloc (.cells Tryz.zeroCells87 87)).setCells w.heap.size 0 Tryz.zeroCells87.toList) := by
  have hl : Tryz.zeroCells87.toList = List.replicate 256 (.int .u8 0) := by rw [zc256, Array.toList_replicate]
  have hsz : Tryz.zeroCells87.size = 256 := by rw [zc256, Array.size_replicate]
  have hrow : (w.alloc (.cells Tryz.zeroCells87 87)).rowIs w.heap.size 87 256 (fun _ => .int .u8 0) := by
    have h := World.rowIs_alloc w Tryz.zeroCells87 87 (fun _ => .int .u8 0) (fun i hi => by
      rw [zc256] at hi ⊢
      rw [Array.size_replicate] at hi
      simp [hi])
    rw [hsz] at h
    exact h
  refine ⟨?_, ?_, below_cells _ (Nat.le_refl _) _ _ (below1 w _)⟩
  · refine run_storeCells_cells (P := Tryz.prog) w.heap.size 0 Tryz.zeroCells87.toList 0 _ (fun j hj => ?_) (fun j hj => ?_) (fun v hv => ?_)
    · rw [hl, List.length_replicate] at hj
      rw [show 0 + 0 + j = j by omega, hrow.cell hj]; rfl
    · exact hrow.frozen _
    · rw [hl] at hv
      rw [(List.mem_replicate.1 hv).2]; rfl
  · rw [hl]
    exact row_zeros 256 0 _ hrow
/-- The table between the rounds of the last loop. -/
def tabQ (q j : Nat) : Nat := if q = 0 ∧ j = 48 then 49 else if q ≤ 1 ∧ j = 49 then 48 else j
theorem tabQ_zero (j : Nat) : tabQ 0 j = tabF j := by unfold tabQ tabF; split <;> simp_all
theorem tabQ_two (j : Nat) : tabQ 2 j = j := by unfold tabQ; rw [if_neg (by omega), if_neg (by omega)]
theorem tab_step1 (i : Nat) : (if i = 48 then Value.int .u8 49 else Value.int .u8 ((tabQ 1 i : Nat) : Int)) = Value.int .u8 ((tabQ 0 i : Nat) : Int) := by
  by_cases e : i = 48
  · subst e; rfl
  · by_cases e2 : i = 49
    · subst e2; rfl
    · rw [if_neg e]; unfold tabQ; simp [e, e2]
theorem tab_step2 (i : Nat) : (if i = 49 then Value.int .u8 48 else Value.int .u8 ((tabQ 2 i : Nat) : Int)) = Value.int .u8 ((tabQ 1 i : Nat) : Int) := by
  by_cases e : i = 49
  · subst e; rfl
  · rw [if_neg e]; unfold tabQ; simp [e]
set_option maxRecDepth 100000 in
set_option maxHeartbeats 6400000 in
theorem build_any (b h c : Nat) (w : World) (hs : w.cell? ⟨b, 4, none⟩ = some (.slice (some ⟨h, 0, none⟩) 4 c)) (h4 : Four w h) :
    Calls Tryz.prog 35 #[.pointer (some ⟨b, 0, none⟩)] w fun e w' => ∃ T, e = .returned (.iface 88 (.pointer (some ⟨T, 0, none⟩))) ∧ w'.rowIs T 87 256 (fun j => .int .u8 (tabF j : Int)) ∧ Below w.heap.size w w' := by
  obtain ⟨x0, x1, x2, x3⟩ := h4
  have ne1 : ∀ (x : UInt8), (⟨#[x]⟩ : ByteArray).size = 1 := fun x => rfl
  go_enter Tryz.func35, Tryz.ntmps35
  go_wp2_with fail
  go_loopg [4, 5] 2 (fun q s4 s5 wx => wx = w ∧ ∃ i : Nat, i + q = 2 ∧ s5 = .int .i64 ((2 * i : Nat) : Int) ∧ s4 = .bool true)
  case atStart => exact ⟨rfl, 0, by omega, rfl, rfl⟩
  case round =>
    obtain ⟨rfl, i, hi, rfl, rfl⟩ := hrel
    rcases gk with _ | q
    · obtain rfl : i = 2 := by omega
      obtain ⟨hst, hrow, hbz⟩ := zeros_new wr
      generalize (wr.alloc (.cells Tryz.zeroCells87 87)).setCells wr.heap.size 0 Tryz.zeroCells87.toList = W2 at *
      obtain ⟨Wo, rfl⟩ : ∃ Wo, Wo = wr := ⟨_, rfl⟩
      have HX := Lib.hid (show Four Wo h from ⟨x0, x1, x2, x3⟩)
      have HB0 := Lib.hid hbz
      go_wp2_with fail
      clear hst hs x0 x1 x2 x3 hbz
      go_loopg [7, 61] 256 (fun q s7 s61 wx => ∃ i : Nat, i + q = 256 ∧ s61 = .int .i64 (i : Int) ∧ wx.rowIs Wo.heap.size 87 256 (fun j => .int .u8 ((if j < i then j else 0 : Nat) : Int)) ∧ Below Wo.heap.size Wo wx)
      case atStart => exact ⟨0, by omega, rfl, World.rowIs.congr hrow (fun i _ => by rw [if_neg (by omega)]; rfl), HB0.out⟩
      case round =>
        obtain ⟨i, hi, rfl, hrow2, hb⟩ := hrel
        rcases gk with _ | q
        · obtain rfl : i = 256 := by omega
          have hrow3 := World.rowIs.congr (g := fun j => .int .u8 ((tabQ 2 j : Nat) : Int)) hrow2 (fun i hi => by rw [if_pos hi, tabQ_two])
          clear hrow2 hrow HB0
          go_wp2_with fail
          go_loopg [8, 9, 10] 2 (fun q s8 s9 s10 wx => s8 = .int .i64 (2 * (q : Int) - 2) ∧ q ≤ 2 ∧ wx.rowIs Wo.heap.size 87 256 (fun j => .int .u8 ((tabQ q j : Nat) : Int)) ∧ Below Wo.heap.size Wo wx)
          case atStart => exact ⟨rfl, Nat.le_refl _, hrow3, hb⟩
          case round =>
            obtain ⟨rfl, hq2, hrow4, hb4⟩ := hrel
            have c1 := hrow4.cell (i := 49) (by omega)
            have c0 := hrow4.cell (i := 48) (by omega)
            have f1 := hrow4.frozen 49
            have f0 := hrow4.frozen 48
            obtain ⟨x0, x1, x2, x3⟩ := HX.out.keep hb4
            have e48 : ((⟨#[48]⟩ : ByteArray)[0]'(by decide)).toNat = 48 := rfl
            have e49 : ((⟨#[49]⟩ : ByteArray)[0]'(by decide)).toNat = 49 := rfl
            rcases (show gk = 0 ∨ gk = 1 ∨ gk = 2 by omega) with rfl | rfl | rfl
            · have hrow5 := World.rowIs.congr (g := fun j => .int .u8 ((tabF j : Nat) : Int)) hrow4 (fun i hi => by rw [tabQ_zero])
              clear hrow4 c1 c0 f1 f0
              go_wp2
              go_ret
              exact ⟨_, rfl, hrow5, hb4⟩
            · have hrow5 := World.rowIs.congr (g := fun j => .int .u8 ((tabQ 0 j : Nat) : Int)) (hrow4.set 48 (.int .u8 49)) (fun i hi => tab_step1 i)
              have hb5 := hb4.setCell (p := ⟨Wo.heap.size, 48, none⟩) (Nat.le_refl _) (.int .u8 49)
              clear hrow4
              go_wp2_with fail
              go_roundg 0
              case measure => omega
              case rel => exact ⟨rfl, by omega, hrow5, hb5⟩
            · have hrow5 := World.rowIs.congr (g := fun j => .int .u8 ((tabQ 1 j : Nat) : Int)) (hrow4.set 49 (.int .u8 48)) (fun i hi => tab_step2 i)
              have hb5 := hb4.setCell (p := ⟨Wo.heap.size, 49, none⟩) (Nat.le_refl _) (.int .u8 48)
              clear hrow4
              go_wp2_with fail
              go_roundg 1
              case measure => omega
              case rel => exact ⟨rfl, by omega, hrow5, hb5⟩
        · have hil : i < 256 := by omega
          have c0 := hrow2.cell (i := i) hil
          have f0 := hrow2.frozen i
          have hw : IntKind.u8.wrap (i : Int) = (i : Int) := by simp [IntKind.wrap, IntKind.bits, IntKind.signed]; omega
          have hrow3 := World.rowIs.congr (g := fun j => .int .u8 ((if j < i + 1 then j else 0 : Nat) : Int)) (hrow2.set i (.int .u8 (i : Int))) (fun j hj => by
            by_cases e : j = i
            · rw [if_pos e, e, if_pos (by omega)]
            · rw [if_neg e]
              by_cases e2 : j < i
              · rw [if_pos e2, if_pos (by omega)]
              · rw [if_neg e2, if_neg (by omega)])
          have hb5 := hb.setCell (p := ⟨Wo.heap.size, i, none⟩) (Nat.le_refl _) (.int .u8 (i : Int))
          have hi0 : (0 : Int) ≤ (i : Int) := by omega
          have hi1 : (i : Int) < 256 := by omega
          clear hrow2 hrow
          go_wp2_with fail
          go_roundg q
          case measure => omega
          case rel => exact ⟨i + 1, by omega, by go_num, hrow3, hb5⟩
    · rcases (show i = 0 ∨ i = 1 by omega) with rfl | rfl
      · go_wp2_with fail
        go_roundg q
        case measure => omega
        case rel => exact ⟨rfl, 1, by omega, rfl, rfl⟩
      · go_wp2_with fail
        go_roundg q
        case measure => omega
        case rel => exact ⟨rfl, 2, by omega, rfl, rfl⟩
end Go.Proofs.YtokpfbbhkmlclaaGreatDoor
