/- Integers in cells, and how they are compared as values of the program. No condition. What integer.Of returns: the integer. No condition: any int. -/
import Derived.Test.YtgcogpfmhmmgdaaGreatDoorQ13
import Derived.Deep.DeepCutAuto
import Derived.Test.YtgcogpfmhmmgdaaGreatDoorQ08

namespace Go.Proofs.YtgcogpfmhmmgdaaGreatDoor
open Go.RowKit

theorem isInt_of {z : Int} {k : Nat} (h : z.natAbs < 4294967296 ^ k) (hk : k ≤ 10000000) : IsInt (.agg #[.bool (sg z), .string (mg z)]) z k := isInt_mg h hk
/-- An integer's cells. -/
def IntAt (W : World) (b : Nat) (z : Int) : Prop := W.cell? ⟨b, 0, none⟩ = some (.bool (sg z)) ∧ W.cell? ⟨b, 1, none⟩ = some (.string (mg z))
theorem IntAt.keep {W W1 : World} {b : Nat} {z : Int} (h : IntAt W b z) (hb : Below W.heap.size W W1) : IntAt W1 b z := ⟨cell_keep h.1 hb, cell_keep h.2 hb⟩
theorem IntAt.new (W : World) (t : TypeId) (z : Int) : IntAt (W.alloc (.cells #[.bool (sg z), .string (mg z)] t)) W.heap.size z := by
  constructor <;> simp [go_sem]

theorem guardInt2 (x y : Operand) (a b : Bool) (s t : ByteArray) (w : World) : (eqGuard .eql 27 x y (.agg #[.bool a, .string s]) (.agg #[.bool b, .string t])).run Tryz.prog w = .ok () w := run_eqGuard_agg w .eql 27 x y _ _ (by kernel_rfl)
attribute [go_sem ↓] eqlInt guardInt2
end Go.Proofs.YtgcogpfmhmmgdaaGreatDoor

namespace Go.Proofs.YtgcogpfmhmmgdaaGreatDoor
open Go.RowKit

def two (m : Nat) : Nat → Nat := fun i => if i = 0 then m % 4294967296 else if i = 1 then m / 4294967296 else 0
theorem two_val (m : Nat) : val (two m) 2 = m := by simp [val, two]; omega
theorem two_dig (m : Nat) (h : m < 18446744073709551616) : Dig (two m) 2 := fun i hi => by
  rcases (show i = 0 ∨ i = 1 by omega) with rfl | rfl <;> simp [two] <;> omega

theorem two_rd (w : World) (o : Obj) (t : TypeId) (d0 d1 : Int) (m : Nat) (h0 : d0 = ((m % 4294967296 : Nat) : Int)) (h1 : d1 = ((m / 4294967296 : Nat) : Int)) :
    Rd ((w.alloc o).alloc (.cells #[.int .u32 d0, .int .u32 d1] t)) (some ⟨w.heap.size + 1, 0, none⟩) 2 (two m) := by
  refine ⟨w.heap.size + 1, 0, fun _ => rfl, fun i hi => ?_⟩
  subst h0 h1
  rcases (show i = 0 ∨ i = 1 by omega) with rfl | rfl <;> simp [go_sem, two]
theorem u64_negwrap (z : Int) (h0 : -9223372036854775808 ≤ z) (hz : z < 0) : IntKind.u64.wrap (-IntKind.u64.wrap z) = ((z.natAbs : Nat) : Int) := by
  rw [IntKind.wrap_u64, IntKind.wrap_u64]
  omega

set_option maxRecDepth 100000 in
set_option maxHeartbeats 800000 in
theorem iof_any (z : Int) (w : World) (h0 : -9223372036854775808 ≤ z) (h1 : z ≤ 9223372036854775807) :
    Calls Tryz.prog 43 #[.int .i64 z] w (IntOut w z) := by
  have hm : z.natAbs < 18446744073709551616 := by omega
  have Hm : Hid (z.natAbs < 18446744073709551616) := hm
  have hr := (ResCell.new w 27)
  have hb := below1 w (.cells #[.bool false, .string ⟨#[]⟩] 27)
  have dg2 := two_dig z.natAbs hm
  clear hm
  by_cases hz : z < 0
  · have hw := u64_negwrap z h0 hz
    have Hw : Hid (IntKind.u64.wrap (-IntKind.u64.wrap z) = ((z.natAbs : Nat) : Int)) := hw
    have e1 : IntKind.u64.wrap (-IntKind.u64.wrap z) % 4294967296 = ((z.natAbs % 4294967296 : Nat) : Int) := by rw [hw, Int.natCast_emod]; rfl
    have e2 : IntKind.u64.wrap (-IntKind.u64.wrap z) / 4294967296 % 4294967296 = ((z.natAbs / 4294967296 : Nat) : Int) := by
      rw [hw]; have := Hm.out; omega
    have hrd := two_rd w (.cells #[.bool false, .string ⟨#[]⟩] 27) 93 _ _ z.natAbs e1 e2
    have hS : Hid (z = if true = true then -(z.natAbs : Int) else (z.natAbs : Int)) := by show z = _; rw [if_pos rfl]; omega
    clear hw e1 e2
    go_enter Tryz.func43, Tryz.ntmps43
    go_wp2_with fail
    refine (trim_any _ 2 2 (two z.natAbs) _ (Nat.le_refl _) (by omega) hrd).mono ?_
    rintro e W ⟨rfl, rfl⟩
    obtain ⟨A3, n3, c3, he, hi, hbb⟩ := nat_out hrd (Below.refl _ _) dg2 (by omega) (two_val z.natAbs)
    injection he with he
    injection he with x1 x2 x3
    subst x1 x2 x3
    go_wp2_with fail
    refine (signed_any true _ _ _ z.natAbs _ hi (by have := tln_le (two z.natAbs) 2; omega)).mono ?_
    rintro e W4 ⟨rfl, b4⟩
    rw [ivN_eq true _ z hS.out]
    have hb2 := hb.alloc (by rw [World.size_alloc]; omega) (.cells #[.int .u32 (IntKind.u64.wrap (-IntKind.u64.wrap z) % 4294967296), .int .u32 (IntKind.u64.wrap (-IntKind.u64.wrap z) / 4294967296 % 4294967296)] 93)
    obtain ⟨r1, r2, r3, r4⟩ := (hr.keep (below1 _ _)).keep b4
    go_wp2
    exact bodyPost_ret (v := .agg #[.bool (sg z), .string (mg z)]) (by simp [results, Tryz.results43, go_sem, r1, r2]) rfl ⟨rfl, below_more2 hb2 (Nat.le_refl _) b4 (Nat.le_refl _) (Nat.le_refl _)⟩
  · have e1 : z % 4294967296 = ((z.natAbs % 4294967296 : Nat) : Int) := by omega
    have e2 : z / 4294967296 = ((z.natAbs / 4294967296 : Nat) : Int) := by omega
    have hrd := two_rd w (.cells #[.bool false, .string ⟨#[]⟩] 27) 93 _ _ z.natAbs e1 e2
    have hS : Hid (z = if false = true then -(z.natAbs : Int) else (z.natAbs : Int)) := by show z = _; rw [if_neg (by simp)]; omega
    clear e1 e2
    go_enter Tryz.func43, Tryz.ntmps43
    go_wp2_with fail
    refine (trim_any _ 2 2 (two z.natAbs) _ (Nat.le_refl _) (by omega) hrd).mono ?_
    rintro e W ⟨rfl, rfl⟩
    obtain ⟨A3, n3, c3, he, hi, hbb⟩ := nat_out hrd (Below.refl _ _) dg2 (by omega) (two_val z.natAbs)
    injection he with he
    injection he with x1 x2 x3
    subst x1 x2 x3
    go_wp2_with fail
    refine (signed_any false _ _ _ z.natAbs _ hi (by have := tln_le (two z.natAbs) 2; omega)).mono ?_
    rintro e W4 ⟨rfl, b4⟩
    rw [ivN_eq false _ z hS.out]
    have hb2 := hb.alloc (by rw [World.size_alloc]; omega) (.cells #[.int .u32 (z % 4294967296), .int .u32 (z / 4294967296)] 93)
    obtain ⟨r1, r2, r3, r4⟩ := (hr.keep (below1 _ _)).keep b4
    go_wp2
    exact bodyPost_ret (v := .agg #[.bool (sg z), .string (mg z)]) (by simp [results, Tryz.results43, go_sem, r1, r2]) rfl ⟨rfl, below_more2 hb2 (Nat.le_refl _) b4 (Nat.le_refl _) (Nat.le_refl _)⟩
end Go.Proofs.YtgcogpfmhmmgdaaGreatDoor
