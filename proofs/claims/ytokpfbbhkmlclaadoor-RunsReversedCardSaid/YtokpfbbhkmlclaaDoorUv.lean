/- What word.Reverse returns: the bytes in the opposite order. Condition: at most 10^6 bytes. -/
import Derived.Test.YtokpfbbhkmlclaaDoorUh
import Derived.Shelf.SlicesE.Reverse
namespace Go.Proofs.YtokpfbbhkmlclaaDoor
open Go.RowKit
set_option linter.unusedSimpArgs false
set_option linter.unusedVariables false

def renRev : Go.Shelf.Ren := ⟨fun | 35 => 55 | n => n, fun | 22 => 53 | 23 => 5 | 3 => 3 | 4 => 4 | n => n, fun n => n⟩
theorem laysRev : Go.Proofs.SlLaysE.n35 Tryd.prog renRev := {
  mixed := by kernel_rfl
  f35 := ⟨Tryd.f55.name, by decide, Tryd.func55.trans (congrArg some (by kernel_rfl))⟩
  t0 := by kernel_rfl
  a0 := fun _ => by kernel_rfl
  z0 := fun _ => by kernel_rfl
  v0 := fun _ => by kernel_rfl
  t3 := by kernel_rfl
  a3 := fun _ => by kernel_rfl
  z3 := fun _ => by kernel_rfl
  v3 := fun _ => by kernel_rfl
  t4 := by kernel_rfl
  a4 := fun _ => by kernel_rfl
  z4 := fun _ => by kernel_rfl
  v4 := fun _ => by kernel_rfl
  t22 := by kernel_rfl
  a22 := fun _ => by kernel_rfl
  z22 := fun _ => by kernel_rfl
  v22 := fun _ => by kernel_rfl
  a23 := fun _ => by kernel_rfl
  z23 := fun _ => by kernel_rfl }
/-- A byte, as a value. -/
def encB (b : UInt8) : Value := .int .u8 (b.toNat : Int)
theorem reverse_cells (g cap : Nat) (l : List UInt8) (W : World) (hH : Sort.Holds encB W g 0 l.toArray) (hl : l.length ≤ 1000000) :
    Calls Tryd.prog 55 #[.slice (some ⟨g, 0, none⟩) l.length cap] W fun e W' => e = .returned (.tuple #[]) ∧ ∃ n, W' = Sort.putRow encB (Sort.ahead W n) g 0 l.reverse.toArray :=
  AnyE.slices_Reverse laysRev encB (fun _ => rfl) g 0 cap l W hH (by omega)
theorem below_putRow {B g : Nat} {w W : World} (h : Below B w W) (hg : B ≤ g) (n : Nat) (d : Array UInt8) : Below B w (Sort.putRow encB (Sort.ahead W n) g 0 d) :=
  h.trans ⟨rfl, rfl, rfl, by rw [Sort.size_putRow]; exact Nat.le_refl _, fun k hk => by
    show (W.heap.modify g _)[k]? = W.heap[k]?
    rw [Array.getElem?_modify, if_neg (by omega)]⟩
theorem bytes_holds (w : World) (l : List UInt8) : Sort.Holds encB (Lib.bytesWorld w 5 ⟨l.toArray⟩) w.heap.size 0 l.toArray := fun j hj => by
  have hj' : j < l.length := by simpa using hj
  rw [Nat.zero_add]
  constructor
  · rw [Lib.bytesWorld_cell _ _ _ _ hj', getElem!_pos _ j hj]
    have : (⟨l.toArray⟩ : ByteArray).data.toList.getD j 0 = l.toArray[j] := by
      show l.getD j 0 = _
      rw [List.getD_eq_getElem?_getD, List.getElem?_eq_getElem hj']; rfl
    rw [this]; rfl
  · have hs : l.length ≤ (Lib.bytesCells w 5 ⟨l.toArray⟩).size := by
      unfold Lib.bytesCells
      rw [Array.size_append, Array.size_map]
      exact Nat.le_add_right _ _
    unfold World.frozen?
    rw [Lib.bytesWorld_at_new]
    simp
    omega
set_option maxRecDepth 100000 in
set_option maxHeartbeats 1600000 in
theorem reverse_any (l : List UInt8) (w : World) (hl : l.length ≤ 1000000) :
    Calls Tryd.prog 33 #[.string ⟨l.toArray⟩] w fun e w' => e = .returned (.string ⟨l.reverse.toArray⟩) ∧ Below w.heap.size w w' := by
  have hcv := fun W => Lib.run_convert_string_bytes (P := Tryd.prog) W 9 53 5 ⟨l.toArray⟩ Tryd.underlying9 Tryd.underlying53 Tryd.underlying5
  have hb0 := bytes_below w 5 ⟨l.toArray⟩
  have hH := bytes_holds w l
  obtain ⟨cap, hcap⟩ : ∃ cap, grownCap w (⟨l.toArray⟩ : ByteArray).size 0 5 = cap := ⟨_, rfl⟩
  have hcv0 := hcv w
  rw [hcap] at hcv0
  clear hcv hcap
  obtain ⟨W0, hW0⟩ : ∃ W0, Lib.bytesWorld w 5 ⟨l.toArray⟩ = W0 := ⟨_, rfl⟩
  rw [hW0] at hcv0 hb0 hH
  have hR := reverse_cells w.heap.size cap l W0 hH hl
  have hlr : l.reverse.length = l.length := List.length_reverse
  obtain ⟨R, hRR⟩ : ∃ R, l.reverse = R := ⟨_, rfl⟩
  rw [hRR] at hR hlr ⊢
  have hbk : ∀ n, (convert 53 9 (.slice (some ⟨w.heap.size, 0, none⟩) l.length cap)).run Tryd.prog (Sort.putRow encB (Sort.ahead W0 n) w.heap.size 0 R.toArray) = .ok (.string ⟨R.toArray⟩) (Sort.putRow encB (Sort.ahead W0 n) w.heap.size 0 R.toArray) := fun n => by
    have h1 := Sort.holds_putRow encB (Sort.ahead W0 n) w.heap.size 0 l.toArray R.toArray (fun j hj => hH j hj) (by simp [hlr])
    rw [← hlr]
    refine run_convert_bytes_back _ 53 9 5 ⟨w.heap.size, 0, none⟩ cap R Tryd.underlying53 Tryd.underlying5 Tryd.underlying9 (fun j hj => ?_)
    have h2 := (h1 j (by simpa using hj)).1
    rw [Nat.zero_add] at h2
    rw [show (⟨w.heap.size, 0, none⟩ : Addr).add j = ⟨w.heap.size, j, none⟩ by unfold Addr.add; split <;> simp_all, h2, getElem!_pos _ j (by simpa using hj)]
    rfl
  have hbl : ∀ n, Below w.heap.size w (Sort.putRow encB (Sort.ahead W0 n) w.heap.size 0 R.toArray) := fun n => below_putRow hb0 (Nat.le_refl _) n _
  have HR := Lib.hid hR
  have HB := Lib.hid hbl
  clear hW0 hH hR hRR hbl hb0
  go_enter Tryd.func33, Tryd.ntmps33
  go_wp2_with (go_at_call 55; refine HR.out.mono ?_; rintro e W1 ⟨rfl, n, rfl⟩)
  go_ret
  exact ⟨rfl, HB.out n⟩
end Go.Proofs.YtokpfbbhkmlclaaDoor
