/- What the walks of layer 8 share: strings as lists of bytes, and what is kept in memory. No condition. -/
import Derived.Test.YtokpfbbhkmlclaaGreatDoorUb
import Derived.Below
import Derived.WalkKit
import Derived.OwnWalk
import Derived.Deep.LoopGhost
import Derived.Deep.OwnRows
import Derived.Deep.RegionHeld3
import Derived.Deep.RegionLaw
import Derived.Deep.AppendLies
import Derived.Deep.QuietTactic
import Derived.BigQuiet
import Derived.Laws.Strings3
import Derived.Lib.Hide
import Derived.Lib.MinMax
import Derived.Lib.ConvBytes
import Derived.Maps.AppendAt
namespace Go.Proofs.YtokpfbbhkmlclaaGreatDoor
open Go.RowKit

theorem run_at_bytes (l : List UInt8) (i : Nat) (b : UInt8) (h : l[i]? = some b) (z : Int) (hz : z = (i : Int)) (w : World) :
    (Instr.index 9 (.string ⟨l.toArray⟩) (.int .i64 z)).run Tryz.prog w = .ok (.int .u8 (b.toNat : Int)) w := by
  subst hz
  have hi : i < l.length := by
    rcases Nat.lt_or_ge i l.length with h1 | h1
    · exact h1
    · rw [List.getElem?_eq_none h1] at h; cases h
  rw [run_index_string w 9 ⟨l.toArray⟩ .i64 i Tryz.underlying9, dif_pos ⟨by omega, by simpa [ByteArray.size] using hi⟩]
  have e : (⟨l.toArray⟩ : ByteArray)[(i : Int).toNat]'(by simpa [ByteArray.size] using hi) = b := by
    rw [List.getElem?_eq_getElem hi] at h
    have h2 := Option.some.inj h
    rw [← h2]; rfl
  rw [e]
theorem run_cut_at (l g : List UInt8) (a b : Nat) (za zb : Int) (hz : za = (a : Int)) (hy : zb = (b : Int)) (h1 : a ≤ b) (h2 : b ≤ l.length) (hg : (l.drop a).take (b - a) = g) (w : World) :
    (Instr.slice 9 (.string ⟨l.toArray⟩) (some (.int .i64 za)) (some (.int .i64 zb)) none).run Tryz.prog w = .ok (.string ⟨g.toArray⟩) w := by
  subst hz; subst hy
  rw [run_slice_string w 9 ⟨l.toArray⟩ .i64 .i64 a b Tryz.underlying9 (by omega) (by omega) (by simp [ByteArray.size]; omega), Int.toNat_natCast, Int.toNat_natCast, ByteArray.extract_mk, hg]
theorem run_take_at (l g : List UInt8) (k : Nat) (z : Int) (hz : z = (k : Int)) (h2 : k ≤ l.length) (hg : l.take k = g) (w : World) :
    (Instr.slice 9 (.string ⟨l.toArray⟩) none (some (.int .i64 z)) none).run Tryz.prog w = .ok (.string ⟨g.toArray⟩) w := by
  subst hz
  rw [run_slice_string_h w 9 ⟨l.toArray⟩ Tryz.underlying9 .i64 (k : Int) (by omega) (by simp [ByteArray.size]; omega), Int.toNat_natCast, ByteArray.extract_mk, List.drop_zero, Nat.sub_zero, hg]
theorem run_drop_at (l g : List UInt8) (k : Nat) (z : Int) (hz : z = (k : Int)) (h2 : k ≤ l.length) (hg : l.drop k = g) (w : World) :
    (Instr.slice 9 (.string ⟨l.toArray⟩) (some (.int .i64 z)) none none).run Tryz.prog w = .ok (.string ⟨g.toArray⟩) w := by
  subst hz
  rw [run_slice_string_l w 9 ⟨l.toArray⟩ Tryz.underlying9 .i64 (k : Int) (by omega) (by simp [ByteArray.size]; omega), Int.toNat_natCast, ByteArray.extract_mk, show (⟨l.toArray⟩ : ByteArray).size = l.length from rfl, List.take_of_length_le (by rw [List.length_drop]; omega), hg]
theorem cell_keep {Wp W1 : World} {p : Addr} {v : Value} (h : Wp.cell? p = some v) (hb : Below Wp.heap.size Wp W1) : W1.cell? p = some v := (hb.cell (World.block_lt_of_cell? _ _ h)).trans h
theorem frozen_keep {Wp W1 : World} {p : Addr} {v : Value} {b : Bool} (h : Wp.cell? p = some v) (hf : Wp.frozen? p = b) (hb : Below Wp.heap.size Wp W1) : W1.frozen? p = b := (hb.frozen (World.block_lt_of_cell? _ _ h)).trans hf
theorem below1 (w : World) (o1 : Obj) : Below w.heap.size w (w.alloc o1) := (Below.refl _ w).alloc (Nat.le_refl _) _
/-- A call more. -/
theorem below_more {B : Nat} {w w1 w2 : World} (h : Below B w w1) (hB : B ≤ w.heap.size) (k : Below w1.heap.size w1 w2) : Below B w w2 := h.trans (k.mono (by have := h.size; omega))
theorem grown_none {w w' : World} (h : Below w.heap.size w w') : w.grownBy w' none := ⟨h.os, h.tape, h.output, h.size, fun k hk _ => h.block k hk⟩
theorem bytes_below (w : World) (e : TypeId) (s : ByteArray) : Below w.heap.size w (Lib.bytesWorld w e s) :=
  ⟨rfl, rfl, rfl, by rw [Lib.bytesWorld_size]; omega, fun k hk => Lib.bytesWorld_at_old w e s k hk⟩
theorem below_drewM {B : Nat} {w W : World} (h : Below B w W) (q : Nat) : Below B w (W.drewN q) := ⟨h.os, h.tape, h.output, h.size, h.block⟩
theorem Tryz.infoI64 : (Tryz.prog.info? 3).map (fun i => (i.zero, i.size, i.bytes)) = some (some (.int .i64 0), 1, 8) := by kernel_rfl
/-- append within the capacity, at a step of a region that draws its order. -/
theorem step_append_fits {P : Program} (w : World) {ops : Array Oper} {o : Oper} {a : Act} {K : Act → World → Prop} {Q : Exit → Act → World → Prop} {E : Prop} (hgd : o.guard = none) (s x : Operand) (t : TypeId)
    (hop : o.op = Op.call { callee := Callee.builtin Builtin.append, args := #[s, x], argTypes := #[t, t] })
    (base : Nat) (e : TypeId) (i : TypeInfo) (size : Nat) (h1 : P.underlying t = some (.slice e)) (h2 : P.info? e = some i) (h4 : i.size = size)
    (g k cap : Nat) (xs : List Value) (hs : a.eval s = .slice (some ⟨g, 0, none⟩) k cap) (hown : w.ownsRow base e size (.slice (some ⟨g, 0, none⟩) k cap) k xs) (ad : Addr) (m c : Nat) (news : List Value) (hx : a.eval x = .slice (some ad) m c) (hn : news.length = m * size)
    (hc : ∀ j u, news[j]? = some u → w.cell? (ad.add j) = some u) (h1c : ∀ u ∈ news, u.oneCell' = true) (b1 : k + m ≤ cap)
    (hK : ∀ w', w'.ownsRow base e size (.slice (some ⟨g, 0, none⟩) (k + m) cap) (k + m) (xs ++ news) → w.grownBy w' (some g) → K (a.put o.dst (.slice (some ⟨g, 0, none⟩) (k + m) cap)) w') :
    if Region.wanted o (yielded ops a.tmps) = true then Oper.wp P o a w K Q else E := by
  have hw : Region.wanted o (yielded ops a.tmps) = true := by simp [Region.wanted, hgd]
  rw [if_pos hw]
  obtain ⟨w', hrun, r1, r2⟩ := run_append_fits (P := P) w base t o.type e i size h1 h2 h4 g k cap xs hown ad m c news hn hc h1c b1
  unfold Oper.wp
  simp [execOp, hop, resolve, invoke, builtin, hs, hx, hrun, Result.andThen]
  exact hK w' r1 r2
end Go.Proofs.YtokpfbbhkmlclaaGreatDoor
