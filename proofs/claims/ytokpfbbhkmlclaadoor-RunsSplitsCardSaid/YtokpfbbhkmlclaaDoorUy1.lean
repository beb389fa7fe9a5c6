/- What bytes.Repeat returns for one byte: a new row of it. Condition: 1 to 1000 times. -/
import Derived.Test.YtokpfbbhkmlclaaDoorUe
import Derived.Test.YtokpfbbhkmlclaaDoorShelf
import Derived.Lib.SlBuf
import Derived.Lib.MakeNoZero
import Derived.Laws.Externs
import Derived.BigCall
import Derived.BigGuard
import Derived.Deep.Draws
namespace Go.Proofs.YtokpfbbhkmlclaaDoor
open Go.RowKit
set_option linter.unusedSimpArgs false
set_option linter.unusedVariables false

theorem add_plain (b o i : Nat) : (⟨b, o, none⟩ : Addr).add i = ⟨b, o + i, none⟩ := by unfold Addr.add; split <;> simp_all
theorem infoU8s : (Tryd.prog.info? 5).map (·.size) = some 1 := by kernel_rfl
theorem sizeU8 : ∀ w, (Go.sizeOf 5).run Tryd.prog w = .ok 1 w := fun w => by kernel_rfl
/-- copy behind what is filled, out of the same world. -/
theorem copy_here {w0 wr : World} {h N : Nat} {acc l : List UInt8} (a : Addr) (sLen cap : Nat) (ty : TypeId) (hb : Lib.Buf w0 wr h N acc) (hc : ∀ j x, l[j]? = some x → wr.cell? (a.add j) = some (.int .u8 (x.toNat : Int)))
    (hl : l.length = Nat.min sLen (N - acc.length)) (hfit : acc.length < N) :
    ∃ wr', (Builtin.copy_ #[53, 53] ty #[Lib.tailV h N acc.length, .slice (some a) sLen cap]).run Tryd.prog wr = .ok (.int .i64 (l.length : Int)) wr' ∧ Lib.Buf w0 wr' h N (acc ++ l) := by
  have hne : ¬ N = acc.length := by omega
  have hfit2 : acc.length + l.length ≤ N := by
    have h9 : l.length ≤ N - acc.length := by rw [hl]; exact Nat.min_le_right _ _
    omega
  have hr := run_copy_cells (P := Tryd.prog) wr 53 53 ty 5 h acc.length (N - acc.length) (N - acc.length) a sLen cap (l.map fun x => Value.int .u8 (x.toNat : Int)) Tryd.underlying53 infoU8s (by rw [List.length_map]; exact hl)
    (fun j u hj => by
      rw [List.getElem?_map] at hj
      obtain ⟨x, hx, rfl⟩ := Option.map_eq_some_iff.1 hj
      exact hc j x hx)
    (fun j hj => by rw [List.length_map] at hj; exact hb.there _ (by omega)) (fun j hj => by rw [List.length_map] at hj; exact hb.free _ (by omega))
    (fun u hu' => by obtain ⟨x, _, rfl⟩ := List.mem_map.1 hu'; rfl)
  rw [List.length_map] at hr
  refine ⟨_, by unfold Lib.tailV; rw [if_neg hne]; exact hr, ?_⟩
  have hin := World.cell?_setCells_in h (l.map fun x => Value.int .u8 (x.toNat : Int)) acc.length wr (fun j hj => by rw [List.length_map] at hj; exact hb.there _ (by omega))
  have hout := World.cell?_setCells_out h (l.map fun x => Value.int .u8 (x.toNat : Int)) acc.length wr
  refine ⟨?_, ?_, ?_, ?_, by rw [List.length_append]; exact hfit2⟩
  · exact Lib.below_setCells h (Nat.le_refl _) _ _ hb.below
  · intro j hj
    by_cases h1 : acc.length ≤ j ∧ j < acc.length + l.length
    · obtain ⟨d, rfl⟩ : ∃ d, j = acc.length + d := ⟨j - acc.length, by omega⟩
      rw [hin d (by rw [List.length_map]; omega)]
      rfl
    · rw [hout ⟨h, j, none⟩ (fun _ _ => by rw [List.length_map]; show j < _ ∨ _ ≤ j; omega)]
      exact hb.there j hj
  · intro j hj
    rw [World.frozen?_setCells]
    exact hb.free j hj
  · intro j x hx
    by_cases h1 : j < acc.length
    · rw [List.getElem?_append_left h1] at hx
      rw [hout ⟨h, j, none⟩ (fun _ _ => Or.inl h1)]
      exact hb.holds j x hx
    · rw [List.getElem?_append_right (by omega)] at hx
      obtain ⟨d, rfl⟩ : ∃ d, j = acc.length + d := ⟨j - acc.length, by omega⟩
      rw [Nat.add_sub_cancel_left] at hx
      have hd : d < l.length := (List.getElem?_eq_some_iff.1 hx).1
      rw [hin d (by rw [List.length_map]; exact hd)]
      simp [List.getElem_map, (List.getElem?_eq_some_iff.1 hx).2]
theorem buf_drew {w0 wr : World} {h N : Nat} {acc : List UInt8} (hb : Lib.Buf w0 wr h N acc) : Lib.Buf w0 wr.drew h N acc := ⟨hb.below.drew, hb.there, hb.free, hb.holds, hb.fits⟩
/-- copy, at a step of a region that draws its order. -/
theorem step_copy {P : Program} (w : World) {ops : Array Oper} {o : Oper} {a : Act} {K : Act → World → Prop} {Q : Exit → Act → World → Prop} {E : Prop} (hgd : o.guard = none) (d s : Operand) (t t' : TypeId)
    (ho : o.op = .call { callee := .builtin .copy, args := #[d, s], argTypes := #[t, t'] }) (v u : Value) (hd : a.eval d = v) (hs : a.eval s = u) {v' : Value} {w' : World}
    (hr : (Builtin.copy_ #[t, t'] o.type #[v, u]).run P w = .ok v' w') (h : K (a.put o.dst v') w') : if Region.wanted o (yielded ops a.tmps) = true then Oper.wp P o a w K Q else E := by
  have hw : Region.wanted o (yielded ops a.tmps) = true := by simp [Region.wanted, hgd]
  rw [if_pos hw]
  exact Lib.wp_copy_run w d s t t' ho v u hd hs hr h
theorem buf_row {w0 wr : World} {h N : Nat} {acc : List UInt8} (hb : Lib.Buf w0 wr h N acc) : BRow wr h acc := fun j c hc => ⟨hb.holds j c hc, hb.free j (by have := (List.getElem?_eq_some_iff.1 hc).1; have := hb.fits; omega)⟩
set_option maxRecDepth 100000 in
set_option maxHeartbeats 6400000 in
theorem repeat_any (c : UInt8) (n b cap : Nat) (w : World) (h1 : 1 ≤ n) (h2 : n ≤ 1000) (hcell : w.cell? ⟨b, 0, none⟩ = some (.int .u8 (c.toNat : Int))) :
    Calls Tryd.prog 42 #[.slice (some ⟨b, 0, none⟩) 1 cap, .int .i64 (n : Int)] w fun e w' => e = .returned (.slice (some ⟨w.heap.size, 0, none⟩) n n) ∧ BRow w' w.heap.size (List.replicate n c) ∧ Below w.heap.size w w' := by
  have hM : ∀ W, Calls Tryd.prog 59 #[.int .u64 1, .int .u64 (n : Int)] W fun e w' => e = .returned (.tuple #[.int .u64 0, .int .u64 (n : Int)]) ∧ w' = W := fun W => by
    have k := Tryd.bits_Mul 1 n (by omega) (by omega) W
    rw [show 1 * n / 18446744073709551616 = 0 by omega, show 1 * n % 18446744073709551616 = n by omega] at k
    exact k
  have HM := Lib.hid hM
  clear hM
  obtain ⟨cs, hrunM, hle, _⟩ := Lib.run_makeNoZero (P := Tryd.prog) w #[3] 53 5 Tryd.underlying53 n (by omega)
  have hcall : (callFunc 60 #[.int .i64 (n : Int)]).run Tryd.prog w = .ok (.value (.slice (some ⟨w.heap.size, 0, none⟩) n cs.size)) ((w.alloc (.cells cs 5)).drewN 2) := by
    rw [run_callFunc_extern Tryd.func60 (by kernel_rfl) (by kernel_rfl) (by kernel_rfl) (e := Extern.BytealgMakeNoZero.makeNoZero #[3] #[53]) (by kernel_rfl), hrunM]
    rfl
  have B0 := Lib.Buf.start w cs 5 n 2 hle
  obtain ⟨w1, hr1, B1⟩ := copy_here (l := [c]) ⟨b, 0, none⟩ 1 cap 3 B0 (fun j x hx => by
    match j, hx with
    | 0, hx =>
      simp at hx
      subst hx
      rw [add_plain]
      exact Lib.Below.cellOf B0.below hcell (Nat.le_refl _)) (by rw [List.length_nil, Nat.sub_zero]; exact (Nat.min_eq_left h1).symm) (by rw [List.length_nil]; omega)
  rw [List.length_nil, Lib.tailV_zero, List.length_singleton] at hr1
  rw [List.nil_append] at B1
  have i1 : (n : Int) ≤ (cs.size : Int) := by omega
  have HB1 := Lib.hid B1
  clear B0 B1 hrunM hcell
  go_enter Tryd.func42, Tryd.ntmps42
  go_wp2_with (first
    | (go_at_call 59; (with_reducible refine (HM.out _).mono ?_); rintro e W0 ⟨rfl, hW⟩; (rw [hW]); (clear hW))
    | (at_builtin; refine Lib.wpList_copy_run _ rfl _ _ 53 53 rfl _ _ rfl rfl hr1 ?_))
  clear hcall hr1 i1 HM
  go_loopg [10] n (fun q s10 wx => ∃ k : Nat, 1 ≤ k ∧ k ≤ n ∧ n - k ≤ q ∧ s10 = .int .i64 (k : Int) ∧ Hid (Lib.Buf w wx w.heap.size n (List.replicate k c)))
  case atStart => exact ⟨1, Nat.le_refl _, h1, by omega, rfl, HB1⟩
  case round =>
    obtain ⟨k, hk1, hkn, hgk, rfl, HB⟩ := hrel
    by_cases hlt : k < n
    · have hmin : min (k : Int) (n : Int) = (k : Int) := by omega
      obtain ⟨m, hm⟩ : ∃ m, Nat.min k (n - k) = m := ⟨_, rfl⟩
      have hmk : m ≤ k := by rw [← hm]; exact Nat.min_le_left _ _
      have hmn : m ≤ n - k := by rw [← hm]; exact Nat.min_le_right _ _
      have hm1 : 1 ≤ m := by
        rw [← hm]
        exact Nat.le_min.2 ⟨hk1, by omega⟩
      obtain ⟨w2, hr2, B2⟩ := copy_here (l := List.replicate m c) ⟨w.heap.size, 0, none⟩ k n 3 (buf_drew HB.out) (fun j x hx => by
        have hj : j < m := by
          have := (List.getElem?_eq_some_iff.1 hx).1
          rwa [List.length_replicate] at this
        rw [List.getElem?_replicate, if_pos hj] at hx
        injection hx with hx
        subst hx
        rw [add_plain, Nat.zero_add]
        exact (buf_drew HB.out).holds j c (by rw [List.getElem?_replicate, if_pos (by omega)])) (by rw [List.length_replicate, List.length_replicate]; exact hm.symm) (by rw [List.length_replicate]; exact hlt)
      rw [List.length_replicate, List.length_replicate] at hr2
      rw [List.replicate_append_replicate] at B2
      have hsl1 : ∀ W, (Instr.slice 53 (.slice (some ⟨w.heap.size, 0, none⟩) n n) (some (.int .i64 (k : Int))) none none).run Tryd.prog W = .ok (Lib.tailV w.heap.size n k) W := fun W => Lib.run_slice_tailV W 53 5 Tryd.underlying53 sizeU8 _ n k (by omega)
      have hB2 := Lib.hid B2
      have dk : (0 : Int) ≤ (k : Int) := by omega
      have hw : IntKind.i64.wrap ((k : Int) + (m : Int)) = (k : Int) + (m : Int) := by clear hmin; rw [IntKind.wrap_i64]; omega
      have dkn : (k : Int) ≤ (n : Int) := by omega
      clear B2 HB HB1 hm
      go_wp2_with fail
      go_region_law (refine step_copy _ rfl (.tmp 70) (.tmp 73) 53 53 rfl (Lib.tailV w.heap.size n k) (.slice (some ⟨w.heap.size, 0, none⟩) k n) (by simp [Act.eval, Act.put]) (by simp [Act.eval, Act.put]) hr2 ?_)
      clear hr2 hsl1 hmin
      go_wp2
      go_roundg (n - (k + m))
      case measure => omega
      case rel => exact ⟨k + m, by omega, by omega, Nat.le_refl _, by go_num, hB2⟩
    · obtain rfl : k = n := by omega
      go_wp2
      go_ret
      exact ⟨rfl, buf_row HB.out, HB.out.below⟩
end Go.Proofs.YtokpfbbhkmlclaaDoor
