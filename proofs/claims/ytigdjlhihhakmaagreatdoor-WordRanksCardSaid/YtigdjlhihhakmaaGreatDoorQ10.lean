/- What word.borders returns: the table of a string, and the closure that follows it. Condition: at most 10^6 bytes. What word.Border, word.Period and word.Root return. Condition: at most 10^6 bytes. What word.occurrences yields: the offsets at which a string occurs, in ascending order. Condition: both have at most 10^5 bytes. -/
import Derived.Test.YtigdjlhihhakmaaGreatDoorQ02
import Derived.Test.YtigdjlhihhakmaaGreatDoorQ09
import Derived.OwnWalk
import Derived.Deep.OwnRows
import Derived.Deep.RegionHeld3
import Derived.Deep.RegionLaw
import Derived.Deep.AppendLies
import Derived.Deep.QuietTactic
import Derived.Lib.MinMax
import Derived.BigQuiet

namespace Go.Proofs.YtigdjlhihhakmaaGreatDoor
open Go.RowKit

theorem Tryz.infoI64 : (Tryz.prog.info? 3).map (fun i => (i.zero, i.size, i.bytes)) = some (some (.int .i64 0), 1, 8) := by kernel_rfl
/-- The first n entries of a table, as values. -/
def tabs (l : List UInt8) (n : Nat) : List Value := (List.range n).map fun j => .int .i64 (tab l j)
theorem tabs_len (l : List UInt8) (n : Nat) : (tabs l n).length = n := by unfold tabs; rw [List.length_map, List.length_range]
theorem tabs_succ (l : List UInt8) (n : Nat) : tabs l (n + 1) = tabs l n ++ [.int .i64 (tab l n)] := by unfold tabs; rw [List.range_succ, List.map_append]; rfl
theorem tabs_at (l : List UInt8) (n j : Nat) (h : j < n) : (tabs l n)[j]? = some (.int .i64 (tab l j)) := by unfold tabs; rw [List.getElem?_map, List.getElem?_range h]; rfl
theorem grown_set (w : World) (a : Addr) (u : Value) : w.grownBy (w.setCell a u) (some a.block) :=
  ⟨rfl, rfl, rfl, by simp [World.setCell], fun k _ hne => Below.heap_setCell _ _ _ _ (fun e => hne (by rw [e]))⟩
theorem tab_owned {W : World} {g n c B : Nat} {l : List UInt8} {t : TypeId} (h : W.ownsRow B t 1 (.slice (some ⟨g, 0, none⟩) n c) n (tabs l n)) : TabAt W (some ⟨g, 0, none⟩) n l :=
  ⟨g, 0, fun _ => rfl, fun i hi => by rw [Nat.zero_add, h.cellAt i (by omega), tabs_at l n i hi]⟩
theorem cell_tabs {W : World} {g n c B i : Nat} {l : List UInt8} {t : TypeId} {u : Value} (h : W.ownsRow B t 1 (.slice (some ⟨g, 0, none⟩) (n + 1) c) (n + 1) (tabs l n ++ [u])) (hi : i < n) : W.cell? ⟨g, i, none⟩ = some (.int .i64 (tab l i)) := by
  rw [h.cellAt i (by omega), List.getElem?_append_left (by rw [tabs_len]; exact hi), tabs_at l n i hi]
theorem frozen_grown {w w' : World} {row : Option Nat} {p : Addr} {v : Value} {b : Bool} (hg : w.grownBy w' row) (h : w.cell? p = some v) (hf : w.frozen? p = b) (hr : some p.block ≠ row) : w'.frozen? p = b :=
  (World.frozen?_of_block (hg.block p.block (World.block_lt_of_cell? _ _ h) hr)).trans hf
theorem tab_owned4 {W : World} {g n c B r : Nat} {l : List UInt8} {t : TypeId} (h : W.ownsRow B t 1 (.slice (some ⟨g, 0, none⟩) (n + 1) c) (n + 1) (tabs l n ++ [.int .i64 (r : Int)])) (hr : tab l n = (r : Int)) : W.ownsRow B t 1 (.slice (some ⟨g, 0, none⟩) (n + 1) c) (n + 1) (tabs l (n + 1)) := by
  rw [tabs_succ, hr]; exact h
/-- append within the capacity, at a step of a region that draws its order. -/
theorem step_append_fits {P : Program} (w : World) {ops : Array Oper} {o : Oper} {a : Act} {K : Act → World → Prop} {Q : Exit → Act → World → Prop} {E : Prop} (hgd : o.guard = none) (s x : Operand) (t : TypeId)
    (hop : o.op = Op.call { callee := Callee.builtin Builtin.append, args := #[s, x], argTypes := #[t, t] })
    (base : Nat) (e : TypeId) (i : TypeInfo) (size : Nat) (h1 : P.underlying t = some (.slice e)) (h2 : P.info? e = some i) (h4 : i.size = size)
    (g k cap : Nat) (xs : List Value) (hs : a.eval s = .slice (some ⟨g, 0, none⟩) k cap) (hown : w.ownsRow base e size (.slice (some ⟨g, 0, none⟩) k cap) k xs) (ad : Addr) (m c : Nat) (news : List Value) (hx : a.eval x = .slice (some ad) m c) (hn : news.length = m * size)
    (hc : ∀ j u, news[j]? = some u → w.cell? (ad.add j) = some u) (h1c : ∀ u ∈ news, u.oneCell' = true) (b1 : k + m ≤ cap)
    (hK : ∀ w', w'.ownsRow base e size (.slice (some ⟨g, 0, none⟩) (k + m) cap) (k + m) (xs ++ news) → w.grownBy w' (some g) → K (a.put o.dst (.slice (some ⟨g, 0, none⟩) (k + m) cap)) w') :
    if Region.wanted o (yielded ops a.tmps) = true then Oper.wp P o a w K Q else E := by
  have hw : Region.wanted o (yielded ops a.tmps) = true := by simp [Region.wanted, hgd]
  rw [if_pos hw]
  obtain ⟨w', hrun, r1, r2⟩ := run_append_fits (P := P) w base t o.type e i size h1 h2 h4 g k cap xs hown ad m c news hn hc h1c b1
  unfold Oper.wp
  simp [execOp, hop, resolve, invoke, builtin, hs, hx, hrun, Result.andThen]
  exact hK w' r1 r2
/-- What borders lays in memory. -/
def BOut (w : World) (l : List UInt8) (e : Ending) (w' : World) : Prop :=
  ∃ g bw bt c, e = .returned (.tuple #[.slice (some ⟨g, 0, none⟩) (l.length + 1) c, .func (.func 93) #[] #[.pointer (some ⟨bw, 0, none⟩), .pointer (some ⟨bt, 0, none⟩)]]) ∧
    w'.cell? ⟨bw, 0, none⟩ = some (.string ⟨l.toArray⟩) ∧ w'.cell? ⟨bt, 0, none⟩ = some (.slice (some ⟨g, 0, none⟩) (l.length + 1) c) ∧ TabAt w' (some ⟨g, 0, none⟩) (l.length + 1) l ∧ Below w.heap.size w w'

set_option linter.unusedSimpArgs false
set_option maxRecDepth 100000 in
set_option maxHeartbeats 3200000 in
theorem borders_any (l : List UInt8) (w : World) (hl : l.length ≤ 1000000) :
    Calls Tryz.prog 54 #[.string ⟨l.toArray⟩] w (BOut w l) := by
  obtain ⟨i0, hi, hz0, hz1, hz2⟩ := info_parts Tryz.infoI64
  have hmk := fun W => run_make (P := Tryz.prog) W 45 3 i0 (.int .i64 0) Tryz.underlying45 hi hz0 .i64 .i64 1 ((l.length : Int) + 1) (by omega) (by omega) (by rw [hz2]; omega) (by omega)
  rw [hz1, show (((l.length : Int) + 1).toNat) = l.length + 1 by omega, show Int.toNat 1 = 1 from rfl, Nat.mul_one] at hmk
  go_enter Tryz.func54, Tryz.ntmps54
  have hm0 : (madeCells #[Value.int .i64 0] (l.length + 1))[0]? = some (.int .i64 0) := by rw [← Array.getElem?_toList, toList_madeCells_one]; simp
  go_wp2_with fail
  have hC1 : ((madeCells #[.int .i64 0] (l.length + 1)).setIfInBounds 0 (Value.int .i64 (-1))).size = l.length + 1 := by rw [Array.size_setIfInBounds, size_madeCells]
  have hC2 : ((madeCells #[.int .i64 0] (l.length + 1)).setIfInBounds 0 (Value.int .i64 (-1))).toList.take 1 = [.int .i64 (-1)] := by rw [Array.toList_setIfInBounds, toList_madeCells_one]; rfl
  generalize (madeCells #[.int .i64 0] (l.length + 1)).setIfInBounds 0 (Value.int .i64 (-1)) = C at *
  go_loopg [16] l.length (fun q s16 wx => ∃ i : Nat, i + q = l.length ∧ s16 = .int .i64 (i : Int) ∧ wx.cell? ⟨w.heap.size, 0, none⟩ = some (.string ⟨l.toArray⟩) ∧ wx.cell? ⟨w.heap.size + 1 + 1, 0, none⟩ = some (.slice (some ⟨w.heap.size + 1, 0, none⟩) (i + 1) (l.length + 1)) ∧
    wx.frozen? ⟨w.heap.size + 1 + 1, 0, none⟩ = false ∧ wx.ownsRow (w.heap.size + 1) 3 1 (.slice (some ⟨w.heap.size + 1, 0, none⟩) (i + 1) (l.length + 1)) (i + 1) (tabs l (i + 1)) ∧ Below w.heap.size w wx)
  case atStart =>
    have o1 : ((w.alloc (.cells #[.string ⟨l.toArray⟩] 9)).alloc (.cells C 3)).ownsRow (w.heap.size + 1) 3 1 (.slice (some ⟨w.heap.size + 1, 0, none⟩) 1 (l.length + 1)) 1 [.int .i64 (-1)] := by
      refine ⟨rfl, .inr ⟨w.heap.size + 1, l.length + 1, C, rfl, Nat.le_refl _, ?_, by omega, by unfold maxLen; omega, by omega, hC2⟩⟩
      have := heap_alloc_new (w.alloc (.cells #[.string ⟨l.toArray⟩] 9)) (.cells C 3)
      rwa [World.size_alloc] at this
    have o2 := o1.alloc (.cells #[.slice (some ⟨w.heap.size + 1, 0, none⟩) 1 (l.length + 1)] 45)
    refine ⟨0, by omega, rfl, ?_, ?_, ?_, o2, ?_⟩
    · simp [go_sem]
    · simp [go_sem]
    · simp [go_sem]
    · exact ((below1 w _).alloc (by simp) _).alloc (by simp; omega) _
  case round =>
    clear hmk hm0 hC1 hC2
    obtain ⟨i, hi', rfl, x0, x1, x2, HO, hb⟩ := hrel
    rcases gk with _ | q
    · obtain rfl : i = l.length := by omega
      go_wp2
      exact bodyPost_ret (v := .tuple #[.slice (some ⟨w.heap.size + 1, 0, none⟩) (l.length + 1) (l.length + 1), .func (.func 93) #[] #[.pointer (some ⟨w.heap.size, 0, none⟩), .pointer (some ⟨w.heap.size + 1 + 1, 0, none⟩)]]) (by simp [results, Tryz.results54, go_sem]) rfl ⟨_, _, _, _, rfl, x0, x1, tab_owned HO, hb⟩
    · have hil : i < l.length := by omega
      obtain ⟨d, hd⟩ : ∃ d, l[i]? = some d := ⟨_, List.getElem?_eq_getElem hil⟩
      have hix := run_at_bytes l i d hd (i : Int) rfl
      have hcell := (tab_owned HO)
      have hcell2 : wr.cell? ⟨w.heap.size + 1, i, none⟩ = some (.int .i64 (tab l i)) := by
        rw [HO.cellAt i (by omega), tabs_at l _ i (by omega)]
      have HOO := Lib.hid HO
      have HT := Lib.hid (tab_owned HO)
      have Hd := Lib.hid hd
      clear HO hcell hd
      go_wp2_with fail
      have y0 : wr.drew.cell? ⟨w.heap.size, 0, none⟩ = some (.string ⟨l.toArray⟩) := x0
      have y1 : wr.drew.cell? ⟨w.heap.size + 1 + 1, 0, none⟩ = some (.slice (some ⟨w.heap.size + 1, 0, none⟩) (i + 1) (l.length + 1)) := x1
      have y2 : wr.drew.frozen? ⟨w.heap.size + 1 + 1, 0, none⟩ = false := x2
      have y3 : wr.drew.cell? ⟨w.heap.size + 1, i, none⟩ = some (.int .i64 (tab l i)) := hcell2
      have YO : wr.drew.ownsRow (w.heap.size + 1) 3 1 (.slice (some ⟨w.heap.size + 1, 0, none⟩) (i + 1) (l.length + 1)) (i + 1) (tabs l (i + 1)) := HOO.out
      have YO' : ∀ o, (wr.alloc o).drew.ownsRow (w.heap.size + 1) 3 1 (.slice (some ⟨w.heap.size + 1, 0, none⟩) (i + 1) (l.length + 1)) (i + 1) (tabs l (i + 1)) := fun o => HOO.out.alloc o
      have YT : TabAt wr.drew (some ⟨w.heap.size + 1, 0, none⟩) (i + 1) l := HT.out
      have hb2 := hb.drew
      have hbs := hb2.size
      have HTl := tab_lt (w := l) (i := i) (by omega)
      have hsz : w.heap.size + 1 + 1 < wr.drew.heap.size := World.block_lt_of_cell? _ _ y1
      have Y := Lib.hid (And.intro y0 (And.intro y1 y3))
      have YA := fun u => Lib.hid (And.intro (cell_keep x0 (below1 wr (.cells #[u] 3)).drew) (And.intro (cell_keep x1 (below1 wr (.cells #[u] 3)).drew) (cell_keep hcell2 (below1 wr (.cells #[u] 3)).drew)))
      have YF := fun u => frozen_keep x1 x2 (below1 wr (.cells #[u] 3)).drew
      have j0 : (0 : Int) ≤ (i : Int) := by omega
      have j1 : (i : Int) < ((i + 1 : Nat) : Int) := by omega
      have j2 : (i : Int) < (i : Int) + 1 := by omega
      have HB := Lib.hid hb
      clear hcell2 HOO hb HT
      refine regionT (T := T2 12 12 (fun W => W.cell? ⟨w.heap.size, 0, none⟩ = some (.string ⟨l.toArray⟩) ∧ W.cell? ⟨w.heap.size + 1 + 1, 0, none⟩ = some (.slice (some ⟨w.heap.size + 1, 0, none⟩) (i + 1) (l.length + 1)) ∧ W.cell? ⟨w.heap.size + 1, i, none⟩ = some (.int .i64 (tab l i))) (fun W => W.cell? ⟨w.heap.size, 0, none⟩ = some (.string ⟨l.toArray⟩) ∧ W.cell? ⟨w.heap.size + 1 + 1, 0, none⟩ = some (.slice (some ⟨w.heap.size + 1, 0, none⟩) (i + 1) (l.length + 1)) ∧ W.cell? ⟨w.heap.size + 1, i, none⟩ = some (.int .i64 (tab l i)))) (by kernel_rfl) ?_
      have hR := Y.out
      refine take1 (i := 0) (v := ?_) rfl (by kernel_rfl) (by kernel_rfl) (by kernel_rfl) (by kernel_rfl) (by kernel_rfl) (by decide) (by decide) (fun _ _ _ h => h) (Or.inl ⟨by rfl, ?_⟩) hR hR ?_
      rotate_left
      · intro w hSw
        (try dsimp only at hSw)
        go_simp
        all_goals with_reducible rfl
      (try simp only [Act.put, List.setIfInBounds_toArray, List.set_cons_zero, List.set_cons_succ])
      refine take1 (i := 1) (v := ?_) rfl (by kernel_rfl) (by kernel_rfl) (by kernel_rfl) (by kernel_rfl) (by kernel_rfl) (by decide) (by decide) (fun _ _ _ h => h) (Or.inl ⟨by rfl, ?_⟩) hR hR ?_
      rotate_left
      · intro w hSw
        (try dsimp only at hSw)
        go_simp
        all_goals with_reducible rfl
      (try simp only [Act.put, List.setIfInBounds_toArray, List.set_cons_zero, List.set_cons_succ])
      refine take1 (i := 2) (v := ?_) rfl (by kernel_rfl) (by kernel_rfl) (by kernel_rfl) (by kernel_rfl) (by kernel_rfl) (by decide) (by decide) (fun _ _ _ h => h) (Or.inl ⟨by rfl, ?_⟩) hR hR ?_
      rotate_left
      · intro w hSw
        (try dsimp only at hSw)
        go_simp
        all_goals with_reducible rfl
      (try simp only [Act.put, List.setIfInBounds_toArray, List.set_cons_zero, List.set_cons_succ])
      refine take1 (i := 3) (v := ?_) rfl (by kernel_rfl) (by kernel_rfl) (by kernel_rfl) (by kernel_rfl) (by kernel_rfl) (by decide) (by decide) (fun _ _ _ h => h) (Or.inl ⟨by rfl, ?_⟩) hR hR ?_
      rotate_left
      · intro w hSw
        (try dsimp only at hSw)
        go_simp
        all_goals with_reducible rfl
      (try simp only [Act.put, List.setIfInBounds_toArray, List.set_cons_zero, List.set_cons_succ])
      refine take1 (i := 4) (v := ?_) rfl (by kernel_rfl) (by kernel_rfl) (by kernel_rfl) (by kernel_rfl) (by kernel_rfl) (by decide) (by decide) (fun _ _ _ h => h) (Or.inl ⟨by rfl, ?_⟩) hR hR ?_
      rotate_left
      · intro w hSw
        (try dsimp only at hSw)
        go_simp
        all_goals with_reducible rfl
      (try simp only [Act.put, List.setIfInBounds_toArray, List.set_cons_zero, List.set_cons_succ])
      refine take1 (i := 5) (v := ?_) rfl (by kernel_rfl) (by kernel_rfl) (by kernel_rfl) (by kernel_rfl) (by kernel_rfl) (by decide) (by decide) (fun _ _ _ h => h) (Or.inl ⟨by rfl, ?_⟩) hR hR ?_
      rotate_left
      · intro w hSw
        (try dsimp only at hSw)
        go_simp
        all_goals with_reducible rfl
      (try simp only [Act.put, List.setIfInBounds_toArray, List.set_cons_zero, List.set_cons_succ])
      refine take1 (i := 6) (v := ?_) rfl (by kernel_rfl) (by kernel_rfl) (by kernel_rfl) (by kernel_rfl) (by kernel_rfl) (by decide) (by decide) (fun _ _ _ h => h) (Or.inl ⟨by rfl, ?_⟩) hR hR ?_
      rotate_left
      · intro w hSw
        (try dsimp only at hSw)
        go_simp
        all_goals with_reducible rfl
      (try simp only [Act.put, List.setIfInBounds_toArray, List.set_cons_zero, List.set_cons_succ])
      refine take1 (i := 7) (v := ?_) rfl (by kernel_rfl) (by kernel_rfl) (by kernel_rfl) (by kernel_rfl) (by kernel_rfl) (by decide) (by decide) (fun _ _ _ h => h) (Or.inl ⟨by rfl, ?_⟩) hR hR ?_
      rotate_left
      · intro w hSw
        (try dsimp only at hSw)
        go_simp
        all_goals with_reducible rfl
      (try simp only [Act.put, List.setIfInBounds_toArray, List.set_cons_zero, List.set_cons_succ])
      refine take1 (i := 8) (v := ?_) rfl (by kernel_rfl) (by kernel_rfl) (by kernel_rfl) (by kernel_rfl) (by kernel_rfl) (by decide) (by decide) (fun _ _ _ h => h) (Or.inl ⟨by rfl, ?_⟩) hR hR ?_
      rotate_left
      · intro w hSw
        (try dsimp only at hSw)
        go_simp
        all_goals with_reducible rfl
      (try simp only [Act.put, List.setIfInBounds_toArray, List.set_cons_zero, List.set_cons_succ])
      refine stepT (i := 9) (by kernel_rfl) rfl (fun K hK => ?_)
      go_simp
      go_at_call 93
      refine (ext_any _ _ (i + 1) (l.length + 1) _ l (l.take i) (tab l i) d _ y0 y1 YT hl HTl.1 (by omega) (by omega) (fun m hm => tab_suf (by omega) hm)).mono ?_
      rintro e W3 ⟨⟨r, rfl, HE⟩, rfl⟩
      have HE := Lib.hid HE
      go_wp2_with fail
      refine hK.out _ _ ⟨fun _ => Y.out, fun _ => Y.out⟩ ?_
      clear hK K hR
      have hR := Y.out
      (try simp only [Act.put, List.setIfInBounds_toArray, List.set_cons_zero, List.set_cons_succ])
      refine stepT (i := 10) (by kernel_rfl) rfl (fun K hK => ?_)
      go_simp
      refine hK.out _ _ ⟨fun _ => (YA (.int .i64 (r : Int))).out, fun _ => (YA (.int .i64 (r : Int))).out⟩ ?_
      clear hK K hR
      have hR := (YA (.int .i64 (r : Int))).out
      (try simp only [Act.put, List.setIfInBounds_toArray, List.set_cons_zero, List.set_cons_succ])
      refine stepT (i := 11) (by kernel_rfl) rfl (fun K hK => ?_)
      refine step_append_fits _ (by rfl) _ _ 45 (by rfl) (w.heap.size + 1) 3 i0 1 Tryz.underlying45 hi hz1 (w.heap.size + 1) (i + 1) (l.length + 1) _ (by rfl) (YO' _) ⟨wr.heap.size, 0, none⟩ 1 1 [.int .i64 (r : Int)] (by rfl) (by rfl) (World.news_of_block (cs := #[.int .i64 (r : Int)]) (t := 3) (fr := (0, 0)) (heap_alloc_new wr _)) (by simp [Value.oneCell']) (by omega) ?_
      intro W4 hown4 hgrow4
      have G4 := Lib.hid (And.intro (hgrow4.cell (YA (.int .i64 (r : Int))).out.1 (by simp)) (And.intro (hgrow4.cell (YA (.int .i64 (r : Int))).out.2.1 (by simp)) (cell_tabs hown4 (Nat.lt_succ_self i))))
      have c4 := G4.out.2.1
      have f4 := frozen_grown hgrow4 (YA (.int .i64 (r : Int))).out.2.1 (YF (.int .i64 (r : Int))) (by simp)
      refine hK.out _ _ ⟨fun _ => G4.out, fun _ => G4.out⟩ ?_
      clear hK K hR
      have hR := G4.out
      (try simp only [Act.put, List.setIfInBounds_toArray, List.set_cons_zero, List.set_cons_succ])
      refine stepT (i := 12) (by kernel_rfl) rfl (fun K hK => ?_)
      go_simp
      refine hK.out _ _ ⟨fun h => absurd h (by decide), fun h => absurd h (by decide)⟩ ?_
      clear hK K
      (try simp only [Act.put, List.setIfInBounds_toArray, List.set_cons_zero, List.set_cons_succ])
      refine doneT (by kernel_rfl) ?_ _
      have hnext := tab_next Hd.out HE.out
      have o4 := (tab_owned4 hown4 hnext).kept (grown_set W4 ⟨w.heap.size + 1 + 1, 0, none⟩ (.slice (some ⟨w.heap.size + 1, 0, none⟩) (i + 1 + 1) (l.length + 1))) (Or.inr (by simp [Value.ownBlock]))
      have b4 : Below w.heap.size w W4 := ((HB.out.alloc HB.out.size (.cells #[.int .i64 (r : Int)] 3)).drew).grown hgrow4 (by rw [World.size_drew, World.size_alloc]; exact Nat.le_succ_of_le HB.out.size) (fun k hk => by injection hk with hk; omega)
      have Y0 := Lib.hid (show (W4.setCell ⟨w.heap.size + 1 + 1, 0, none⟩ (.slice (some ⟨w.heap.size + 1, 0, none⟩) (i + 1 + 1) (l.length + 1))).cell? ⟨w.heap.size, 0, none⟩ = some (.string ⟨l.toArray⟩) from by rw [World.cell?_setCell_far _ _ _ _ (by dsimp only; omega)]; exact G4.out.1)
      have Y1 := Lib.hid (World.cell?_setCell_same' W4 ⟨w.heap.size + 1 + 1, 0, none⟩ (.slice (some ⟨w.heap.size + 1, 0, none⟩) (i + 1 + 1) (l.length + 1)) (by rw [c4]; rfl))
      have Y2 := Lib.hid (show (W4.setCell ⟨w.heap.size + 1 + 1, 0, none⟩ (.slice (some ⟨w.heap.size + 1, 0, none⟩) (i + 1 + 1) (l.length + 1))).frozen? ⟨w.heap.size + 1 + 1, 0, none⟩ = false from by rw [World.frozen?_setCell]; exact f4)
      have Y4 := Lib.hid o4
      have Y5 := Lib.hid (b4.setCell (p := ⟨w.heap.size + 1 + 1, 0, none⟩) (by dsimp only; omega) (.slice (some ⟨w.heap.size + 1, 0, none⟩) (i + 1 + 1) (l.length + 1)))
      clear c4 f4 hown4 hgrow4 o4 b4 hnext hR G4
      generalize W4.setCell ⟨w.heap.size + 1 + 1, 0, none⟩ (.slice (some ⟨w.heap.size + 1, 0, none⟩) (i + 1 + 1) (l.length + 1)) = W5 at *
      go_wp2
      go_roundg q
      case measure => omega
      case rel => exact ⟨i + 1, by omega, by go_num, Y0.out, Y1.out, Y2.out, Y4.out, Y5.out⟩
end Go.Proofs.YtigdjlhihhakmaaGreatDoor

namespace Go.Proofs.YtigdjlhihhakmaaGreatDoor
open Go.RowKit

theorem run_cut_at (l g : List UInt8) (a b : Nat) (za zb : Int) (hz : za = (a : Int)) (hy : zb = (b : Int)) (h1 : a ≤ b) (h2 : b ≤ l.length) (hg : (l.drop a).take (b - a) = g) (w : World) :
    (Instr.slice 9 (.string ⟨l.toArray⟩) (some (.int .i64 za)) (some (.int .i64 zb)) none).run Tryz.prog w = .ok (.string ⟨g.toArray⟩) w := by
  subst hz; subst hy
  rw [run_slice_string w 9 ⟨l.toArray⟩ .i64 .i64 a b Tryz.underlying9 (by omega) (by omega) (by simp [ByteArray.size]; omega), Int.toNat_natCast, Int.toNat_natCast, ByteArray.extract_mk, hg]
theorem run_take_at (l g : List UInt8) (k : Nat) (z : Int) (hz : z = (k : Int)) (h2 : k ≤ l.length) (hg : l.take k = g) (w : World) :
    (Instr.slice 9 (.string ⟨l.toArray⟩) none (some (.int .i64 z)) none).run Tryz.prog w = .ok (.string ⟨g.toArray⟩) w := by
  subst hz
  rw [run_slice_string_h w 9 ⟨l.toArray⟩ Tryz.underlying9 .i64 (k : Int) (by omega) (by simp [ByteArray.size]; omega), Int.toNat_natCast, ByteArray.extract_mk, List.drop_zero, Nat.sub_zero, hg]
theorem run_drop_at (l g : List UInt8) (k : Nat) (z : Int) (hz : z = (k : Int)) (h2 : k ≤ l.length) (hg : l.drop k = g) (w : World) :
    (Instr.slice 9 (.string ⟨l.toArray⟩) (some (.int .i64 z)) none none).run Tryz.prog w = .ok (.string ⟨g.toArray⟩) w := by
  subst hz
  rw [run_slice_string_l w 9 ⟨l.toArray⟩ Tryz.underlying9 .i64 (k : Int) (by omega) (by simp [ByteArray.size]; omega), Int.toNat_natCast, ByteArray.extract_mk, show (⟨l.toArray⟩ : ByteArray).size = l.length from rfl, List.take_of_length_le (by rw [List.length_drop]; omega), hg]
theorem tab_whole (l : List UInt8) : max 0 (tab l l.length) = (bord l : Int) := by
  unfold tab
  split
  · next h => rw [List.eq_nil_of_length_eq_zero h]; rfl
  · rw [List.take_length]; omega

theorem tab_cell {W : World} {g n : Nat} {l : List UInt8} (h : TabAt W (some ⟨g, 0, none⟩) n l) {i : Nat} (hi : i < n) : W.cell? ⟨g, i, none⟩ = some (.int .i64 (tab l i)) := by
  obtain ⟨b, off, hA, hc⟩ := h
  have e := hA (by omega)
  injection e with e
  injection e with e1 e2
  subst e1 e2
  have := hc i hi
  rwa [Nat.zero_add] at this

set_option maxRecDepth 100000 in
set_option maxHeartbeats 1600000 in
theorem border_any (l : List UInt8) (w : World) (hl : l.length ≤ 1000000) :
    Calls Tryz.prog 21 #[.string ⟨l.toArray⟩] w fun e w' => e = .returned (.int .i64 (bord l : Int)) ∧ Below w.heap.size w w' := by
  have hm := Lib.hid (tab_whole l)
  go_enter Tryz.func21, Tryz.ntmps21
  go_wp2_with (go_at_call 54; refine (borders_any l _ hl).mono ?_; rintro e W1 ⟨g, bw, bt, c, rfl, x0, x1, hT, hb⟩; (have hcell := tab_cell hT (Nat.lt_succ_self l.length)); (clear hT x0 x1))
  go_wp2
  go_ret
  exact ⟨by show Ending.returned (.int .i64 (max 0 (tab l l.length))) = _; rw [hm.out], hb⟩

set_option maxRecDepth 100000 in
set_option maxHeartbeats 1600000 in
theorem period_any (l : List UInt8) (w : World) (hl : l.length ≤ 1000000) :
    Calls Tryz.prog 22 #[.string ⟨l.toArray⟩] w fun e w' => e = .returned (.int .i64 (per l : Int)) ∧ Below w.heap.size w w' := by
  have hle := bord_le l
  obtain ⟨p, Hp⟩ : ∃ p : Nat, Hid (per l = p) := ⟨_, Lib.hid rfl⟩
  obtain ⟨b, Hb⟩ : ∃ b : Nat, Hid (bord l = b) := ⟨_, Lib.hid rfl⟩
  have hpb : (l.length : Int) - (b : Int) = (p : Int) := by
    rw [← Hp.out, ← Hb.out]; unfold per; omega
  have HP := Lib.hid hpb
  rw [Hb.out] at hle
  rw [Hp.out]
  clear hpb
  go_enter Tryz.func22, Tryz.ntmps22
  go_wp2_with (go_at_call 21; refine (border_any l _ hl).mono ?_; rintro e W1 ⟨rfl, hb⟩; (rw [Hb.out]))
  go_ret
  exact ⟨by show Ending.returned (.int .i64 ((l.length : Int) - (b : Int))) = _; rw [HP.out], hb⟩

theorem root_empty (w : World) : Calls Tryz.prog 18 #[.string ⟨#[]⟩] w fun e w' => e = .returned (.tuple #[.string ⟨#[]⟩, .int .i64 0]) ∧ w' = w := by
  go_enter Tryz.func18, Tryz.ntmps18
  go_wp2
  exact bodyPost_ret (v := .tuple #[.string ⟨#[]⟩, .int .i64 0]) (by simp [results, Tryz.results18, go_sem]) rfl ⟨rfl, rfl⟩

set_option maxRecDepth 100000 in
set_option maxHeartbeats 1600000 in
theorem root_some (l : List UInt8) (w : World) (hl : l.length ≤ 1000000) (h0 : l ≠ []) :
    Calls Tryz.prog 18 #[.string ⟨l.toArray⟩] w fun e w' => e = .returned (.tuple #[.string ⟨(rootL l).toArray⟩, .int .i64 (rootN l : Int)]) ∧ Below w.heap.size w w' := by
  have hp := per_pos h0
  have hle := per_le l
  have hne : (l == []) = false := by rw [beq_eq_false_iff_ne]; exact h0
  have hpos := List.length_pos_iff.2 h0
  obtain ⟨p, Hp⟩ : ∃ p : Nat, Hid (per l = p) := ⟨_, Lib.hid rfl⟩
  obtain ⟨n, hn⟩ : ∃ n : Nat, l.length = n := ⟨_, rfl⟩
  have Hn := Lib.hid hn
  have hR : rlen l = if n % p = 0 then p else n := by unfold rlen; rw [hn, Hp.out]
  rw [Hp.out] at hp hle
  rw [hn] at hl hle hpos
  have Hr := Lib.hid hR
  have hdm := Nat.div_add_mod n p
  have hq : Int.tdiv (n : Int) (p : Int) = ((n / p : Nat) : Int) := by rw [Int.tdiv_eq_ediv_of_nonneg (by omega)]; rfl
  have hr : Int.tmod (n : Int) (p : Int) = ((n % p : Nat) : Int) := by rw [Int.tmod_eq_emod_of_nonneg (by omega)]; rfl
  have hrl := Nat.mod_lt n hp
  have hql := Nat.div_le_self n p
  obtain ⟨q, Hq⟩ : ∃ q : Nat, Hid (n / p = q) := ⟨_, Lib.hid rfl⟩
  obtain ⟨r, HR⟩ : ∃ r : Nat, Hid (n % p = r) := ⟨_, Lib.hid rfl⟩
  rw [Hq.out] at hq hql
  rw [HR.out] at hr hrl
  have hm0 : ¬ (p : Int) = 0 := by omega
  have hls : (⟨l.toArray⟩ : ByteArray).size = n := by rw [← hn]; rfl
  have hL : (if n % p = 0 then p else n) = rlen l := Hr.out.symm
  clear hdm hn h0 hR
  by_cases hr0 : r = 0
  · have HRL := Lib.hid (show rlen l = p by rw [Hr.out, HR.out, if_pos hr0])
    have HC := Lib.hid (show l.take p = rootL l by unfold rootL; rw [HRL.out])
    have HN := Lib.hid (show q = rootN l by unfold rootN; rw [HRL.out, Hn.out, Hq.out])
    have hcut := run_take_at l (l.take p) p (p : Int) rfl (by rw [Hn.out]; exact hle) rfl
    clear hL
    subst hr0
    go_enter Tryz.func18, Tryz.ntmps18
    go_wp2_with (go_at_call 22; refine (period_any l _ (by rw [Hn.out]; exact hl)).mono ?_; rintro e W1 ⟨rfl, hb⟩; (rw [Hp.out]))
    go_quiet (fail)
    go_wp2
    exact bodyPost_ret (v := .tuple #[.string ⟨(l.take p).toArray⟩, .int .i64 (q : Int)]) (by simp [results, Tryz.results18, go_sem]) rfl ⟨by rw [HC.out, HN.out], ⟨hb.os, hb.tape, hb.output, hb.size, hb.block⟩⟩
  · have HRL := Lib.hid (show rlen l = n by rw [Hr.out, HR.out, if_neg hr0])
    have HC := Lib.hid (show l = rootL l by unfold rootL; rw [HRL.out, ← Hn.out, List.take_length])
    have HN := Lib.hid (show 1 = rootN l by unfold rootN; rw [HRL.out, Hn.out, Nat.div_self hpos])
    clear hL
    go_enter Tryz.func18, Tryz.ntmps18
    go_wp2_with (go_at_call 22; refine (period_any l _ (by rw [Hn.out]; exact hl)).mono ?_; rintro e W1 ⟨rfl, hb⟩; (rw [Hp.out]))
    exact bodyPost_ret (v := .tuple #[.string ⟨l.toArray⟩, .int .i64 1]) (by simp [results, Tryz.results18, go_sem]) rfl ⟨by rw [← HC.out, ← HN.out]; rfl, hb⟩
end Go.Proofs.YtigdjlhihhakmaaGreatDoor

namespace Go.Proofs.YtigdjlhihhakmaaGreatDoor
open Go.RowKit Go.Shelf
attribute [local go_sem] Oper.semAt_some
set_option linter.unusedSimpArgs false
set_option linter.unusedVariables false

def ints (l : List Nat) : List Value := l.map fun (i : Nat) => .int .i64 (i : Int)
theorem ints_len (l : List Nat) : (ints l).length = l.length := List.length_map _
theorem ints_snoc (l : List Nat) (i : Nat) : ints (l ++ [i]) = ints l ++ [.int .i64 (i : Int)] := by unfold ints; rw [List.map_append]; rfl
theorem grown_none {w w' : World} (h : Below w.heap.size w w') : w.grownBy w' none := ⟨h.os, h.tape, h.output, h.size, fun k hk _ => h.block k hk⟩
/-- What lies in memory between two rounds: the record of the loop, and the list so far. -/
def LJ (l D s N B : Nat) (REC : Loop) (pre : List Nat) (W0 W : World) : Prop :=
  W.heap[l]? = some (.loop REC) ∧ W.heap[D]? = some (.deferred (some [])) ∧ (∃ v, W.cell? ⟨s, 0, none⟩ = some v ∧ W.frozen? ⟨s, 0, none⟩ = false ∧ W.ownsRow N 3 1 v pre.length (ints pre)) ∧ Below B W0 W ∧ N ≤ W.heap.size
theorem LJ.keep {l D s N B : Nat} {REC : Loop} {pre : List Nat} {W0 W W' : World} (h : LJ l D s N B REC pre W0 W) (hB : B ≤ W0.heap.size) (hb : Below W.heap.size W W') : LJ l D s N B REC pre W0 W' := by
  obtain ⟨h1, h2, ⟨v, h3, h4, h5⟩, h6, h7⟩ := h
  exact ⟨(hb.block l (Array.getElem?_eq_some_iff.1 h1).1).trans h1, (hb.block D (Array.getElem?_eq_some_iff.1 h2).1).trans h2, ⟨v, cell_keep h3 hb, frozen_keep h3 h4 hb, h5.kept (grown_none hb) (by cases v.ownBlock <;> simp)⟩, below_more h6 hB hb, Nat.le_trans h7 hb.size⟩
/-- What lies below N, but for one variable, is as it was. -/
def Fr (N s : Nat) (W W' : World) : Prop := ∀ k, k < N → k ≠ s → W'.heap[k]? = W.heap[k]?
theorem Fr.refl (N s : Nat) (W : World) : Fr N s W W := fun _ _ _ => rfl
theorem Fr.trans {N s : Nat} {A B C : World} (h : Fr N s A B) (k : Fr N s B C) : Fr N s A C := fun i h1 h2 => (k i h1 h2).trans (h i h1 h2)
theorem Fr.cell {N s : Nat} {W W' : World} (h : Fr N s W W') {p : Addr} (h1 : p.block < N) (h2 : p.block ≠ s) : W'.cell? p = W.cell? p := World.cell?_of_block (w := W) (h p.block h1 h2)
theorem Fr.var {N s : Nat} {W W' : World} (h : Fr N s W W') (hN : W.heap.size ≤ N) {p : Addr} {v : Value} (hp : W.cell? p = some v) (h2 : p.block ≠ s) : W'.cell? p = some v :=
  (h.cell (Nat.lt_of_lt_of_le (World.block_lt_of_cell? _ _ hp) hN) h2).trans hp
theorem Fr.tab {N s g n : Nat} {l : List UInt8} {W W' : World} (h : Fr N s W W') (hN : W.heap.size ≤ N) (hT : TabAt W (some ⟨g, 0, none⟩) n l) (h2 : g ≠ s) : TabAt W' (some ⟨g, 0, none⟩) n l :=
  ⟨g, 0, fun _ => rfl, fun i hi => by rw [Nat.zero_add]; exact h.var hN (tab_cell hT hi) h2⟩
/-- Another variable than that of the list. -/
theorem other_var {W : World} {a b : Nat} {u v : Value} (ha : W.cell? ⟨a, 0, none⟩ = some u) (hb : W.cell? ⟨b, 0, none⟩ = some v) (h : u ≠ v) : a ≠ b := fun e => by
  subst e
  rw [ha] at hb
  exact h (Option.some.inj hb)

theorem best_suf {u t : List UInt8} {k : Nat} (h : Best u t k) : ∀ m : Nat, (k : Int) = m → Suf u t m := fun m hm => by
  have : k = m := by omega
  subst this; exact h.1
theorem hBest_whole {u t : List UInt8} {k : Nat} (h : Best u t k) (hk : k = u.length) : u <:+ t := h.whole.1 hk
set_option maxRecDepth 100000 in
set_option maxHeartbeats 3200000 in
theorem occ1_in (l D s B bu bw : Nat) (REC : Loop) (wl ul : List UInt8) (W0 W : World) (hlw : wl.length ≤ 100000) (hlu : ul.length ≤ 100000) (hB : B ≤ W0.heap.size)
    (hY : ∀ N pre i W, LJ l D s N B REC pre W0 W → s < N → pre.length ≤ 100001 → i ≤ 100000 → YieldAt Fence.wide 6 Tryz.prog l #[.int .i64 ((i : Nat) : Int)] W fun e W' => e = .returned (.bool true) ∧ LJ l D s N B REC (pre ++ [i]) W0 W' ∧ Fr N s W W')
    (hu : W.cell? ⟨bu, 0, none⟩ = some (.string ⟨ul.toArray⟩)) (hw : W.cell? ⟨bw, 0, none⟩ = some (.string ⟨wl.toArray⟩)) (hl : W.heap[l]? = some (.loop REC)) (hD : W.heap[D]? = some (.deferred (some []))) (hs : W.cell? ⟨s, 0, none⟩ = some (.slice none 0 0)) (hsf : W.frozen? ⟨s, 0, none⟩ = false) (hBe : Below B W0 W) :
    CallsIn Fence.wide 7 Tryz.prog 92 #[.func (.yield l) #[] #[], .pointer (some ⟨bu, 0, none⟩), .pointer (some ⟨bw, 0, none⟩)] W fun e W' => (∃ v, e = .returned v) ∧ ∃ N, W.heap.size ≤ N ∧ LJ l D s N B REC (occ wl ul) W0 W' := by
  have HY := Lib.hid hY
  have H0 := Lib.hid (And.intro hl (And.intro hD (And.intro hs (And.intro hsf hBe))))
  clear hY hl hD hs hsf hBe
  refine callsIn_of_wp Tryz.func92 rfl trivial ?_ rfl
  simp only [Tryz.ntmps92, List.size_toArray, List.length_cons, List.length_nil, Nat.reduceAdd, Nat.reduceSub, Array.replicate_succ, Array.replicate_zero, List.push_toArray, List.append_toArray, List.nil_append, List.cons_append]
  gi_wp2_with (refine ⟨trivial, ?_⟩; gi_at_call 54; (with_reducible refine (callsIn_wide.2 (borders_any ul _ (by omega))).mono ?_); rintro e W1 ⟨g, bx, bt, c, rfl, x0, x1, hT, hb⟩)
  have Q0 : W1.cell? ⟨s, 0, none⟩ = some (.slice none 0 0) := cell_keep H0.out.2.2.1 hb
  have Q1 : LJ l D s W1.heap.size B REC [] W0 W1 :=
    ⟨(hb.block l (Array.getElem?_eq_some_iff.1 H0.out.1).1).trans H0.out.1, (hb.block D (Array.getElem?_eq_some_iff.1 H0.out.2.1).1).trans H0.out.2.1, ⟨_, Q0, frozen_keep H0.out.2.2.1 H0.out.2.2.2.1 hb, World.ownsRow_nil _ _ _ _⟩, below_more H0.out.2.2.2.2 hB hb, Nat.le_refl _⟩
  have u1 := cell_keep hu hb
  have w1 := cell_keep hw hb
  have n1 := Lib.hid (other_var u1 Q0 (by simp))
  have n2 := Lib.hid (other_var w1 Q0 (by simp))
  have n3 := Lib.hid (other_var x0 Q0 (by simp))
  have n4 := Lib.hid (other_var x1 Q0 (by simp))
  have g0 := tab_cell hT (Nat.succ_pos _)
  have n5 := Lib.hid (other_var g0 Q0 (by simp))
  have HQ := Lib.hid (And.intro Q1 (And.intro u1 (And.intro w1 (And.intro x0 (And.intro x1 hT)))))
  have hsW := Lib.hid (World.block_lt_of_cell? _ _ Q0)
  have hWW := Lib.hid hb.size
  clear hu hw H0 Q0 u1 w1 g0 x0 x1 hT hb
  gi_loopw [6, 7] (fun s6 s7 wr => ∃ (e k : Nat), s6 = .int .i64 (k : Int) ∧ s7 = .int .i64 (e : Int) ∧ e ≤ wl.length ∧ Best ul (wl.take e) k ∧ LJ l D s W1.heap.size B REC (endsTo wl ul e) W0 wr ∧ Fr W1.heap.size s W1 wr) (fun _ s7 _ => (wl.length - intOf s7).toNat)
  case atStart => exact ⟨0, 0, rfl, rfl, Nat.zero_le _, Best.start ul, Q1, Fr.refl _ _ _⟩
  case round =>
    obtain ⟨e, k, rfl, rfl, he, hBest, hJ, hF⟩ := hrel
    obtain ⟨q0, q1, q2, q3, q4, q5⟩ := HQ.out
    have y1 := hF.var (Nat.le_refl _) q1 n1.out
    have y2 := hF.var (Nat.le_refl _) q2 n2.out
    have y3 := hF.var (Nat.le_refl _) q3 n3.out
    have y4 := hF.var (Nat.le_refl _) q4 n4.out
    have yT := hF.tab (Nat.le_refl _) q5 n5.out
    have yt := tab_cell yT (Nat.lt_succ_self ul.length)
    have hkl := hBest.1.1
    have HBest := Lib.hid hBest
    have HJ := Lib.hid hJ
    have HF := Lib.hid hF
    have HT := Lib.hid yT
    have hel := Lib.hid (endsTo_len wl ul e)
    clear q0 q1 q2 q3 q4 q5 hBest hJ hF yT
    by_cases hk : k = ul.length
    · have HS := Lib.hid (hBest_whole HBest.out hk)
      have hlen := Lib.hid (HBest.out.1.len)
      obtain ⟨i, hi⟩ : ∃ i : Nat, (e : Int) - (k : Int) = (i : Int) := ⟨e - k, by have := hlen.out; rw [List.length_take] at this; omega⟩
      have HE := Lib.hid (show endsTo wl ul (e + 1) = endsTo wl ul e ++ [i] by
        unfold endsTo
        rw [if_pos HS.out, show e - ul.length = i by omega]
        cases e <;> rfl)
      obtain ⟨fn, tmps, assign, body, hrun, hR⟩ := HY.out _ _ i _ HJ.out hsW.out (by have := hel.out; omega) (by omega)
      subst hk
      have hk2 : ((ul.length : Int) == (ul.length : Int)) = true := by simp
      gi_wp2
      refine hR.mono ?_
      rintro e' W2 ⟨rfl, hJ2, hF2⟩
      have HF2 := Lib.hid (HF.out.trans hF2)
      have HJ2 := Lib.hid hJ2
      clear y1 y2 y3 y4 yt hJ2 hF2 HT HJ HF hrun hR
      obtain ⟨q0, q1, q2, q3, q4, q5⟩ := HQ.out
      have y1 := HF2.out.var (Nat.le_refl _) q1 n1.out
      have y2 := HF2.out.var (Nat.le_refl _) q2 n2.out
      have y3 := HF2.out.var (Nat.le_refl _) q3 n3.out
      have y4 := HF2.out.var (Nat.le_refl _) q4 n4.out
      have HT2 := Lib.hid (HF2.out.tab (Nat.le_refl _) q5 n5.out)
      have yt := tab_cell HT2.out (Nat.lt_succ_self ul.length)
      clear q0 q1 q2 q3 q4 q5
      by_cases hew : e = wl.length
      · subst hew
        have hll : ((wl.length : Int) == (wl.length : Int)) = true := by simp
        gi_wp2
        refine bodyPost_ret (v := .tuple #[]) (by simp [results, Tryz.results92, go_sem]) rfl ?_
        exact ⟨⟨_, rfl⟩, W1.heap.size, hWW.out, by unfold occ; rw [HE.out]; exact HJ2.out⟩
      · have hel2 : e < wl.length := by omega
        have hne : ((e : Int) == (wl.length : Int)) = false := by rw [beq_eq_false_iff_ne]; omega
        obtain ⟨d, hd⟩ : ∃ d, wl[e]? = some d := ⟨_, List.getElem?_eq_getElem hel2⟩
        have hix := run_at_bytes wl e d hd (e : Int) rfl
        have Htk := Lib.hid (show wl.take (e + 1) = wl.take e ++ [d] by rw [List.take_add_one, hd]; rfl)
        have htl := tab_lt (w := ul) (i := ul.length) (Nat.le_refl _)
        have HX := Lib.hid (ext_any bx bt (ul.length + 1) c _ ul (wl.take e) (tab ul ul.length) d W2 y3 y4 HT2.out (by omega) htl.1 (by omega) htl.2 HBest.out.tab)
        clear hd hew htl
        gi_wp2_with (refine ⟨trivial, ?_⟩; gi_at_call 93; (with_reducible refine (callsIn_wide.2 HX.out).mono ?_); rintro e' W3 ⟨⟨r, rfl, hE⟩, rfl⟩)
        go_roundw
        case rel => exact ⟨e + 1, r, by go_num, by go_num, by omega, by rw [Htk.out]; exact HBest.out.again hE, by rw [HE.out]; exact HJ2.out, HF2.out⟩
        case measure => simp [intOf]; omega
    · have HS := Lib.hid (fun h => hk (HBest.out.whole.2 h))
      have HE := Lib.hid (show endsTo wl ul (e + 1) = endsTo wl ul e by
        conv => lhs; unfold endsTo
        rw [if_neg HS.out, List.append_nil])
      have hk2 : ((k : Int) == (ul.length : Int)) = false := by rw [beq_eq_false_iff_ne]; omega
      by_cases hew : e = wl.length
      · subst hew
        clear hk
        have hll : ((wl.length : Int) == (wl.length : Int)) = true := by simp
        gi_wp2
        refine bodyPost_ret (v := .tuple #[]) (by simp [results, Tryz.results92, go_sem]) rfl ?_
        exact ⟨⟨_, rfl⟩, W1.heap.size, hWW.out, by unfold occ; rw [HE.out]; exact HJ.out⟩
      · have hel2 : e < wl.length := by omega
        have hne : ((e : Int) == (wl.length : Int)) = false := by rw [beq_eq_false_iff_ne]; omega
        obtain ⟨d, hd⟩ : ∃ d, wl[e]? = some d := ⟨_, List.getElem?_eq_getElem hel2⟩
        have hix := run_at_bytes wl e d hd (e : Int) rfl
        have Htk := Lib.hid (show wl.take (e + 1) = wl.take e ++ [d] by rw [List.take_add_one, hd]; rfl)
        have hkl2 := Lib.hid (show k < ul.length by omega)
        have HX := Lib.hid (ext_any bx bt (ul.length + 1) c _ ul (wl.take e) (k : Int) d wr y3 y4 HT.out (by omega) (by omega) (by omega) (by omega) (best_suf HBest.out))
        clear hd hew hk
        gi_wp2_with (refine ⟨trivial, ?_⟩; gi_at_call 93; (with_reducible refine (callsIn_wide.2 HX.out).mono ?_); rintro e' W3 ⟨⟨r, rfl, hE⟩, rfl⟩)
        go_roundw
        case rel => exact ⟨e + 1, r, by go_num, by go_num, by omega, by rw [Htk.out]; exact HBest.out.step hE, by rw [HE.out]; exact HJ.out, HF.out⟩
        case measure => simp [intOf]; omega
end Go.Proofs.YtigdjlhihhakmaaGreatDoor
