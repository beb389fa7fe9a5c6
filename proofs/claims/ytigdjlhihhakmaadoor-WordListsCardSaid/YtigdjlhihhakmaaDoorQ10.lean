/- What word.borders returns: the table of a string, and the closure that follows it. Condition: at most 10^6 bytes. What word.Border, word.Period and word.Root return. Condition: at most 10^6 bytes. What word.Check, word.digit, word.successor, word.least and word.Next return. Condition: a string's length. -/
import Derived.Test.YtigdjlhihhakmaaDoorQ02
import Derived.Test.YtigdjlhihhakmaaDoorQ09
import Derived.OwnWalk
import Derived.Deep.OwnRows
import Derived.Deep.RegionHeld3
import Derived.Deep.RegionLaw
import Derived.Deep.AppendLies
import Derived.Deep.QuietTactic
import Derived.Lib.MinMax
import Derived.BigQuiet
import Derived.Test.YtigdjlhihhakmaaDoorQ03
import Derived.Shelf.Strings.SlTrimAscii
import Derived.Shelf.Strings.Repeat

namespace Go.Proofs.YtigdjlhihhakmaaDoor
open Go.RowKit

theorem Tryd.infoI64 : (Tryd.prog.info? 3).map (fun i => (i.zero, i.size, i.bytes)) = some (some (.int .i64 0), 1, 8) := by kernel_rfl
/-- The first n entries of a table, as values. -/
def tabs (l : List UInt8) (n : Nat) : List Value := (List.range n).map fun j => .int .i64 (tab l j)
theorem tabs_len (l : List UInt8) (n : Nat) : (tabs l n).length = n := by unfold tabs; rw [List.length_map, List.length_range]
theorem tabs_succ (l : List UInt8) (n : Nat) : tabs l (n + 1) = tabs l n ++ [.int .i64 (tab l n)] := by unfold tabs; rw [List.range_succ, List.map_append]; rfl
theorem tabs_at (l : List UInt8) (n j : Nat) (h : j < n) : (tabs l n)[j]? = some (.int .i64 (tab l j)) := by unfold tabs; rw [List.getElem?_map, List.getElem?_range h]; rfl
theorem grown_set (w : World) (a : Addr) (u : Value) : w.grownBy (w.setCell a u) (some a.block) :=
  ⟨rfl, rfl, rfl, by simp [World.setCell], fun k _ hne => Below.heap_setCell _ _ _ _ (fun e => hne (by rw [e]))⟩
theorem tab_owned {W : World} {g n c B : Nat} {l : List UInt8} {t : TypeId} (h : W.ownsRow B t 1 (.slice (some ⟨g, 0, none⟩) n c) n (tabs l n)) : TabAt W (some ⟨g, 0, none⟩) n l :=
  ⟨g, 0, fun _ => rfl, fun i hi => by rw [Nat.zero_add, h.cellAt i (by omega), tabs_at l n i hi]⟩
theorem cell_tabs {W : World} {g n c B i : Nat} {l : List UInt8} {t : TypeId} {u : Value} (h : W.ownsRow B t 1 (.slice (some ⟨g, 0, none⟩) (n + 1) c) (n + 1) (tabs l n ++ [u])) (hi : i < n) : W.cell? ⟨g, i, none⟩ = some (.int .i64 (tab l i)) := by
  rw [h.cellAt i (by omega), List.getElem?_append_left (by rw [tabs_len]; exact hi), tabs_at l n i hi]
theorem frozen_grown {w w' : World} {row : Option Nat} {p : Addr} {v : Value} {b : Bool} (hg : w.grownBy w' row) (h : w.cell? p = some v) (hf : w.frozen? p = b) (hr : some p.block ≠ row) : w'.frozen? p = b :=
  (World.frozen?_of_block (hg.block p.block (World.block_lt_of_cell? _ _ h) hr)).trans hf
theorem tab_owned4 {W : World} {g n c B r : Nat} {l : List UInt8} {t : TypeId} (h : W.ownsRow B t 1 (.slice (some ⟨g, 0, none⟩) (n + 1) c) (n + 1) (tabs l n ++ [.int .i64 (r : Int)])) (hr : tab l n = (r : Int)) : W.ownsRow B t 1 (.slice (some ⟨g, 0, none⟩) (n + 1) c) (n + 1) (tabs l (n + 1)) := by
  rw [tabs_succ, hr]; exact h
/-- append within the capacity, at a step of a region that draws its order. -/
theorem step_append_fits {P : Program} (w : World) {ops : Array Oper} {o : Oper} {a : Act} {K : Act → World → Prop} {Q : Exit → Act → World → Prop} {E : Prop} (hgd : o.guard = none) (s x : Operand) (t : TypeId)
    (hop : o.op = Op.call { callee := Callee.builtin Builtin.append, args := #[s, x], argTypes := #[t, t] })
    (base : Nat) (e : TypeId) (i : TypeInfo) (size : Nat) (h1 : P.underlying t = some (.slice e)) (h2 : P.info? e = some i) (h4 : i.size = size)
    (g k cap : Nat) (xs : List Value) (hs : a.eval s = .slice (some ⟨g, 0, none⟩) k cap) (hown : w.ownsRow base e size (.slice (some ⟨g, 0, none⟩) k cap) k xs) (ad : Addr) (m c : Nat) (news : List Value) (hx : a.eval x = .slice (some ad) m c) (hn : news.length = m * size)
    (hc : ∀ j u, news[j]? = some u → w.cell? (ad.add j) = some u) (h1c : ∀ u ∈ news, u.oneCell' = true) (b1 : k + m ≤ cap)
    (hK : ∀ w', w'.ownsRow base e size (.slice (some ⟨g, 0, none⟩) (k + m) cap) (k + m) (xs ++ news) → w.grownBy w' (some g) → K (a.put o.dst (.slice (some ⟨g, 0, none⟩) (k + m) cap)) w') :
    if Region.wanted o (yielded ops a.tmps) = true then Oper.wp P o a w K Q else E := by
  have hw : Region.wanted o (yielded ops a.tmps) = true := by simp [Region.wanted, hgd]
  rw [if_pos hw]
  obtain ⟨w', hrun, r1, r2⟩ := run_append_fits (P := P) w base t o.type e i size h1 h2 h4 g k cap xs hown ad m c news hn hc h1c b1
  unfold Oper.wp
  simp [execOp, hop, resolve, invoke, builtin, hs, hx, hrun, Result.andThen]
  exact hK w' r1 r2
/-- What borders lays in memory. -/
def BOut (w : World) (l : List UInt8) (e : Ending) (w' : World) : Prop :=
  ∃ g bw bt c, e = .returned (.tuple #[.slice (some ⟨g, 0, none⟩) (l.length + 1) c, .func (.func 85) #[] #[.pointer (some ⟨bw, 0, none⟩), .pointer (some ⟨bt, 0, none⟩)]]) ∧
    w'.cell? ⟨bw, 0, none⟩ = some (.string ⟨l.toArray⟩) ∧ w'.cell? ⟨bt, 0, none⟩ = some (.slice (some ⟨g, 0, none⟩) (l.length + 1) c) ∧ TabAt w' (some ⟨g, 0, none⟩) (l.length + 1) l ∧ Below w.heap.size w w'

set_option linter.unusedSimpArgs false
set_option maxRecDepth 100000 in
set_option maxHeartbeats 3200000 in
theorem borders_any (l : List UInt8) (w : World) (hl : l.length ≤ 1000000) :
    Calls Tryd.prog 52 #[.string ⟨l.toArray⟩] w (BOut w l) := by
  obtain ⟨i0, hi, hz0, hz1, hz2⟩ := info_parts Tryd.infoI64
  have hmk := fun W => run_make (P := Tryd.prog) W 37 3 i0 (.int .i64 0) Tryd.underlying37 hi hz0 .i64 .i64 1 ((l.length : Int) + 1) (by omega) (by omega) (by rw [hz2]; omega) (by omega)
  rw [hz1, show (((l.length : Int) + 1).toNat) = l.length + 1 by omega, show Int.toNat 1 = 1 from rfl, Nat.mul_one] at hmk
  go_enter Tryd.func52, Tryd.ntmps52
  have hm0 : (madeCells #[Value.int .i64 0] (l.length + 1))[0]? = some (.int .i64 0) := by rw [← Array.getElem?_toList, toList_madeCells_one]; simp
  go_wp2_with fail
  have hC1 : ((madeCells #[.int .i64 0] (l.length + 1)).setIfInBounds 0 (Value.int .i64 (-1))).size = l.length + 1 := by rw [Array.size_setIfInBounds, size_madeCells]
  have hC2 : ((madeCells #[.int .i64 0] (l.length + 1)).setIfInBounds 0 (Value.int .i64 (-1))).toList.take 1 = [.int .i64 (-1)] := by rw [Array.toList_setIfInBounds, toList_madeCells_one]; rfl
  generalize (madeCells #[.int .i64 0] (l.length + 1)).setIfInBounds 0 (Value.int .i64 (-1)) = C at *
  go_loopg [16] l.length (fun q s16 wx => ∃ i : Nat, i + q = l.length ∧ s16 = .int .i64 (i : Int) ∧ wx.cell? ⟨w.heap.size, 0, none⟩ = some (.string ⟨l.toArray⟩) ∧ wx.cell? ⟨w.heap.size + 1 + 1, 0, none⟩ = some (.slice (some ⟨w.heap.size + 1, 0, none⟩) (i + 1) (l.length + 1)) ∧
    wx.frozen? ⟨w.heap.size + 1 + 1, 0, none⟩ = false ∧ wx.ownsRow (w.heap.size + 1) 3 1 (.slice (some ⟨w.heap.size + 1, 0, none⟩) (i + 1) (l.length + 1)) (i + 1) (tabs l (i + 1)) ∧ Below w.heap.size w wx)
  case atStart =>
    have o1 : ((w.alloc (.cells #[.string ⟨l.toArray⟩] 9)).alloc (.cells C 3)).ownsRow (w.heap.size + 1) 3 1 (.slice (some ⟨w.heap.size + 1, 0, none⟩) 1 (l.length + 1)) 1 [.int .i64 (-1)] := by
      refine ⟨rfl, .inr ⟨w.heap.size + 1, l.length + 1, C, rfl, Nat.le_refl _, ?_, by omega, by unfold maxLen; omega, by omega, hC2⟩⟩
      have := heap_alloc_new (w.alloc (.cells #[.string ⟨l.toArray⟩] 9)) (.cells C 3)
      rwa [World.size_alloc] at this
    have o2 := o1.alloc (.cells #[.slice (some ⟨w.heap.size + 1, 0, none⟩) 1 (l.length + 1)] 37)
    refine ⟨0, by omega, rfl, ?_, ?_, ?_, o2, ?_⟩
    · simp [go_sem]
    · simp [go_sem]
    · simp [go_sem]
    · exact ((below1 w _).alloc (by simp) _).alloc (by simp; omega) _
  case round =>
    clear hmk hm0 hC1 hC2
    obtain ⟨i, hi', rfl, x0, x1, x2, HO, hb⟩ := hrel
    rcases gk with _ | q
    · obtain rfl : i = l.length := by omega
      go_wp2
      exact bodyPost_ret (v := .tuple #[.slice (some ⟨w.heap.size + 1, 0, none⟩) (l.length + 1) (l.length + 1), .func (.func 85) #[] #[.pointer (some ⟨w.heap.size, 0, none⟩), .pointer (some ⟨w.heap.size + 1 + 1, 0, none⟩)]]) (by simp [results, Tryd.results52, go_sem]) rfl ⟨_, _, _, _, rfl, x0, x1, tab_owned HO, hb⟩
    · have hil : i < l.length := by omega
      obtain ⟨d, hd⟩ : ∃ d, l[i]? = some d := ⟨_, List.getElem?_eq_getElem hil⟩
      have hix := run_at_bytes l i d hd (i : Int) rfl
      have hcell := (tab_owned HO)
      have hcell2 : wr.cell? ⟨w.heap.size + 1, i, none⟩ = some (.int .i64 (tab l i)) := by
        rw [HO.cellAt i (by omega), tabs_at l _ i (by omega)]
      have HOO := Lib.hid HO
      have HT := Lib.hid (tab_owned HO)
      have Hd := Lib.hid hd
      clear HO hcell hd
      go_wp2_with fail
      have y0 : wr.drew.cell? ⟨w.heap.size, 0, none⟩ = some (.string ⟨l.toArray⟩) := x0
      have y1 : wr.drew.cell? ⟨w.heap.size + 1 + 1, 0, none⟩ = some (.slice (some ⟨w.heap.size + 1, 0, none⟩) (i + 1) (l.length + 1)) := x1
      have y2 : wr.drew.frozen? ⟨w.heap.size + 1 + 1, 0, none⟩ = false := x2
      have y3 : wr.drew.cell? ⟨w.heap.size + 1, i, none⟩ = some (.int .i64 (tab l i)) := hcell2
      have YO : wr.drew.ownsRow (w.heap.size + 1) 3 1 (.slice (some ⟨w.heap.size + 1, 0, none⟩) (i + 1) (l.length + 1)) (i + 1) (tabs l (i + 1)) := HOO.out
      have YO' : ∀ o, (wr.alloc o).drew.ownsRow (w.heap.size + 1) 3 1 (.slice (some ⟨w.heap.size + 1, 0, none⟩) (i + 1) (l.length + 1)) (i + 1) (tabs l (i + 1)) := fun o => HOO.out.alloc o
      have YT : TabAt wr.drew (some ⟨w.heap.size + 1, 0, none⟩) (i + 1) l := HT.out
      have hb2 := hb.drew
      have hbs := hb2.size
      have HTl := tab_lt (w := l) (i := i) (by omega)
      have hsz : w.heap.size + 1 + 1 < wr.drew.heap.size := World.block_lt_of_cell? _ _ y1
      have Y := Lib.hid (And.intro y0 (And.intro y1 y3))
      have YA := fun u => Lib.hid (And.intro (cell_keep x0 (below1 wr (.cells #[u] 3)).drew) (And.intro (cell_keep x1 (below1 wr (.cells #[u] 3)).drew) (cell_keep hcell2 (below1 wr (.cells #[u] 3)).drew)))
      have YF := fun u => frozen_keep x1 x2 (below1 wr (.cells #[u] 3)).drew
      have j0 : (0 : Int) ≤ (i : Int) := by omega
      have j1 : (i : Int) < ((i + 1 : Nat) : Int) := by omega
      have j2 : (i : Int) < (i : Int) + 1 := by omega
      have HB := Lib.hid hb
      clear hcell2 HOO hb HT
      refine regionT (T := T2 12 12 (fun W => W.cell? ⟨w.heap.size, 0, none⟩ = some (.string ⟨l.toArray⟩) ∧ W.cell? ⟨w.heap.size + 1 + 1, 0, none⟩ = some (.slice (some ⟨w.heap.size + 1, 0, none⟩) (i + 1) (l.length + 1)) ∧ W.cell? ⟨w.heap.size + 1, i, none⟩ = some (.int .i64 (tab l i))) (fun W => W.cell? ⟨w.heap.size, 0, none⟩ = some (.string ⟨l.toArray⟩) ∧ W.cell? ⟨w.heap.size + 1 + 1, 0, none⟩ = some (.slice (some ⟨w.heap.size + 1, 0, none⟩) (i + 1) (l.length + 1)) ∧ W.cell? ⟨w.heap.size + 1, i, none⟩ = some (.int .i64 (tab l i)))) (by kernel_rfl) ?_
      have hR := Y.out
      refine take1 (i := 0) (v := ?_) rfl (by kernel_rfl) (by kernel_rfl) (by kernel_rfl) (by kernel_rfl) (by kernel_rfl) (by decide) (by decide) (fun _ _ _ h => h) (Or.inl ⟨by rfl, ?_⟩) hR hR ?_
      rotate_left
      · intro w hSw
        (try dsimp only at hSw)
        go_simp
        all_goals with_reducible rfl
      (try simp only [Act.put, List.setIfInBounds_toArray, List.set_cons_zero, List.set_cons_succ])
      refine take1 (i := 1) (v := ?_) rfl (by kernel_rfl) (by kernel_rfl) (by kernel_rfl) (by kernel_rfl) (by kernel_rfl) (by decide) (by decide) (fun _ _ _ h => h) (Or.inl ⟨by rfl, ?_⟩) hR hR ?_
      rotate_left
      · intro w hSw
        (try dsimp only at hSw)
        go_simp
        all_goals with_reducible rfl
      (try simp only [Act.put, List.setIfInBounds_toArray, List.set_cons_zero, List.set_cons_succ])
      refine take1 (i := 2) (v := ?_) rfl (by kernel_rfl) (by kernel_rfl) (by kernel_rfl) (by kernel_rfl) (by kernel_rfl) (by decide) (by decide) (fun _ _ _ h => h) (Or.inl ⟨by rfl, ?_⟩) hR hR ?_
      rotate_left
      · intro w hSw
        (try dsimp only at hSw)
        go_simp
        all_goals with_reducible rfl
      (try simp only [Act.put, List.setIfInBounds_toArray, List.set_cons_zero, List.set_cons_succ])
      refine take1 (i := 3) (v := ?_) rfl (by kernel_rfl) (by kernel_rfl) (by kernel_rfl) (by kernel_rfl) (by kernel_rfl) (by decide) (by decide) (fun _ _ _ h => h) (Or.inl ⟨by rfl, ?_⟩) hR hR ?_
      rotate_left
      · intro w hSw
        (try dsimp only at hSw)
        go_simp
        all_goals with_reducible rfl
      (try simp only [Act.put, List.setIfInBounds_toArray, List.set_cons_zero, List.set_cons_succ])
      refine take1 (i := 4) (v := ?_) rfl (by kernel_rfl) (by kernel_rfl) (by kernel_rfl) (by kernel_rfl) (by kernel_rfl) (by decide) (by decide) (fun _ _ _ h => h) (Or.inl ⟨by rfl, ?_⟩) hR hR ?_
      rotate_left
      · intro w hSw
        (try dsimp only at hSw)
        go_simp
        all_goals with_reducible rfl
      (try simp only [Act.put, List.setIfInBounds_toArray, List.set_cons_zero, List.set_cons_succ])
      refine take1 (i := 5) (v := ?_) rfl (by kernel_rfl) (by kernel_rfl) (by kernel_rfl) (by kernel_rfl) (by kernel_rfl) (by decide) (by decide) (fun _ _ _ h => h) (Or.inl ⟨by rfl, ?_⟩) hR hR ?_
      rotate_left
      · intro w hSw
        (try dsimp only at hSw)
        go_simp
        all_goals with_reducible rfl
      (try simp only [Act.put, List.setIfInBounds_toArray, List.set_cons_zero, List.set_cons_succ])
      refine take1 (i := 6) (v := ?_) rfl (by kernel_rfl) (by kernel_rfl) (by kernel_rfl) (by kernel_rfl) (by kernel_rfl) (by decide) (by decide) (fun _ _ _ h => h) (Or.inl ⟨by rfl, ?_⟩) hR hR ?_
      rotate_left
      · intro w hSw
        (try dsimp only at hSw)
        go_simp
        all_goals with_reducible rfl
      (try simp only [Act.put, List.setIfInBounds_toArray, List.set_cons_zero, List.set_cons_succ])
      refine take1 (i := 7) (v := ?_) rfl (by kernel_rfl) (by kernel_rfl) (by kernel_rfl) (by kernel_rfl) (by kernel_rfl) (by decide) (by decide) (fun _ _ _ h => h) (Or.inl ⟨by rfl, ?_⟩) hR hR ?_
      rotate_left
      · intro w hSw
        (try dsimp only at hSw)
        go_simp
        all_goals with_reducible rfl
      (try simp only [Act.put, List.setIfInBounds_toArray, List.set_cons_zero, List.set_cons_succ])
      refine take1 (i := 8) (v := ?_) rfl (by kernel_rfl) (by kernel_rfl) (by kernel_rfl) (by kernel_rfl) (by kernel_rfl) (by decide) (by decide) (fun _ _ _ h => h) (Or.inl ⟨by rfl, ?_⟩) hR hR ?_
      rotate_left
      · intro w hSw
        (try dsimp only at hSw)
        go_simp
        all_goals with_reducible rfl
      (try simp only [Act.put, List.setIfInBounds_toArray, List.set_cons_zero, List.set_cons_succ])
      refine stepT (i := 9) (by kernel_rfl) rfl (fun K hK => ?_)
      go_simp
      go_at_call 85
      refine (ext_any _ _ (i + 1) (l.length + 1) _ l (l.take i) (tab l i) d _ y0 y1 YT hl HTl.1 (by omega) (by omega) (fun m hm => tab_suf (by omega) hm)).mono ?_
      rintro e W3 ⟨⟨r, rfl, HE⟩, rfl⟩
      have HE := Lib.hid HE
      go_wp2_with fail
      refine hK.out _ _ ⟨fun _ => Y.out, fun _ => Y.out⟩ ?_
      clear hK K hR
      have hR := Y.out
      (try simp only [Act.put, List.setIfInBounds_toArray, List.set_cons_zero, List.set_cons_succ])
      refine stepT (i := 10) (by kernel_rfl) rfl (fun K hK => ?_)
      go_simp
      refine hK.out _ _ ⟨fun _ => (YA (.int .i64 (r : Int))).out, fun _ => (YA (.int .i64 (r : Int))).out⟩ ?_
      clear hK K hR
      have hR := (YA (.int .i64 (r : Int))).out
      (try simp only [Act.put, List.setIfInBounds_toArray, List.set_cons_zero, List.set_cons_succ])
      refine stepT (i := 11) (by kernel_rfl) rfl (fun K hK => ?_)
      refine step_append_fits _ (by rfl) _ _ 37 (by rfl) (w.heap.size + 1) 3 i0 1 Tryd.underlying37 hi hz1 (w.heap.size + 1) (i + 1) (l.length + 1) _ (by rfl) (YO' _) ⟨wr.heap.size, 0, none⟩ 1 1 [.int .i64 (r : Int)] (by rfl) (by rfl) (World.news_of_block (cs := #[.int .i64 (r : Int)]) (t := 3) (fr := (0, 0)) (heap_alloc_new wr _)) (by simp [Value.oneCell']) (by omega) ?_
      intro W4 hown4 hgrow4
      have G4 := Lib.hid (And.intro (hgrow4.cell (YA (.int .i64 (r : Int))).out.1 (by simp)) (And.intro (hgrow4.cell (YA (.int .i64 (r : Int))).out.2.1 (by simp)) (cell_tabs hown4 (Nat.lt_succ_self i))))
      have c4 := G4.out.2.1
      have f4 := frozen_grown hgrow4 (YA (.int .i64 (r : Int))).out.2.1 (YF (.int .i64 (r : Int))) (by simp)
      refine hK.out _ _ ⟨fun _ => G4.out, fun _ => G4.out⟩ ?_
      clear hK K hR
      have hR := G4.out
      (try simp only [Act.put, List.setIfInBounds_toArray, List.set_cons_zero, List.set_cons_succ])
      refine stepT (i := 12) (by kernel_rfl) rfl (fun K hK => ?_)
      go_simp
      refine hK.out _ _ ⟨fun h => absurd h (by decide), fun h => absurd h (by decide)⟩ ?_
      clear hK K
      (try simp only [Act.put, List.setIfInBounds_toArray, List.set_cons_zero, List.set_cons_succ])
      refine doneT (by kernel_rfl) ?_ _
      have hnext := tab_next Hd.out HE.out
      have o4 := (tab_owned4 hown4 hnext).kept (grown_set W4 ⟨w.heap.size + 1 + 1, 0, none⟩ (.slice (some ⟨w.heap.size + 1, 0, none⟩) (i + 1 + 1) (l.length + 1))) (Or.inr (by simp [Value.ownBlock]))
      have b4 : Below w.heap.size w W4 := ((HB.out.alloc HB.out.size (.cells #[.int .i64 (r : Int)] 3)).drew).grown hgrow4 (by rw [World.size_drew, World.size_alloc]; exact Nat.le_succ_of_le HB.out.size) (fun k hk => by injection hk with hk; omega)
      have Y0 := Lib.hid (show (W4.setCell ⟨w.heap.size + 1 + 1, 0, none⟩ (.slice (some ⟨w.heap.size + 1, 0, none⟩) (i + 1 + 1) (l.length + 1))).cell? ⟨w.heap.size, 0, none⟩ = some (.string ⟨l.toArray⟩) from by rw [World.cell?_setCell_far _ _ _ _ (by dsimp only; omega)]; exact G4.out.1)
      have Y1 := Lib.hid (World.cell?_setCell_same' W4 ⟨w.heap.size + 1 + 1, 0, none⟩ (.slice (some ⟨w.heap.size + 1, 0, none⟩) (i + 1 + 1) (l.length + 1)) (by rw [c4]; rfl))
      have Y2 := Lib.hid (show (W4.setCell ⟨w.heap.size + 1 + 1, 0, none⟩ (.slice (some ⟨w.heap.size + 1, 0, none⟩) (i + 1 + 1) (l.length + 1))).frozen? ⟨w.heap.size + 1 + 1, 0, none⟩ = false from by rw [World.frozen?_setCell]; exact f4)
      have Y4 := Lib.hid o4
      have Y5 := Lib.hid (b4.setCell (p := ⟨w.heap.size + 1 + 1, 0, none⟩) (by dsimp only; omega) (.slice (some ⟨w.heap.size + 1, 0, none⟩) (i + 1 + 1) (l.length + 1)))
      clear c4 f4 hown4 hgrow4 o4 b4 hnext hR G4
      generalize W4.setCell ⟨w.heap.size + 1 + 1, 0, none⟩ (.slice (some ⟨w.heap.size + 1, 0, none⟩) (i + 1 + 1) (l.length + 1)) = W5 at *
      go_wp2
      go_roundg q
      case measure => omega
      case rel => exact ⟨i + 1, by omega, by go_num, Y0.out, Y1.out, Y2.out, Y4.out, Y5.out⟩
end Go.Proofs.YtigdjlhihhakmaaDoor

namespace Go.Proofs.YtigdjlhihhakmaaDoor
open Go.RowKit

theorem run_cut_at (l g : List UInt8) (a b : Nat) (za zb : Int) (hz : za = (a : Int)) (hy : zb = (b : Int)) (h1 : a ≤ b) (h2 : b ≤ l.length) (hg : (l.drop a).take (b - a) = g) (w : World) :
    (Instr.slice 9 (.string ⟨l.toArray⟩) (some (.int .i64 za)) (some (.int .i64 zb)) none).run Tryd.prog w = .ok (.string ⟨g.toArray⟩) w := by
  subst hz; subst hy
  rw [run_slice_string w 9 ⟨l.toArray⟩ .i64 .i64 a b Tryd.underlying9 (by omega) (by omega) (by simp [ByteArray.size]; omega), Int.toNat_natCast, Int.toNat_natCast, ByteArray.extract_mk, hg]
theorem run_take_at (l g : List UInt8) (k : Nat) (z : Int) (hz : z = (k : Int)) (h2 : k ≤ l.length) (hg : l.take k = g) (w : World) :
    (Instr.slice 9 (.string ⟨l.toArray⟩) none (some (.int .i64 z)) none).run Tryd.prog w = .ok (.string ⟨g.toArray⟩) w := by
  subst hz
  rw [run_slice_string_h w 9 ⟨l.toArray⟩ Tryd.underlying9 .i64 (k : Int) (by omega) (by simp [ByteArray.size]; omega), Int.toNat_natCast, ByteArray.extract_mk, List.drop_zero, Nat.sub_zero, hg]
theorem run_drop_at (l g : List UInt8) (k : Nat) (z : Int) (hz : z = (k : Int)) (h2 : k ≤ l.length) (hg : l.drop k = g) (w : World) :
    (Instr.slice 9 (.string ⟨l.toArray⟩) (some (.int .i64 z)) none none).run Tryd.prog w = .ok (.string ⟨g.toArray⟩) w := by
  subst hz
  rw [run_slice_string_l w 9 ⟨l.toArray⟩ Tryd.underlying9 .i64 (k : Int) (by omega) (by simp [ByteArray.size]; omega), Int.toNat_natCast, ByteArray.extract_mk, show (⟨l.toArray⟩ : ByteArray).size = l.length from rfl, List.take_of_length_le (by rw [List.length_drop]; omega), hg]
theorem tab_whole (l : List UInt8) : max 0 (tab l l.length) = (bord l : Int) := by
  unfold tab
  split
  · next h => rw [List.eq_nil_of_length_eq_zero h]; rfl
  · rw [List.take_length]; omega

theorem tab_cell {W : World} {g n : Nat} {l : List UInt8} (h : TabAt W (some ⟨g, 0, none⟩) n l) {i : Nat} (hi : i < n) : W.cell? ⟨g, i, none⟩ = some (.int .i64 (tab l i)) := by
  obtain ⟨b, off, hA, hc⟩ := h
  have e := hA (by omega)
  injection e with e
  injection e with e1 e2
  subst e1 e2
  have := hc i hi
  rwa [Nat.zero_add] at this

set_option maxRecDepth 100000 in
set_option maxHeartbeats 1600000 in
theorem border_any (l : List UInt8) (w : World) (hl : l.length ≤ 1000000) :
    Calls Tryd.prog 25 #[.string ⟨l.toArray⟩] w fun e w' => e = .returned (.int .i64 (bord l : Int)) ∧ Below w.heap.size w w' := by
  have hm := Lib.hid (tab_whole l)
  go_enter Tryd.func25, Tryd.ntmps25
  go_wp2_with (go_at_call 52; refine (borders_any l _ hl).mono ?_; rintro e W1 ⟨g, bw, bt, c, rfl, x0, x1, hT, hb⟩; (have hcell := tab_cell hT (Nat.lt_succ_self l.length)); (clear hT x0 x1))
  go_wp2
  go_ret
  exact ⟨by show Ending.returned (.int .i64 (max 0 (tab l l.length))) = _; rw [hm.out], hb⟩

set_option maxRecDepth 100000 in
set_option maxHeartbeats 1600000 in
theorem period_any (l : List UInt8) (w : World) (hl : l.length ≤ 1000000) :
    Calls Tryd.prog 27 #[.string ⟨l.toArray⟩] w fun e w' => e = .returned (.int .i64 (per l : Int)) ∧ Below w.heap.size w w' := by
  have hle := bord_le l
  obtain ⟨p, Hp⟩ : ∃ p : Nat, Hid (per l = p) := ⟨_, Lib.hid rfl⟩
  obtain ⟨b, Hb⟩ : ∃ b : Nat, Hid (bord l = b) := ⟨_, Lib.hid rfl⟩
  have hpb : (l.length : Int) - (b : Int) = (p : Int) := by
    rw [← Hp.out, ← Hb.out]; unfold per; omega
  have HP := Lib.hid hpb
  rw [Hb.out] at hle
  rw [Hp.out]
  clear hpb
  go_enter Tryd.func27, Tryd.ntmps27
  go_wp2_with (go_at_call 25; refine (border_any l _ hl).mono ?_; rintro e W1 ⟨rfl, hb⟩; (rw [Hb.out]))
  go_ret
  exact ⟨by show Ending.returned (.int .i64 ((l.length : Int) - (b : Int))) = _; rw [HP.out], hb⟩

theorem root_empty (w : World) : Calls Tryd.prog 20 #[.string ⟨#[]⟩] w fun e w' => e = .returned (.tuple #[.string ⟨#[]⟩, .int .i64 0]) ∧ w' = w := by
  go_enter Tryd.func20, Tryd.ntmps20
  go_wp2
  exact bodyPost_ret (v := .tuple #[.string ⟨#[]⟩, .int .i64 0]) (by simp [results, Tryd.results20, go_sem]) rfl ⟨rfl, rfl⟩

set_option maxRecDepth 100000 in
set_option maxHeartbeats 1600000 in
theorem root_some (l : List UInt8) (w : World) (hl : l.length ≤ 1000000) (h0 : l ≠ []) :
    Calls Tryd.prog 20 #[.string ⟨l.toArray⟩] w fun e w' => e = .returned (.tuple #[.string ⟨(rootL l).toArray⟩, .int .i64 (rootN l : Int)]) ∧ Below w.heap.size w w' := by
  have hp := per_pos h0
  have hle := per_le l
  have hne : (l == []) = false := by rw [beq_eq_false_iff_ne]; exact h0
  have hpos := List.length_pos_iff.2 h0
  obtain ⟨p, Hp⟩ : ∃ p : Nat, Hid (per l = p) := ⟨_, Lib.hid rfl⟩
  obtain ⟨n, hn⟩ : ∃ n : Nat, l.length = n := ⟨_, rfl⟩
  have Hn := Lib.hid hn
  have hR : rlen l = if n % p = 0 then p else n := by unfold rlen; rw [hn, Hp.out]
  rw [Hp.out] at hp hle
  rw [hn] at hl hle hpos
  have Hr := Lib.hid hR
  have hdm := Nat.div_add_mod n p
  have hq : Int.tdiv (n : Int) (p : Int) = ((n / p : Nat) : Int) := by rw [Int.tdiv_eq_ediv_of_nonneg (by omega)]; rfl
  have hr : Int.tmod (n : Int) (p : Int) = ((n % p : Nat) : Int) := by rw [Int.tmod_eq_emod_of_nonneg (by omega)]; rfl
  have hrl := Nat.mod_lt n hp
  have hql := Nat.div_le_self n p
  obtain ⟨q, Hq⟩ : ∃ q : Nat, Hid (n / p = q) := ⟨_, Lib.hid rfl⟩
  obtain ⟨r, HR⟩ : ∃ r : Nat, Hid (n % p = r) := ⟨_, Lib.hid rfl⟩
  rw [Hq.out] at hq hql
  rw [HR.out] at hr hrl
  have hm0 : ¬ (p : Int) = 0 := by omega
  have hls : (⟨l.toArray⟩ : ByteArray).size = n := by rw [← hn]; rfl
  have hL : (if n % p = 0 then p else n) = rlen l := Hr.out.symm
  clear hdm hn h0 hR
  by_cases hr0 : r = 0
  · have HRL := Lib.hid (show rlen l = p by rw [Hr.out, HR.out, if_pos hr0])
    have HC := Lib.hid (show l.take p = rootL l by unfold rootL; rw [HRL.out])
    have HN := Lib.hid (show q = rootN l by unfold rootN; rw [HRL.out, Hn.out, Hq.out])
    have hcut := run_take_at l (l.take p) p (p : Int) rfl (by rw [Hn.out]; exact hle) rfl
    clear hL
    subst hr0
    go_enter Tryd.func20, Tryd.ntmps20
    go_wp2_with (go_at_call 27; refine (period_any l _ (by rw [Hn.out]; exact hl)).mono ?_; rintro e W1 ⟨rfl, hb⟩; (rw [Hp.out]))
    go_quiet (fail)
    go_wp2
    exact bodyPost_ret (v := .tuple #[.string ⟨(l.take p).toArray⟩, .int .i64 (q : Int)]) (by simp [results, Tryd.results20, go_sem]) rfl ⟨by rw [HC.out, HN.out], ⟨hb.os, hb.tape, hb.output, hb.size, hb.block⟩⟩
  · have HRL := Lib.hid (show rlen l = n by rw [Hr.out, HR.out, if_neg hr0])
    have HC := Lib.hid (show l = rootL l by unfold rootL; rw [HRL.out, ← Hn.out, List.take_length])
    have HN := Lib.hid (show 1 = rootN l by unfold rootN; rw [HRL.out, Hn.out, Nat.div_self hpos])
    clear hL
    go_enter Tryd.func20, Tryd.ntmps20
    go_wp2_with (go_at_call 27; refine (period_any l _ (by rw [Hn.out]; exact hl)).mono ?_; rintro e W1 ⟨rfl, hb⟩; (rw [Hp.out]))
    exact bodyPost_ret (v := .tuple #[.string ⟨l.toArray⟩, .int .i64 1]) (by simp [results, Tryd.results20, go_sem]) rfl ⟨by rw [← HC.out, ← HN.out]; rfl, hb⟩
end Go.Proofs.YtigdjlhihhakmaaDoor

namespace Go.Proofs.YtigdjlhihhakmaaDoor
open Go.RowKit

/-- The letters, as the program lays them. -/
abbrev lb : ByteArray := ⟨#[48, 49, 50, 51, 52, 53, 54, 55, 56, 57, 97, 98, 99, 100, 101, 102]⟩
theorem lb_eq : lb = ⟨lets.toArray⟩ := rfl
theorem ascii_lets : ∀ b ∈ lets, b.toNat < 128 := by decide
theorem ascii_of {m : List UInt8} (h : ∀ b ∈ m, b ∈ lets) : ∀ (j : Nat) b, (⟨m.toArray⟩ : ByteArray).data.toList[j]? = some b → b.toNat < 128 := fun _ b hb => ascii_lets b (h b (List.mem_of_getElem? hb))
theorem trims_any (l m : List UInt8) (w : World) (hl : l.length ≤ 9223372036854775807) (hm : ∀ b ∈ m, b ∈ lets) (hc : m.length ≤ 16) :
    Calls Tryd.prog 49 #[.string ⟨l.toArray⟩, .string ⟨m.toArray⟩] w fun e w' => e = .returned (.string ⟨(Lib.trimS l m).toArray⟩) ∧ Below w.heap.size w w' :=
  Any.strings_Trim_ascii Tryd.lays160 (fun _ => by kernel_rfl) (by kernel_rfl) ⟨l.toArray⟩ ⟨m.toArray⟩ w hl (by show m.length < _; omega) (ascii_of hm)
theorem trimRs_any (l m : List UInt8) (w : World) (hl : l.length ≤ 9223372036854775807) (hm : ∀ b ∈ m, b ∈ lets) (hc : m.length ≤ 16) :
    Calls Tryd.prog 74 #[.string ⟨l.toArray⟩, .string ⟨m.toArray⟩] w fun e w' => e = .returned (.string ⟨(Lib.trimRightS l m).toArray⟩) ∧ Below w.heap.size w w' :=
  Any.strings_TrimRight_ascii Tryd.lays162 (fun _ => by kernel_rfl) (by kernel_rfl) ⟨l.toArray⟩ ⟨m.toArray⟩ w hl (by show m.length < _; omega) (ascii_of hm)
theorem dropWhile_nil {p : UInt8 → Bool} : ∀ {l : List UInt8}, l.dropWhile p = [] ↔ ∀ c ∈ l, p c = true
  | [] => by simp
  | c :: l => by
    rw [List.dropWhile_cons]
    cases h : p c with
    | true => simp only [if_true, List.mem_cons, forall_eq_or_imp, h, true_and]; exact dropWhile_nil
    | false => simp [h]
/-- A text without the letters in front and behind is empty exactly if it has these letters only. -/
theorem trimS_nil {l m : List UInt8} : Lib.trimS l m = [] ↔ ∀ c ∈ l, c ∈ m := by
  unfold Lib.trimS Lib.trimLeftS Lib.trimRightS
  rw [dropWhile_nil]
  constructor
  · intro h c hc
    have h1 : l = (l.reverse.dropWhile (m.contains ·)).reverse ++ (l.reverse.takeWhile (m.contains ·)).reverse := by
      rw [← List.reverse_append, List.takeWhile_append_dropWhile, List.reverse_reverse]
    rw [h1, List.mem_append] at hc
    rcases hc with hc | hc
    · simpa using h c hc
    · rw [List.mem_reverse] at hc
      have := List.all_eq_true.1 (List.all_takeWhile (l := l.reverse) (p := (m.contains ·))) c hc
      simpa using this
  · intro h c hc
    rw [List.mem_reverse] at hc
    have := (List.dropWhile_sublist (m.contains ·)).subset hc
    rw [List.mem_reverse] at this
    simpa using h c this
theorem isAlphabet_any (q : Int) (w : World) : Calls Tryd.prog 48 #[.int .i64 q] w fun e w' => e = .returned (.bool (decide (1 ≤ q) && decide (q ≤ 16))) ∧ w' = w := by
  rcases (show q < 1 ∨ (1 ≤ q ∧ q ≤ 16) ∨ 16 < q by omega) with h | ⟨h1, h2⟩ | h
  · have e : (decide (1 ≤ q) && decide (q ≤ 16)) = false := by rw [decide_eq_false (by omega)]; rfl
    rw [e]; clear e
    go_enter Tryd.func48, Tryd.ntmps48
    go_wp2
    go_ret
    exact ⟨rfl, rfl⟩
  · have e : (decide (1 ≤ q) && decide (q ≤ 16)) = true := by rw [decide_eq_true h1, decide_eq_true h2]; rfl
    rw [e]; clear e
    go_enter Tryd.func48, Tryd.ntmps48
    go_wp2
    go_ret
    exact ⟨rfl, rfl⟩
  · have e : (decide (1 ≤ q) && decide (q ≤ 16)) = false := by rw [decide_eq_false (by omega : ¬ q ≤ 16), Bool.and_false]
    have E2 := Lib.hid (decide_eq_false (by omega : ¬ q ≤ 16))
    rw [e]; clear e
    go_enter Tryd.func48, Tryd.ntmps48
    go_wp2
    go_ret
    exact ⟨congrArg (fun b => Ending.returned (.bool b)) E2.out, rfl⟩
/-- What is wrong with a word. -/
def chk (q : Int) (l : List UInt8) : Int := if 1 ≤ q ∧ q ≤ 16 then (if l.length ≤ 65536 then (if Wof q.toNat l then 0 else 13) else 4) else 12
set_option maxRecDepth 100000 in
set_option maxHeartbeats 1600000 in
theorem check_any (q : Int) (l : List UInt8) (w : World) (hl : l.length ≤ 9223372036854775807) :
    Calls Tryd.prog 17 #[.int .i64 q, .string ⟨l.toArray⟩] w fun e w' => e = .returned (.int .i64 (chk q l)) ∧ Below w.heap.size w w' := by
  by_cases hq : 1 ≤ q ∧ q ≤ 16
  · obtain ⟨q1, q2⟩ := hq
    have ea : (decide (1 ≤ q) && decide (q ≤ 16)) = true := by rw [decide_eq_true q1, decide_eq_true q2]; rfl
    have EA := Lib.hid ea
    clear ea
    rcases Nat.lt_or_ge 65536 l.length with h2 | h2
    · have HC := Lib.hid (show chk q l = 4 by unfold chk; rw [if_pos ⟨q1, q2⟩, if_neg (by omega)])
      go_enter Tryd.func17, Tryd.ntmps17
      go_wp2_with (go_at_call 48; refine (isAlphabet_any q _).mono ?_; rintro e W1 ⟨rfl, rfl⟩; (rw [EA.out]))
      go_ret
      exact ⟨by rw [HC.out]; rfl, Below.refl _ _⟩
    · obtain ⟨m, hm⟩ : ∃ m : Nat, q = (m : Int) := ⟨q.toNat, by omega⟩
      subst hm
      have HC := Lib.hid (show chk m l = if Wof m l then 0 else 13 by unfold chk; rw [if_pos ⟨q1, q2⟩, if_pos h2, Int.toNat_natCast])
      have hcut : ∀ w, (Instr.slice 9 (.string ⟨#[48, 49, 50, 51, 52, 53, 54, 55, 56, 57, 97, 98, 99, 100, 101, 102]⟩) none (some (.int .i64 (m : Int))) none).run Tryd.prog w = .ok (.string ⟨(lets.take m).toArray⟩) w := run_take_at lets (lets.take m) m (m : Int) rfl (by show m ≤ 16; omega) rfl
      have hml : (lets.take m).length ≤ 16 := by rw [List.length_take]; exact Nat.min_le_right _ _
      by_cases hW : Wof m l
      · have HT := Lib.hid (show Lib.trimS l (lets.take m) = [] from trimS_nil.2 fun c hc => (mem_lets (by omega) c).2 (hW c hc))
        have HC2 := Lib.hid (show chk m l = 0 by rw [HC.out, if_pos hW])
        clear hW
        go_enter Tryd.func17, Tryd.ntmps17
        go_wp2_with (first | (go_at_call 48; refine (isAlphabet_any m _).mono ?_; rintro e W1 ⟨rfl, rfl⟩; (rw [EA.out])) | (go_at_call 49; refine (trims_any l _ _ hl (fun b hb => List.mem_of_mem_take hb) hml).mono ?_; rintro e W1 ⟨rfl, hb⟩; (rw [HT.out])))
        go_ret
        exact ⟨by rw [HC2.out]; rfl, hb⟩
      · have hT : Lib.trimS l (lets.take m) ≠ [] := fun h => hW fun c hc => (mem_lets (by omega) c).1 (trimS_nil.1 h c hc)
        obtain ⟨t, ht⟩ : ∃ t, Lib.trimS l (lets.take m) = t := ⟨_, rfl⟩
        rw [ht] at hT
        have HT := Lib.hid ht
        have hT2 : (t == []) = false := by rw [beq_eq_false_iff_ne]; exact hT
        have HC2 := Lib.hid (show chk m l = 13 by rw [HC.out, if_neg hW])
        clear hW ht hT
        go_enter Tryd.func17, Tryd.ntmps17
        go_wp2_with (first | (go_at_call 48; refine (isAlphabet_any m _).mono ?_; rintro e W1 ⟨rfl, rfl⟩; (rw [EA.out])) | (go_at_call 49; refine (trims_any l _ _ hl (fun b hb => List.mem_of_mem_take hb) hml).mono ?_; rintro e W1 ⟨rfl, hb⟩; (rw [HT.out])))
        go_ret
        exact ⟨by rw [HC2.out]; rfl, hb⟩
  · have ea : (decide (1 ≤ q) && decide (q ≤ 16)) = false := by
      rw [Bool.and_eq_false_iff]
      by_cases h : 1 ≤ q
      · exact Or.inr (decide_eq_false (fun h2 => hq ⟨h, h2⟩))
      · exact Or.inl (decide_eq_false h)
    have HC := Lib.hid (show chk q l = 12 by unfold chk; rw [if_neg hq])
    clear hq
    have EA := Lib.hid ea
    clear ea
    go_enter Tryd.func17, Tryd.ntmps17
    go_wp2_with (go_at_call 48; refine (isAlphabet_any q _).mono ?_; rintro e W1 ⟨rfl, rfl⟩; (rw [EA.out]))
    go_ret
    exact ⟨by rw [HC.out]; rfl, Below.refl _ _⟩
end Go.Proofs.YtigdjlhihhakmaaDoor
