/- What word.borders returns: the table of a string, and the closure that follows it. Condition: at most 10^6 bytes. -/
import Derived.Test.YtigdjlhihhakmaaDoorWx
import Derived.Test.YtigdjlhihhakmaaDoorInrw
import Derived.OwnWalk
import Derived.Deep.OwnRows
import Derived.Deep.RegionHeld3
import Derived.Deep.RegionLaw
import Derived.Deep.AppendLies
namespace Go.Proofs.YtigdjlhihhakmaaDoor
open Go.RowKit

theorem Tryd.infoI64 : (Tryd.prog.info? 3).map (fun i => (i.zero, i.size, i.bytes)) = some (some (.int .i64 0), 1, 8) := by kernel_rfl
/-- The first n entries of a table, as values. -/
def tabs (l : List UInt8) (n : Nat) : List Value := (List.range n).map fun j => .int .i64 (tab l j)
theorem tabs_len (l : List UInt8) (n : Nat) : (tabs l n).length = n := by unfold tabs; rw [List.length_map, List.length_range]
theorem tabs_succ (l : List UInt8) (n : Nat) : tabs l (n + 1) = tabs l n ++ [.int .i64 (tab l n)] := by unfold tabs; rw [List.range_succ, List.map_append]; rfl
theorem tabs_at (l : List UInt8) (n j : Nat) (h : j < n) : (tabs l n)[j]? = some (.int .i64 (tab l j)) := by unfold tabs; rw [List.getElem?_map, List.getElem?_range h]; rfl
theorem grown_set (w : World) (a : Addr) (u : Value) : w.grownBy (w.setCell a u) (some a.block) :=
  ⟨rfl, rfl, rfl, by simp [World.setCell], fun k _ hne => Below.heap_setCell _ _ _ _ (fun e => hne (by rw [e]))⟩
theorem tab_owned {W : World} {g n c B : Nat} {l : List UInt8} {t : TypeId} (h : W.ownsRow B t 1 (.slice (some ⟨g, 0, none⟩) n c) n (tabs l n)) : TabAt W (some ⟨g, 0, none⟩) n l :=
  ⟨g, 0, fun _ => rfl, fun i hi => by rw [Nat.zero_add, h.cellAt i (by omega), tabs_at l n i hi]⟩
theorem cell_tabs {W : World} {g n c B i : Nat} {l : List UInt8} {t : TypeId} {u : Value} (h : W.ownsRow B t 1 (.slice (some ⟨g, 0, none⟩) (n + 1) c) (n + 1) (tabs l n ++ [u])) (hi : i < n) : W.cell? ⟨g, i, none⟩ = some (.int .i64 (tab l i)) := by
  rw [h.cellAt i (by omega), List.getElem?_append_left (by rw [tabs_len]; exact hi), tabs_at l n i hi]
theorem frozen_grown {w w' : World} {row : Option Nat} {p : Addr} {v : Value} {b : Bool} (hg : w.grownBy w' row) (h : w.cell? p = some v) (hf : w.frozen? p = b) (hr : some p.block ≠ row) : w'.frozen? p = b :=
  (World.frozen?_of_block (hg.block p.block (World.block_lt_of_cell? _ _ h) hr)).trans hf
theorem tab_owned4 {W : World} {g n c B r : Nat} {l : List UInt8} {t : TypeId} (h : W.ownsRow B t 1 (.slice (some ⟨g, 0, none⟩) (n + 1) c) (n + 1) (tabs l n ++ [.int .i64 (r : Int)])) (hr : tab l n = (r : Int)) : W.ownsRow B t 1 (.slice (some ⟨g, 0, none⟩) (n + 1) c) (n + 1) (tabs l (n + 1)) := by
  rw [tabs_succ, hr]; exact h
/-- append within the capacity, at a step of a region that draws its order. -/
theorem step_append_fits {P : Program} (w : World) {ops : Array Oper} {o : Oper} {a : Act} {K : Act → World → Prop} {Q : Exit → Act → World → Prop} {E : Prop} (hgd : o.guard = none) (s x : Operand) (t : TypeId)
    (hop : o.op = Op.call { callee := Callee.builtin Builtin.append, args := #[s, x], argTypes := #[t, t] })
    (base : Nat) (e : TypeId) (i : TypeInfo) (size : Nat) (h1 : P.underlying t = some (.slice e)) (h2 : P.info? e = some i) (h4 : i.size = size)
    (g k cap : Nat) (xs : List Value) (hs : a.eval s = .slice (some ⟨g, 0, none⟩) k cap) (hown : w.ownsRow base e size (.slice (some ⟨g, 0, none⟩) k cap) k xs) (ad : Addr) (m c : Nat) (news : List Value) (hx : a.eval x = .slice (some ad) m c) (hn : news.length = m * size)
    (hc : ∀ j u, news[j]? = some u → w.cell? (ad.add j) = some u) (h1c : ∀ u ∈ news, u.oneCell' = true) (b1 : k + m ≤ cap)
    (hK : ∀ w', w'.ownsRow base e size (.slice (some ⟨g, 0, none⟩) (k + m) cap) (k + m) (xs ++ news) → w.grownBy w' (some g) → K (a.put o.dst (.slice (some ⟨g, 0, none⟩) (k + m) cap)) w') :
    if Region.wanted o (yielded ops a.tmps) = true then Oper.wp P o a w K Q else E := by
  have hw : Region.wanted o (yielded ops a.tmps) = true := by simp [Region.wanted, hgd]
  rw [if_pos hw]
  obtain ⟨w', hrun, r1, r2⟩ := run_append_fits (P := P) w base t o.type e i size h1 h2 h4 g k cap xs hown ad m c news hn hc h1c b1
  unfold Oper.wp
  simp [execOp, hop, resolve, invoke, builtin, hs, hx, hrun, Result.andThen]
  exact hK w' r1 r2
/-- What borders lays in memory. -/
def BOut (w : World) (l : List UInt8) (e : Ending) (w' : World) : Prop :=
  ∃ g bw bt c, e = .returned (.tuple #[.slice (some ⟨g, 0, none⟩) (l.length + 1) c, .func (.func 85) #[] #[.pointer (some ⟨bw, 0, none⟩), .pointer (some ⟨bt, 0, none⟩)]]) ∧
    w'.cell? ⟨bw, 0, none⟩ = some (.string ⟨l.toArray⟩) ∧ w'.cell? ⟨bt, 0, none⟩ = some (.slice (some ⟨g, 0, none⟩) (l.length + 1) c) ∧ TabAt w' (some ⟨g, 0, none⟩) (l.length + 1) l ∧ Below w.heap.size w w'

set_option linter.unusedSimpArgs false
set_option maxRecDepth 100000 in
set_option maxHeartbeats 3200000 in
theorem borders_any (l : List UInt8) (w : World) (hl : l.length ≤ 1000000) :
    Calls Tryd.prog 52 #[.string ⟨l.toArray⟩] w (BOut w l) := by
  obtain ⟨i0, hi, hz0, hz1, hz2⟩ := info_parts Tryd.infoI64
  have hmk := fun W => run_make (P := Tryd.prog) W 37 3 i0 (.int .i64 0) Tryd.underlying37 hi hz0 .i64 .i64 1 ((l.length : Int) + 1) (by omega) (by omega) (by rw [hz2]; omega) (by omega)
  rw [hz1, show (((l.length : Int) + 1).toNat) = l.length + 1 by omega, show Int.toNat 1 = 1 from rfl, Nat.mul_one] at hmk
  go_enter Tryd.func52, Tryd.ntmps52
  have hm0 : (madeCells #[Value.int .i64 0] (l.length + 1))[0]? = some (.int .i64 0) := by rw [← Array.getElem?_toList, toList_madeCells_one]; simp
  go_wp2_with fail
  have hC1 : ((madeCells #[.int .i64 0] (l.length + 1)).setIfInBounds 0 (Value.int .i64 (-1))).size = l.length + 1 := by rw [Array.size_setIfInBounds, size_madeCells]
  have hC2 : ((madeCells #[.int .i64 0] (l.length + 1)).setIfInBounds 0 (Value.int .i64 (-1))).toList.take 1 = [.int .i64 (-1)] := by rw [Array.toList_setIfInBounds, toList_madeCells_one]; rfl
  generalize (madeCells #[.int .i64 0] (l.length + 1)).setIfInBounds 0 (Value.int .i64 (-1)) = C at *
  go_loopg [16] l.length (fun q s16 wx => ∃ i : Nat, i + q = l.length ∧ s16 = .int .i64 (i : Int) ∧ wx.cell? ⟨w.heap.size, 0, none⟩ = some (.string ⟨l.toArray⟩) ∧ wx.cell? ⟨w.heap.size + 1 + 1, 0, none⟩ = some (.slice (some ⟨w.heap.size + 1, 0, none⟩) (i + 1) (l.length + 1)) ∧
    wx.frozen? ⟨w.heap.size + 1 + 1, 0, none⟩ = false ∧ wx.ownsRow (w.heap.size + 1) 3 1 (.slice (some ⟨w.heap.size + 1, 0, none⟩) (i + 1) (l.length + 1)) (i + 1) (tabs l (i + 1)) ∧ Below w.heap.size w wx)
  case atStart =>
    have o1 : ((w.alloc (.cells #[.string ⟨l.toArray⟩] 9)).alloc (.cells C 3)).ownsRow (w.heap.size + 1) 3 1 (.slice (some ⟨w.heap.size + 1, 0, none⟩) 1 (l.length + 1)) 1 [.int .i64 (-1)] := by
      refine ⟨rfl, .inr ⟨w.heap.size + 1, l.length + 1, C, rfl, Nat.le_refl _, ?_, by omega, by unfold maxLen; omega, by omega, hC2⟩⟩
      have := heap_alloc_new (w.alloc (.cells #[.string ⟨l.toArray⟩] 9)) (.cells C 3)
      rwa [World.size_alloc] at this
    have o2 := o1.alloc (.cells #[.slice (some ⟨w.heap.size + 1, 0, none⟩) 1 (l.length + 1)] 37)
    refine ⟨0, by omega, rfl, ?_, ?_, ?_, o2, ?_⟩
    · simp [go_sem]
    · simp [go_sem]
    · simp [go_sem]
    · exact ((below1 w _).alloc (by simp) _).alloc (by simp; omega) _
  case round =>
    clear hmk hm0 hC1 hC2
    obtain ⟨i, hi', rfl, x0, x1, x2, HO, hb⟩ := hrel
    rcases gk with _ | q
    · obtain rfl : i = l.length := by omega
      go_wp2
      exact bodyPost_ret (v := .tuple #[.slice (some ⟨w.heap.size + 1, 0, none⟩) (l.length + 1) (l.length + 1), .func (.func 85) #[] #[.pointer (some ⟨w.heap.size, 0, none⟩), .pointer (some ⟨w.heap.size + 1 + 1, 0, none⟩)]]) (by simp [results, Tryd.results52, go_sem]) rfl ⟨_, _, _, _, rfl, x0, x1, tab_owned HO, hb⟩
    · have hil : i < l.length := by omega
      obtain ⟨d, hd⟩ : ∃ d, l[i]? = some d := ⟨_, List.getElem?_eq_getElem hil⟩
      have hix := run_at_bytes l i d hd (i : Int) rfl
      have hcell := (tab_owned HO)
      have hcell2 : wr.cell? ⟨w.heap.size + 1, i, none⟩ = some (.int .i64 (tab l i)) := by
        rw [HO.cellAt i (by omega), tabs_at l _ i (by omega)]
      have HOO := Lib.hid HO
      have HT := Lib.hid (tab_owned HO)
      have Hd := Lib.hid hd
      clear HO hcell hd
      go_wp2_with fail
      have y0 : wr.drew.cell? ⟨w.heap.size, 0, none⟩ = some (.string ⟨l.toArray⟩) := x0
      have y1 : wr.drew.cell? ⟨w.heap.size + 1 + 1, 0, none⟩ = some (.slice (some ⟨w.heap.size + 1, 0, none⟩) (i + 1) (l.length + 1)) := x1
      have y2 : wr.drew.frozen? ⟨w.heap.size + 1 + 1, 0, none⟩ = false := x2
      have y3 : wr.drew.cell? ⟨w.heap.size + 1, i, none⟩ = some (.int .i64 (tab l i)) := hcell2
      have YO : wr.drew.ownsRow (w.heap.size + 1) 3 1 (.slice (some ⟨w.heap.size + 1, 0, none⟩) (i + 1) (l.length + 1)) (i + 1) (tabs l (i + 1)) := HOO.out
      have YO' : ∀ o, (wr.alloc o).drew.ownsRow (w.heap.size + 1) 3 1 (.slice (some ⟨w.heap.size + 1, 0, none⟩) (i + 1) (l.length + 1)) (i + 1) (tabs l (i + 1)) := fun o => HOO.out.alloc o
      have YT : TabAt wr.drew (some ⟨w.heap.size + 1, 0, none⟩) (i + 1) l := HT.out
      have hb2 := hb.drew
      have hbs := hb2.size
      have HTl := tab_lt (w := l) (i := i) (by omega)
      have hsz : w.heap.size + 1 + 1 < wr.drew.heap.size := World.block_lt_of_cell? _ _ y1
      have Y := Lib.hid (And.intro y0 (And.intro y1 y3))
      have YA := fun u => Lib.hid (And.intro (cell_keep x0 (below1 wr (.cells #[u] 3)).drew) (And.intro (cell_keep x1 (below1 wr (.cells #[u] 3)).drew) (cell_keep hcell2 (below1 wr (.cells #[u] 3)).drew)))
      have YF := fun u => frozen_keep x1 x2 (below1 wr (.cells #[u] 3)).drew
      have j0 : (0 : Int) ≤ (i : Int) := by omega
      have j1 : (i : Int) < ((i + 1 : Nat) : Int) := by omega
      have j2 : (i : Int) < (i : Int) + 1 := by omega
      have HB := Lib.hid hb
      clear hcell2 HOO hb HT
      refine regionT (T := T2 12 12 (fun W => W.cell? ⟨w.heap.size, 0, none⟩ = some (.string ⟨l.toArray⟩) ∧ W.cell? ⟨w.heap.size + 1 + 1, 0, none⟩ = some (.slice (some ⟨w.heap.size + 1, 0, none⟩) (i + 1) (l.length + 1)) ∧ W.cell? ⟨w.heap.size + 1, i, none⟩ = some (.int .i64 (tab l i))) (fun W => W.cell? ⟨w.heap.size, 0, none⟩ = some (.string ⟨l.toArray⟩) ∧ W.cell? ⟨w.heap.size + 1 + 1, 0, none⟩ = some (.slice (some ⟨w.heap.size + 1, 0, none⟩) (i + 1) (l.length + 1)) ∧ W.cell? ⟨w.heap.size + 1, i, none⟩ = some (.int .i64 (tab l i)))) (by kernel_rfl) ?_
      have hR := Y.out
      refine take1 (i := 0) (v := ?_) rfl (by kernel_rfl) (by kernel_rfl) (by kernel_rfl) (by kernel_rfl) (by kernel_rfl) (by decide) (by decide) (fun _ _ _ h => h) (Or.inl ⟨by rfl, ?_⟩) hR hR ?_
      rotate_left
      · intro w hSw
        (try dsimp only at hSw)
        go_simp
        all_goals with_reducible rfl
      (try simp only [Act.put, List.setIfInBounds_toArray, List.set_cons_zero, List.set_cons_succ])
      refine take1 (i := 1) (v := ?_) rfl (by kernel_rfl) (by kernel_rfl) (by kernel_rfl) (by kernel_rfl) (by kernel_rfl) (by decide) (by decide) (fun _ _ _ h => h) (Or.inl ⟨by rfl, ?_⟩) hR hR ?_
      rotate_left
      · intro w hSw
        (try dsimp only at hSw)
        go_simp
        all_goals with_reducible rfl
      (try simp only [Act.put, List.setIfInBounds_toArray, List.set_cons_zero, List.set_cons_succ])
      refine take1 (i := 2) (v := ?_) rfl (by kernel_rfl) (by kernel_rfl) (by kernel_rfl) (by kernel_rfl) (by kernel_rfl) (by decide) (by decide) (fun _ _ _ h => h) (Or.inl ⟨by rfl, ?_⟩) hR hR ?_
      rotate_left
      · intro w hSw
        (try dsimp only at hSw)
        go_simp
        all_goals with_reducible rfl
      (try simp only [Act.put, List.setIfInBounds_toArray, List.set_cons_zero, List.set_cons_succ])
      refine take1 (i := 3) (v := ?_) rfl (by kernel_rfl) (by kernel_rfl) (by kernel_rfl) (by kernel_rfl) (by kernel_rfl) (by decide) (by decide) (fun _ _ _ h => h) (Or.inl ⟨by rfl, ?_⟩) hR hR ?_
      rotate_left
      · intro w hSw
        (try dsimp only at hSw)
        go_simp
        all_goals with_reducible rfl
      (try simp only [Act.put, List.setIfInBounds_toArray, List.set_cons_zero, List.set_cons_succ])
      refine take1 (i := 4) (v := ?_) rfl (by kernel_rfl) (by kernel_rfl) (by kernel_rfl) (by kernel_rfl) (by kernel_rfl) (by decide) (by decide) (fun _ _ _ h => h) (Or.inl ⟨by rfl, ?_⟩) hR hR ?_
      rotate_left
      · intro w hSw
        (try dsimp only at hSw)
        go_simp
        all_goals with_reducible rfl
      (try simp only [Act.put, List.setIfInBounds_toArray, List.set_cons_zero, List.set_cons_succ])
      refine take1 (i := 5) (v := ?_) rfl (by kernel_rfl) (by kernel_rfl) (by kernel_rfl) (by kernel_rfl) (by kernel_rfl) (by decide) (by decide) (fun _ _ _ h => h) (Or.inl ⟨by rfl, ?_⟩) hR hR ?_
      rotate_left
      · intro w hSw
        (try dsimp only at hSw)
        go_simp
        all_goals with_reducible rfl
      (try simp only [Act.put, List.setIfInBounds_toArray, List.set_cons_zero, List.set_cons_succ])
      refine take1 (i := 6) (v := ?_) rfl (by kernel_rfl) (by kernel_rfl) (by kernel_rfl) (by kernel_rfl) (by kernel_rfl) (by decide) (by decide) (fun _ _ _ h => h) (Or.inl ⟨by rfl, ?_⟩) hR hR ?_
      rotate_left
      · intro w hSw
        (try dsimp only at hSw)
        go_simp
        all_goals with_reducible rfl
      (try simp only [Act.put, List.setIfInBounds_toArray, List.set_cons_zero, List.set_cons_succ])
      refine take1 (i := 7) (v := ?_) rfl (by kernel_rfl) (by kernel_rfl) (by kernel_rfl) (by kernel_rfl) (by kernel_rfl) (by decide) (by decide) (fun _ _ _ h => h) (Or.inl ⟨by rfl, ?_⟩) hR hR ?_
      rotate_left
      · intro w hSw
        (try dsimp only at hSw)
        go_simp
        all_goals with_reducible rfl
      (try simp only [Act.put, List.setIfInBounds_toArray, List.set_cons_zero, List.set_cons_succ])
      refine take1 (i := 8) (v := ?_) rfl (by kernel_rfl) (by kernel_rfl) (by kernel_rfl) (by kernel_rfl) (by kernel_rfl) (by decide) (by decide) (fun _ _ _ h => h) (Or.inl ⟨by rfl, ?_⟩) hR hR ?_
      rotate_left
      · intro w hSw
        (try dsimp only at hSw)
        go_simp
        all_goals with_reducible rfl
      (try simp only [Act.put, List.setIfInBounds_toArray, List.set_cons_zero, List.set_cons_succ])
      refine stepT (i := 9) (by kernel_rfl) rfl (fun K hK => ?_)
      go_simp
      go_at_call 85
      refine (ext_any _ _ (i + 1) (l.length + 1) _ l (l.take i) (tab l i) d _ y0 y1 YT hl HTl.1 (by omega) (by omega) (fun m hm => tab_suf (by omega) hm)).mono ?_
      rintro e W3 ⟨⟨r, rfl, HE⟩, rfl⟩
      have HE := Lib.hid HE
      go_wp2_with fail
      refine hK.out _ _ ⟨fun _ => Y.out, fun _ => Y.out⟩ ?_
      clear hK K hR
      have hR := Y.out
      (try simp only [Act.put, List.setIfInBounds_toArray, List.set_cons_zero, List.set_cons_succ])
      refine stepT (i := 10) (by kernel_rfl) rfl (fun K hK => ?_)
      go_simp
      refine hK.out _ _ ⟨fun _ => (YA (.int .i64 (r : Int))).out, fun _ => (YA (.int .i64 (r : Int))).out⟩ ?_
      clear hK K hR
      have hR := (YA (.int .i64 (r : Int))).out
      (try simp only [Act.put, List.setIfInBounds_toArray, List.set_cons_zero, List.set_cons_succ])
      refine stepT (i := 11) (by kernel_rfl) rfl (fun K hK => ?_)
      refine step_append_fits _ (by rfl) _ _ 37 (by rfl) (w.heap.size + 1) 3 i0 1 Tryd.underlying37 hi hz1 (w.heap.size + 1) (i + 1) (l.length + 1) _ (by rfl) (YO' _) ⟨wr.heap.size, 0, none⟩ 1 1 [.int .i64 (r : Int)] (by rfl) (by rfl) (World.news_of_block (cs := #[.int .i64 (r : Int)]) (t := 3) (fr := (0, 0)) (heap_alloc_new wr _)) (by simp [Value.oneCell']) (by omega) ?_
      intro W4 hown4 hgrow4
      have G4 := Lib.hid (And.intro (hgrow4.cell (YA (.int .i64 (r : Int))).out.1 (by simp)) (And.intro (hgrow4.cell (YA (.int .i64 (r : Int))).out.2.1 (by simp)) (cell_tabs hown4 (Nat.lt_succ_self i))))
      have c4 := G4.out.2.1
      have f4 := frozen_grown hgrow4 (YA (.int .i64 (r : Int))).out.2.1 (YF (.int .i64 (r : Int))) (by simp)
      refine hK.out _ _ ⟨fun _ => G4.out, fun _ => G4.out⟩ ?_
      clear hK K hR
      have hR := G4.out
      (try simp only [Act.put, List.setIfInBounds_toArray, List.set_cons_zero, List.set_cons_succ])
      refine stepT (i := 12) (by kernel_rfl) rfl (fun K hK => ?_)
      go_simp
      refine hK.out _ _ ⟨fun h => absurd h (by decide), fun h => absurd h (by decide)⟩ ?_
      clear hK K
      (try simp only [Act.put, List.setIfInBounds_toArray, List.set_cons_zero, List.set_cons_succ])
      refine doneT (by kernel_rfl) ?_ _
      have hnext := tab_next Hd.out HE.out
      have o4 := (tab_owned4 hown4 hnext).kept (grown_set W4 ⟨w.heap.size + 1 + 1, 0, none⟩ (.slice (some ⟨w.heap.size + 1, 0, none⟩) (i + 1 + 1) (l.length + 1))) (Or.inr (by simp [Value.ownBlock]))
      have b4 : Below w.heap.size w W4 := ((HB.out.alloc HB.out.size (.cells #[.int .i64 (r : Int)] 3)).drew).grown hgrow4 (by rw [World.size_drew, World.size_alloc]; exact Nat.le_succ_of_le HB.out.size) (fun k hk => by injection hk with hk; omega)
      have Y0 := Lib.hid (show (W4.setCell ⟨w.heap.size + 1 + 1, 0, none⟩ (.slice (some ⟨w.heap.size + 1, 0, none⟩) (i + 1 + 1) (l.length + 1))).cell? ⟨w.heap.size, 0, none⟩ = some (.string ⟨l.toArray⟩) from by rw [World.cell?_setCell_far _ _ _ _ (by dsimp only; omega)]; exact G4.out.1)
      have Y1 := Lib.hid (World.cell?_setCell_same' W4 ⟨w.heap.size + 1 + 1, 0, none⟩ (.slice (some ⟨w.heap.size + 1, 0, none⟩) (i + 1 + 1) (l.length + 1)) (by rw [c4]; rfl))
      have Y2 := Lib.hid (show (W4.setCell ⟨w.heap.size + 1 + 1, 0, none⟩ (.slice (some ⟨w.heap.size + 1, 0, none⟩) (i + 1 + 1) (l.length + 1))).frozen? ⟨w.heap.size + 1 + 1, 0, none⟩ = false from by rw [World.frozen?_setCell]; exact f4)
      have Y4 := Lib.hid o4
      have Y5 := Lib.hid (b4.setCell (p := ⟨w.heap.size + 1 + 1, 0, none⟩) (by dsimp only; omega) (.slice (some ⟨w.heap.size + 1, 0, none⟩) (i + 1 + 1) (l.length + 1)))
      clear c4 f4 hown4 hgrow4 o4 b4 hnext hR G4
      generalize W4.setCell ⟨w.heap.size + 1 + 1, 0, none⟩ (.slice (some ⟨w.heap.size + 1, 0, none⟩) (i + 1 + 1) (l.length + 1)) = W5 at *
      go_wp2
      go_roundg q
      case measure => omega
      case rel => exact ⟨i + 1, by omega, by go_num, Y0.out, Y1.out, Y2.out, Y4.out, Y5.out⟩
end Go.Proofs.YtigdjlhihhakmaaDoor
