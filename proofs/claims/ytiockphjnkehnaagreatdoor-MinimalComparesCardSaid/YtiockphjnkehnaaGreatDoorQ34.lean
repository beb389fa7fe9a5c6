/- What grooveref10.reached returns: what is reached from a state. Conditions: at most 64 states, edges between states. What grooveref10.Of returns for a valid graph. What grooveref10.Of returns: the walk. -/
import Derived.Test.YtiockphjnkehnaaGreatDoorQ33

namespace Go.Proofs.YtiockphjnkehnaaGreatDoor
open Go.RowKit Go.Shelf
set_option linter.unusedSimpArgs false
set_option linter.unusedVariables false

theorem short_any {L : Int} {n : Nat} {es : List E3} (h : ∀ e ∈ es, okE L (n : Int) e = true) {s t : Nat} (hs : s < n) (ht : t < n) (hr : Rc es (s : Int) (t : Int)) : ∃ j, j ≤ n - 1 ∧ Pth es (s : Int) j (t : Int) := by
  obtain ⟨k, hk⟩ := hr
  refine stab (F := fun k x => ∃ j, j ≤ k ∧ Pth es (s : Int) j (x : Int)) ⟨s, hs, 0, Nat.le_refl _, .nil⟩ (fun k x ⟨j, h1, h2⟩ => ⟨j, by omega, h2⟩) (fun k hst x hx hF => ?_) k t ht ⟨k, Nat.le_refl _, hk⟩
  obtain ⟨j, hj, hp⟩ := hF
  by_cases hjk : j ≤ k + 1
  · exact ⟨j, hjk, hp⟩
  · obtain rfl : j = k + 2 := by omega
    generalize hx' : (x : Int) = x' at hp
    cases hp with
    | step h1 he =>
      obtain ⟨a1, a2, a3, a4⟩ := okE_st (h _ he)
      rw [a3] at h1
      obtain ⟨j', q1, q2⟩ := hst _ a1 ⟨k + 1, Nat.le_refl _, h1⟩
      exact ⟨j' + 1, by omega, .step (by rw [a3]; exact q2) he⟩
def SndF (es : List E3) (n s : Nat) (f : Nat → Bool) : Prop := ∀ t, t < n → f t = true → Rc es (s : Int) (t : Int)
def CmpF (es : List E3) (n s k : Nat) (f : Nat → Bool) : Prop := ∀ t, t < n → ∀ j, j ≤ k → Pth es (s : Int) j (t : Int) → f t = true
def NxtF (es : List E3) (s k : Nat) (P : List E3) (f : Nat → Bool) : Prop := ∀ e ∈ P, ∀ j, j ≤ k → Pth es (s : Int) j e.1 → f e.2.2.toNat = true
structure RS (w : World) (La : Int) (n : Nat) (v : Value) (f : Nat → Bool) (X : World) : Prop where
  g : BoxG X w.heap.size La (n : Int) v
  b : Below w.heap.size w X
  r : BRow X (w.heap.size + 1) n f
section
variable {w X Y : World} {La : Int} {n : Nat} {v : Value} {f : Nat → Bool}
theorem RS.set (h : RS w La n v f X) (t : Nat) (x : Bool) : RS w La n v (fun j => if j = t then x else f j) (X.setCell ⟨w.heap.size + 1, t, none⟩ (.bool x)) :=
  ⟨boxG_other h.g (by show w.heap.size + 1 ≠ _; omega) _, h.b.setCell (by show _ ≤ w.heap.size + 1; omega) _, h.r.set t x⟩
end
set_option maxRecDepth 100000 in
set_option maxHeartbeats 6400000 in
theorem reachedM_any (La : Int) (n : Nat) (es : List E3) (v : Value) (s : Nat) (w : World) (hrd : EdgesRd w v es) (hn : n ≤ 64) (hok : ∀ e ∈ es, okE La (n : Int) e = true) (hlen : es.length ≤ 1024) (hs : s < n) :
    Calls Tryz.prog 84 #[grV La (n : Int) v, .int .i64 (s : Int)] w fun e w' => ∃ b, e = .returned (.slice (some ⟨b, 0, none⟩) n n) ∧ BRow w' b n (rb es n s) ∧ w.heap.size < b ∧ Below w.heap.size w w' := by
  obtain ⟨i0, hi, hz0, hz1, hz2⟩ := info_parts Tryz.infoBool
  have HMB := make_bools n (by omega)
  have HRD := Lib.hid hrd
  have HOK := Lib.hid hok
  obtain ⟨a, c, rfl⟩ := hrd.form
  have b1 := below1 w (.cells #[.int .i64 La, .int .i64 (n : Int), .slice a es.length c] 24)
  have g1 := BoxG.new w La (n : Int) (.slice a es.length c) 24
  obtain ⟨W2, HW2⟩ : ∃ W2, W2 = (w.alloc (.cells #[.int .i64 La, .int .i64 (n : Int), .slice a es.length c] 24)).alloc (.cells (madeCells #[.bool false] n) 4) := ⟨_, rfl⟩
  have j1 : (s : Int) < (n : Int) := by omega
  have k2 := below1 (w.alloc (.cells #[.int .i64 La, .int .i64 (n : Int), .slice a es.length c] 24)) (.cells (madeCells #[.bool false] n) 4)
  have R1 : BRow W2 (w.heap.size + 1) n (fun _ => false) := by
    have R := BRow.made (w.alloc (.cells #[.int .i64 La, .int .i64 (n : Int), .slice a es.length c] 24)) n
    rw [World.size_alloc] at R
    rw [HW2]; exact R
  have g2 : BoxG W2 w.heap.size La (n : Int) (.slice a es.length c) := HW2 ▸ g1.keep k2
  have b2 : Below w.heap.size w W2 := HW2 ▸ below_more b1 (Nat.le_refl _) k2
  have T2 := Lib.hid (RS.set ⟨g2, b2, R1⟩ s true)
  have HR1 := Lib.hid R1
  obtain ⟨x1, x2, x3⟩ := id g1
  have H1 := Lib.hid (show SndF es n s (fun j => if j = s then true else false) from fun t ht h => by
    by_cases e : t = s
    · subst e; exact Rc.refl _ _
    · dsimp only at h; rw [if_neg e] at h; cases h)
  have H2 := Lib.hid (show CmpF es n s 0 (fun j => if j = s then true else false) from fun t ht j hj hp => by
    obtain rfl : j = 0 := by omega
    generalize hx' : (t : Int) = t' at hp
    cases hp with
    | nil => obtain rfl : t = s := by omega
             exact if_pos rfl)
  clear hrd hok b1 g1 R1 b2 g2 k2
  go_enter Tryz.func84, Tryz.ntmps84
  go_upto_region 2 with fail
  rw [← HW2]
  clear x1 x2 x3 HW2
  have c1 := World.rowIs.cell HR1.out hs
  have f1 := World.rowIs.frozen HR1.out s
  go_wp2_with fail
  clear c1 f1 HR1
  generalize W2.setCell ⟨w.heap.size + 1, s, none⟩ (.bool true) = W0 at *
  go_loopg [6] n (fun q s6 wx => ∃ (k : Nat) (f : Nat → Bool), k + q = n ∧ s6 = .int .i64 (k : Int) ∧ Hid (RS w La n (.slice a es.length c) f wx) ∧ Hid (SndF es n s f) ∧ Hid (CmpF es n s k f))
  case atStart => exact ⟨0, _, by omega, rfl, T2, H1, H2⟩
  case round =>
    clear T2 H1 H2
    obtain ⟨k, f, hkn, rfl, HT, HS, HC⟩ := hrel
    obtain ⟨x1, x2, x3⟩ := id HT.out.g
    rcases gk with _ | q
    · obtain rfl : n = k := by omega
      have HE := Lib.hid (HT.out.r.congr (g := rb es n s) (fun t ht => by
        rw [Bool.eq_iff_iff]
        constructor
        · intro h; exact (rb_iff HOK.out hs ht).2 (HS.out t ht h)
        · intro h
          obtain ⟨j, hj, hp⟩ := short_any HOK.out hs ht ((rb_iff HOK.out hs ht).1 h)
          exact HC.out t ht j (by omega) hp))
      go_wp2_with fail
      go_ret
      exact ⟨_, rfl, HE.out, by omega, HT.out.b⟩
    · have j2 : (k : Int) < (n : Int) := by omega
      have HN := Lib.hid (show NxtF es s k (es.take 0) f from fun e he => by cases he)
      go_wp2_with fail
      clear x1 x2 x3
      go_loopg [7] es.length (fun q2 s7 wx => ∃ (i : Nat) (f : Nat → Bool), i + q2 = es.length ∧ s7 = .int .i64 (i : Int) ∧ Hid (RS w La n (.slice a es.length c) f wx) ∧ Hid (SndF es n s f) ∧ Hid (CmpF es n s k f) ∧ Hid (NxtF es s k (es.take i) f))
      case atStart => exact ⟨0, f, by omega, rfl, HT, HS, HC, HN⟩
      case round =>
        clear HT HS HC HN
        obtain ⟨i, f, hin, rfl, HT, HS, HC, HN⟩ := hrel
        obtain ⟨x1, x2, x3⟩ := id HT.out.g
        rcases gk with _ | q2
        · obtain rfl : i = es.length := by omega
          have HC2 := Lib.hid (show CmpF es n s (k + 1) f from fun t ht j hj hp => by
            by_cases hjk : j ≤ k
            · exact HC.out t ht j hjk hp
            · obtain rfl : j = k + 1 := by omega
              generalize hx' : (t : Int) = t' at hp
              cases hp with
              | step h1 he =>
                rename_i e
                have h3 := HN.out e (by rw [List.take_length]; exact he) k (Nat.le_refl _) h1
                rwa [show e.2.2.toNat = t by omega] at h3)
          go_wp2_with fail
          go_roundg q
          case measure => omega
          case rel => exact ⟨k + 1, f, by omega, by go_num, HT, HS, HC2⟩
        · obtain ⟨e, he⟩ : ∃ e, es[i]? = some e := ⟨_, List.getElem?_eq_getElem (by omega)⟩
          have hem := List.mem_of_getElem? he
          have hek := okE_st (HOK.out e hem)
          obtain ⟨bb, off, c', hv, k1, k2, k3⟩ := (HRD.out.keep HT.out.b).at he
          injection hv with e1 e2 e3
          subst e1
          subst e3
          have HTK := Lib.hid (take_snoc he)
          have HED := Lib.hid (Rc.edge hem)
          obtain ⟨x, y, z⟩ := e
          dsimp only at hek k1 k2 k3
          obtain ⟨hx, hz, hx1, hz1⟩ := hek
          obtain ⟨x', hx'⟩ : ∃ x', x.toNat = x' := ⟨_, rfl⟩
          obtain ⟨z', hz'⟩ : ∃ z', z.toNat = z' := ⟨_, rfl⟩
          rw [hx'] at hx hx1
          rw [hz'] at hz hz1
          subst hx1
          subst hz1
          have j3 : (i : Int) < (es.length : Int) := by omega
          have j4 : (x' : Int) < (n : Int) := by omega
          have j5 : (z' : Int) < (n : Int) := by omega
          have c1 := World.rowIs.cell HT.out.r hx
          have c2 := World.rowIs.cell HT.out.r hz
          have f2 := World.rowIs.frozen HT.out.r z'
          clear he hem e2 hx' hz'
          cases hb : f x' with
          | false =>
            rw [hb] at c1
            have HN2 := Lib.hid (show NxtF es s k (es.take (i + 1)) f from fun e he j hj hp => by
              rw [HTK.out] at he
              rcases List.mem_append.1 he with h | h
              · exact HN.out e h j hj hp
              · obtain rfl := List.mem_singleton.1 h
                have := HC.out x' hx j hj hp
                rw [hb] at this; cases this)
            clear hb HN
            go_wp2_with fail
            go_roundg q2
            case measure => omega
            case rel => exact ⟨i + 1, f, by omega, by go_num, HT, HS, HC, HN2⟩
          | true =>
            rw [hb] at c1
            have HT2 := Lib.hid (HT.out.set z' true)
            have hmono : ∀ t, f t = true → (fun j => if j = z' then true else f j) t = true := fun t h => by
              dsimp only
              by_cases e : t = z'
              · rw [if_pos e]
              · rw [if_neg e]; exact h
            have HS2 := Lib.hid (show SndF es n s (fun j => if j = z' then true else f j) from fun t ht h => by
              by_cases e : t = z'
              · subst e; exact (HS.out x' hx hb).trans HED.out
              · dsimp only at h; rw [if_neg e] at h; exact HS.out t ht h)
            have HC2 := Lib.hid (show CmpF es n s k (fun j => if j = z' then true else f j) from fun t ht j hj hp => hmono t (HC.out t ht j hj hp))
            have HN2 := Lib.hid (show NxtF es s k (es.take (i + 1)) (fun j => if j = z' then true else f j) from fun e he j hj hp => by
              rw [HTK.out] at he
              rcases List.mem_append.1 he with h | h
              · exact hmono _ (HN.out e h j hj hp)
              · obtain rfl := List.mem_singleton.1 h
                exact if_pos (Int.toNat_natCast z'))
            clear hb HN HT HS HC hmono
            go_wp2_with fail
            go_roundg q2
            case measure => omega
            case rel => exact ⟨i + 1, _, by omega, by go_num, HT2, HS2, HC2, HN2⟩
end Go.Proofs.YtiockphjnkehnaaGreatDoor

namespace Go.Proofs.YtiockphjnkehnaaGreatDoor
open Go.RowKit Go.Shelf
set_option linter.unusedSimpArgs false
set_option linter.unusedVariables false

def frst (es : List E3) (n s t : Nat) : Bool := (List.range t).all fun x => !compB es n s x || decide (s ≤ x)
theorem frst_step (es : List E3) (n s t : Nat) : frst es n s (t + 1) = (frst es n s t && (!compB es n s t || decide (s ≤ t))) := by
  unfold frst; rw [List.range_succ, List.all_append]; simp
theorem frst_all {es : List E3} {n s : Nat} (hs : s < n) : frst es n s n = repB es n s := by
  unfold frst repB
  rw [Bool.eq_iff_iff, List.all_eq_true, Bool.not_eq_true', List.any_eq_false]
  constructor
  · intro h r hr
    have hrs := List.mem_range.1 hr
    have h1 := h r (List.mem_range.2 (by omega))
    rw [decide_eq_false (by omega), Bool.or_false, compB_symm] at h1
    intro h2
    rw [h2] at h1; cases h1
  · intro h x hx
    by_cases hxs : s ≤ x
    · rw [decide_eq_true hxs, Bool.or_true]
    · have := h x (List.mem_range.2 (by omega))
      rw [compB_symm]
      cases h2 : compB es n x s with
      | false => rfl
      | true => exact absurd h2 this
structure RB (w : World) (La : Int) (n : Nat) (v : Value) (es : List E3) (u : Value) (us : List Value) (X : World) : Prop where
  g : BoxG X w.heap.size La (n : Int) v
  b : Below w.heap.size w X
  o : X.ownsRow (w.heap.size + 1) 108 1 u us.length us
  e : ∀ (j : Nat) (u' : Value), us[j]? = some u' → ∃ bb, u' = .slice (some ⟨bb, 0, none⟩) n n ∧ BRow X bb n (rb es n j)
structure MO (W5 : World) (rows : List (List Int)) (u : Value) (os : List Value) (X : World) : Prop where
  b : Below W5.heap.size W5 X
  o : X.ownsRow W5.heap.size 30 1 u os.length os
  l : os.length = rows.length
  e : ∀ (j : Nat) (u' : Value) (r : List Int), os[j]? = some u' → rows[j]? = some r → IntsAt X W5.heap.size u' r
section
variable {w W5 X Y : World} {La : Int} {n : Nat} {es : List E3} {u u' v : Value} {us os : List Value} {rows : List (List Int)} {r : List Int}
theorem RB.keep (h : RB w La n v es u us X) (hb : Below X.heap.size X Y) : RB w La n v es u us Y :=
  ⟨h.g.keep hb, below_more h.b (Nat.le_refl _) hb, World.ownsRow.kept h.o (grown_none hb) (by cases u.ownBlock <;> simp), fun j u' hj => by
    obtain ⟨bb, h1, h2⟩ := h.e j u' hj
    exact ⟨bb, h1, h2.keep hb⟩⟩
theorem brow_types {A g : Nat} {f : Nat → Bool} {v1 : Value} {k : Nat} {xs : List Value} (h1 : BRow X g n f) (h2 : X.ownsRow A 108 1 v1 k xs) : v1.ownBlock ≠ some g := by
  rcases h2.2 with ⟨rfl, -⟩ | ⟨g2, c2, q2, rfl, -, p2, -⟩
  · simp [Value.ownBlock]
  · intro e
    simp [Value.ownBlock] at e
    subst e
    obtain ⟨cs, hc, -⟩ := h1
    rw [p2] at hc
    injection hc with hc
    injection hc with _ hc
    exact absurd hc (by decide)
theorem RB.app (h : RB w La n v es u us X) {o : Obj} {bb : Nat} {u2 : Value} (hu : BRow X bb n (rb es n us.length)) (hg : (X.alloc o).grownBy Y u.ownBlock) (ho : Y.ownsRow (w.heap.size + 1) 108 1 u2 (us.length + 1) (us ++ [.slice (some ⟨bb, 0, none⟩) n n])) : RB w La n v es u2 (us ++ [.slice (some ⟨bb, 0, none⟩) n n]) Y := by
  have hlt := h.o.lt
  have hw : w.heap.size < X.heap.size := World.block_lt_of_cell? _ ⟨w.heap.size, 0, none⟩ h.g.1
  have hblk : ∀ q, q < X.heap.size → u.ownBlock ≠ some q → Y.heap[q]? = X.heap[q]? := fun q hq hne => (hg.block q (by rw [World.size_alloc]; omega) (fun e => hne e.symm)).trans (Below.heap_alloc _ _ _ hq)
  have hk : ∀ {g : Nat} {f : Nat → Bool}, BRow X g n f → BRow Y g n f := fun {g f} hz => World.rowIs.of_block hz (hblk g (World.rowIs.lt hz) (brow_types hz h.o))
  have hwne : u.ownBlock ≠ some w.heap.size := fun e => by have := (hlt _ e).1; omega
  have e := hblk w.heap.size hw hwne
  refine ⟨⟨(World.cell?_of_block (a := ⟨w.heap.size, 0, none⟩) e).trans h.g.1, (World.cell?_of_block (a := ⟨w.heap.size, 1, none⟩) e).trans h.g.2.1, (World.cell?_of_block (a := ⟨w.heap.size, 2, none⟩) e).trans h.g.2.2⟩,
    Below.grown (h.b.alloc h.b.size o) hg (by rw [World.size_alloc]; have := h.b.size; omega) (fun q e => by have := (hlt q e).1; omega), by rw [List.length_append]; exact ho, fun j z hj => ?_⟩
  by_cases hjl : j < us.length
  · rw [List.getElem?_append_left hjl] at hj
    obtain ⟨b2, q1, q2⟩ := h.e j z hj
    exact ⟨b2, q1, hk q2⟩
  · rw [List.getElem?_append_right (by omega)] at hj
    have e0 : j - us.length = 0 := by have := (List.getElem?_eq_some_iff.1 hj).1; simp at this; omega
    rw [e0] at hj
    simp at hj
    subst hj
    obtain rfl : j = us.length := by omega
    exact ⟨bb, rfl, hk hu⟩
theorem MO.keep (h : MO W5 rows u os X) (hb : Below X.heap.size X Y) : MO W5 rows u os Y :=
  ⟨below_more h.b (Nat.le_refl _) hb, World.ownsRow.kept h.o (grown_none hb) (by cases u.ownBlock <;> simp), h.l, fun j u' r hj hr => (h.e j u' r hj hr).keep hb⟩
theorem MO.app (h : MO W5 rows u os X) {o : Obj} {u2 : Value} (hu : IntsAt X W5.heap.size u' r) (hg : (X.alloc o).grownBy Y u.ownBlock) (ho : Y.ownsRow W5.heap.size 30 1 u2 (os.length + 1) (os ++ [u'])) : MO W5 (rows ++ [r]) u2 (os ++ [u']) Y := by
  have hlt := h.o.lt
  have hsz := h.b.size
  have hk : ∀ {z : Value} {l : List Int}, IntsAt X W5.heap.size z l → IntsAt Y W5.heap.size z l := fun hz => World.ownsRow.kept (hz.keep (below1 X o)) hg (row_types hz h.o (by decide))
  refine ⟨Below.grown (h.b.alloc h.b.size o) hg (by rw [World.size_alloc]; omega) (fun q e => by have := (hlt q e).1; omega), by rw [List.length_append]; exact ho, by rw [List.length_append, List.length_append, h.l]; rfl, fun j z c hj hc => ?_⟩
  by_cases hjl : j < os.length
  · rw [List.getElem?_append_left hjl] at hj
    rw [List.getElem?_append_left (by rw [← h.l]; exact hjl)] at hc
    exact hk (h.e j z c hj hc)
  · rw [List.getElem?_append_right (by omega)] at hj
    rw [List.getElem?_append_right (by rw [← h.l]; omega)] at hc
    have e0 : j - os.length = 0 := by have := (List.getElem?_eq_some_iff.1 hj).1; simp at this; omega
    rw [e0] at hj
    rw [← h.l, e0] at hc
    simp at hj hc
    subst hj hc
    exact hk hu
theorem MO.rd (h : MO W5 rows u os X) : RowsRd X u rows := by
  rcases Nat.eq_zero_or_pos rows.length with h0 | h0
  · obtain rfl : rows = [] := List.eq_nil_of_length_eq_zero h0
    obtain ⟨a, c, hv⟩ := own_slice h.o
    rw [h.l] at hv
    exact ⟨a, c, hv, fun i r hr => by simp at hr⟩
  · have ho := h.o
    obtain ⟨g, c, hv, -, -⟩ := World.ownsRow.form ho (by rw [h.l]; exact h0)
    subst hv
    refine ⟨some ⟨g, 0, none⟩, c, by rw [h.l], fun i r hr => ?_⟩
    have hi : i < os.length := by rw [h.l]; exact (List.getElem?_eq_some_iff.1 hr).1
    obtain ⟨u', hu'⟩ : ∃ u', os[i]? = some u' := ⟨_, List.getElem?_eq_getElem hi⟩
    refine ⟨g, 0, u', rfl, ?_, (h.e i u' r hu' hr).rd⟩
    rw [Nat.zero_add, World.ownsRow.cellAt ho i (by omega), hu']
end
end Go.Proofs.YtiockphjnkehnaaGreatDoor

namespace Go.Proofs.YtiockphjnkehnaaGreatDoor
open Go.RowKit Go.Shelf
set_option linter.unusedSimpArgs false
set_option linter.unusedVariables false

theorem Tryz.infoRowB : (Tryz.prog.info? 108).map (fun i => (i.zero, i.size, i.bytes)) = some (some (.slice none 0 0), 1, 24) := by kernel_rfl
def ROut (w : World) (rows : List (List Int)) (k : Int) (e : Ending) (w' : World) : Prop := ∃ v, e = .returned (.tuple #[v, .int .i64 k]) ∧ RowsRd w' v rows ∧ Below w.heap.size w w'
theorem emptyLit (W : World) (t : TypeId) : (W.alloc (.cells #[] t)).ownsRow W.heap.size t 1 (.slice (some ⟨W.heap.size, 0, none⟩) 0 0) 0 [] :=
  ⟨rfl, .inr ⟨W.heap.size, 0, #[], rfl, Nat.le_refl _, World.alloc_heap_new W _, Nat.le_refl 0, by decide, rfl, rfl⟩⟩
set_option maxRecDepth 100000 in
set_option maxHeartbeats 12800000 in
theorem refOf_good (La : Int) (n : Nat) (es : List E3) (v : Value) (w : World) (hrd : EdgesRd w v es) (hvg : VG La (n : Int) es) :
    Calls Tryz.prog 53 #[grV La (n : Int) v] w (ROut w (comps es n) 0) := by
  have hlen := hvg.len
  have hn64 : n ≤ 64 := by have := hvg.s2; omega
  obtain ⟨iB, hi, hz0, hz1, hz2⟩ := info_parts Tryz.infoRowB
  obtain ⟨iR, ri, rz0, rz1, rz2⟩ := info_parts Tryz.infoRow
  obtain ⟨iI, ii, iz0, iz1, iz2⟩ := info_parts Tryz.infoI64
  have HCK := Lib.hid (show ∀ W, EdgesRd W v es → Calls Tryz.prog 23 #[grV La (n : Int) v] W fun e w' => e = .returned (.int .i64 0) ∧ Below W.heap.size W w' from fun W h => by
    have q := rcheck_any La (n : Int) es v W h (by omega)
    rwa [hvg.chk] at q)
  have HRE := Lib.hid (fun (s : Nat) W (h : EdgesRd W v es) (hs : s < n) => reachedM_any La n es v s W h hn64 hvg.ok hlen hs)
  have HOK := Lib.hid hvg.ok
  have b1 := below1 w (.cells #[.int .i64 La, .int .i64 (n : Int), v] 24)
  have G1 := Lib.hid (BoxG.new w La (n : Int) v 24)
  have HB := Lib.hid b1
  have HRD := Lib.hid hrd
  obtain ⟨a, c, rfl⟩ := hrd.form
  obtain ⟨x1, x2, x3⟩ := id G1.out
  clear hrd hvg b1
  go_enter Tryz.func53, Tryz.ntmps53
  go_wp2_with (go_at_call 23; (with_reducible refine (HCK.out _ (HRD.out.keep HB.out)).mono ?_); rintro e W2 ⟨rfl, b2⟩; (have B2 := Lib.hid (below_more HB.out (Nat.le_refl _) b2)); (have G2 := Lib.hid (G1.out.keep b2)); clear b2 x1 x2 x3)
  have hw2 : w.heap.size < W2.heap.size := World.block_lt_of_cell? _ ⟨w.heap.size, 0, none⟩ G2.out.1
  have H0 : RB w La n (.slice a es.length c) es (.slice (some ⟨W2.heap.size, 0, none⟩) 0 0) [] (W2.alloc (.cells #[] 108)) :=
    ⟨G2.out.keep (below1 _ _), below_more B2.out (Nat.le_refl _) (below1 _ _), own_low (emptyLit W2 108) (by omega), fun j u' hj => by simp at hj⟩
  have HH0 := Lib.hid H0
  clear HB B2 G1 G2 HCK H0
  generalize W2.alloc (.cells #[] 108) = W3 at *
  go_loopg [4, 5] n (fun q s4 s5 wx => ∃ (s : Nat) (us : List Value) (u : Value), s + q = n ∧ s4 = u ∧ s5 = .int .i64 (s : Int) ∧ us.length = s ∧ Hid (RB w La n (.slice a es.length c) es u us wx))
  case atStart => exact ⟨0, [], _, by omega, rfl, rfl, rfl, HH0⟩
  case round =>
    clear HH0
    obtain ⟨s, us, u, hsn, hu4, rfl, hus, HM⟩ := hrel
    obtain ⟨au, cu, hu⟩ := own_slice HM.out.o
    rw [hus] at hu
    subst hu
    subst hu4
    obtain ⟨x1, x2, x3⟩ := id HM.out.g
    rcases gk with _ | q
    · obtain rfl : n = s := by omega
      go_wp2_with fail
      clear x1 x2 x3
      have hszw := HM.out.b.size
      have HGX := Lib.hid (fun X (h : Below wr.heap.size wr X) => HM.out.g.keep h)
      have HBX := Lib.hid (fun X (h : Below wr.heap.size wr X) => below_more HM.out.b (Nat.le_refl _) h)
      have HU := Lib.hid (show ∀ s, s < n → ∃ g4 bb, (Value.slice au n cu = .slice (some ⟨g4, 0, none⟩) n cu) ∧ wr.cell? ⟨g4, s, none⟩ = some (.slice (some ⟨bb, 0, none⟩) n n) ∧ BRow wr bb n (rb es n s) from fun s hs => by
        have ho := HM.out.o
        rw [hus] at ho
        obtain ⟨g4, c4, hv, -, -⟩ := World.ownsRow.form ho (by omega)
        injection hv with q1 q2 q3
        obtain ⟨u', hu'⟩ : ∃ u', us[s]? = some u' := ⟨_, List.getElem?_eq_getElem (by omega)⟩
        obtain ⟨bb, rfl, hb⟩ := HM.out.e s u' hu'
        subst q1
        refine ⟨g4, bb, rfl, ?_, hb⟩
        rw [World.ownsRow.cellAt ho s (by omega), hu'])
      have HM0 := Lib.hid (show MO wr ((repsK es n 0).map (compF es n)) (.slice (some ⟨wr.heap.size, 0, none⟩) 0 0) [] (wr.alloc (.cells #[] 30)) from ⟨below1 wr _, emptyLit wr _, rfl, fun j u' r hj hr => by simp at hj⟩)
      clear HM hus
      generalize wr.alloc (.cells #[] 30) = W6 at *
      go_loopg [6, 7] n (fun q s6 s7 wx => ∃ (s : Nat) (os : List Value) (uo : Value), s + q = n ∧ s6 = uo ∧ s7 = .int .i64 (s : Int) ∧ Hid (MO wr ((repsK es n s).map (compF es n)) uo os wx))
      case atStart => exact ⟨0, [], _, by omega, rfl, rfl, HM0⟩
      case round =>
        clear HM0
        obtain ⟨s, os, uo, hsn, hu6, rfl, HO⟩ := hrel
        obtain ⟨ao, co, huo⟩ := own_slice HO.out.o
        subst huo
        subst hu6
        obtain ⟨x1, x2, x3⟩ := id (HGX.out _ HO.out.b)
        rcases gk with _ | q
        · obtain rfl : n = s := by omega
          have HFIN := Lib.hid (HO.out.rd)
          have HBF := Lib.hid (HBX.out _ HO.out.b)
          have hl := HO.out.l
          rw [hl] at HFIN ⊢
          go_wp2_with fail
          exact bodyPost_ret (v := .tuple #[.slice ao ((repsK es n n).map (compF es n)).length co, .int .i64 0]) (by simp [results, Tryz.results53, go_sem]) rfl ⟨_, rfl, HFIN.out, HBF.out⟩
        · have hs : s < n := by omega
          have j1 : (s : Int) < (n : Int) := by omega
          obtain ⟨g4, bs, hv4, ks, rs⟩ := HU.out s hs
          injection hv4 with q1 q2 q3
          subst q1
          have KS := Lib.hid (fun X (h : Below wr.heap.size wr X) => cell_keep (cell_keep ks HO.out.b) h)
          have RSS := Lib.hid (fun X (h : Below wr.heap.size wr X) => (rs.keep HO.out.b).keep h)
          have HOK2 := Lib.hid (fun X (h : Below wr.heap.size wr X) => HO.out.keep h)
          have HB6 := Lib.hid (fun X (h : Below wr.heap.size wr X) => below_more HO.out.b (Nat.le_refl _) h)
          have hszo := HO.out.b.size
          have I0 := Lib.hid (show IntsAt (wr.alloc (.cells #[] 3)) wr.heap.size (.slice (some ⟨wr.heap.size, 0, none⟩) 0 0) (mems 0 (compB es n s)) from emptyLit wr 3)
          have B0 := Lib.hid (below1 wr (.cells #[] 3))
          clear q2 q3 ks rs HO
          go_wp2_with fail
          clear x1 x2 x3
          have F0 := Lib.hid (show frst es n s 0 = true from rfl)
          generalize wr.alloc (.cells #[] 3) = W7 at *
          go_loopg [8, 9, 10] n (fun q3 s8 s9 s10 wx => ∃ (t : Nat) (uc : Value) (F : Bool), t + q3 = n ∧ s8 = uc ∧ s9 = .bool F ∧ s10 = .int .i64 (t : Int) ∧ Hid (frst es n s t = F) ∧ Hid (Below wr.heap.size wr wx) ∧ Hid (IntsAt wx wr.heap.size uc (mems t (compB es n s))))
          case atStart => exact ⟨0, _, true, by omega, rfl, rfl, rfl, F0, B0, I0⟩
          case round =>
            clear B0 I0 F0
            obtain ⟨t, uc, F, htn, hu8, rfl, rfl, HF, HW, HI⟩ := hrel
            obtain ⟨x1, x2, x3⟩ := id (HGX.out _ (HB6.out _ HW.out))
            obtain ⟨ac, cc, huc⟩ := own_slice HI.out
            have hml := mems_len t (compB es n s)
            rcases gk with _ | q3
            · obtain rfl : n = t := by omega
              have HO := Lib.hid (HOK2.out _ HW.out)
              have HF2 := Lib.hid ((HF.out.symm.trans (frst_all hs)).symm)
              have hrs := repsK_step es n s
              have IC := Lib.hid (show IntsAt wr _ uc (compF es n s) from own_low HI.out hszo)
              have hol := HO.out.o
              obtain ⟨ml, hml2⟩ : ∃ ml, (mems n (compB es n s)).length = ml := ⟨_, rfl⟩
              rw [hml2] at huc
              subst huc
              subst hu8
              rw [HF2.out] at hrs
              have hol2 := HO.out.l
              have hrl := reps_len es n s
              rw [List.length_map] at hol2
              have hszr := HW.out.size
              obtain ⟨no, hno⟩ : ∃ no, os.length = no := ⟨_, rfl⟩
              have HNO := Lib.hid hno
              rw [hno] at hol hol2 ⊢
              cases F with
              | false =>
                have HO2 := Lib.hid (show MO _ ((repsK es n (s + 1)).map (compF es n)) (.slice ao no co) os wr by rw [hrs, if_neg (by decide), ← hno]; exact HO.out)
                clear hno hrs
                go_wp2_with fail
                go_roundg q
                case measure => omega
                case rel => exact ⟨s + 1, _, _, by omega, rfl, by go_num, HO2⟩
              | true =>
                have HRS := Lib.hid (show (repsK es n (s + 1)).map (compF es n) = (repsK es n s).map (compF es n) ++ [compF es n s] by rw [hrs, if_pos rfl, List.map_append]; rfl)
                rw [hno] at HO
                clear hno hrs
                go_wp2_with (at_builtin; refine wpList_append_own_at _ rfl _ _ 45 rfl _ 30 iR (.slice none 0 0) 1 24 Tryz.underlying45 ri rz0 rz1 rz2 rfl (by decide) _ _ _ rfl (hol.alloc _) ⟨wr.heap.size, 0, none⟩ 1 1 [.slice ac ml cc] rfl rfl (cell_one_new _ _ _) (by intro u hu; simp at hu; subst hu; rfl) (by unfold maxLen; omega) (by omega) (by rw [World.size_alloc]; omega) ?_; intro v' w4 hown4 hgrow4 _ _; (have H4 := Lib.hid (HO.out.app IC.out hgrow4 (by rw [HNO.out]; exact hown4))); clear hown4 hgrow4)
                go_roundg q
                case measure => omega
                case rel => exact ⟨s + 1, _, _, by omega, rfl, by go_num, by rw [HRS.out]; exact H4⟩
            · have ht : t < n := by omega
              have j2 : (t : Int) < (n : Int) := by omega
              obtain ⟨g4', bt, hv4, kt, rt⟩ := HU.out t ht
              injection hv4 with q1 q2' q3'
              injection q1 with q1
              injection q1 with q4 q5
              subst q4
              have ks := KS.out _ HW.out
              have cst := World.rowIs.cell (RSS.out _ HW.out) ht
              have kt := cell_keep kt (HB6.out _ HW.out)
              have cts := World.rowIs.cell (rt.keep (HB6.out _ HW.out)) hs
              obtain ⟨d1, hd1⟩ : ∃ d, rb es n s t = d := ⟨_, rfl⟩
              obtain ⟨d2, hd2⟩ : ∃ d, rb es n t s = d := ⟨_, rfl⟩
              have hcb : compB es n s t = (d1 && d2) := by show (rb es n s t && rb es n t s) = _; rw [hd1, hd2]
              rw [hd1] at cst
              rw [hd2] at cts
              have hfs := frst_step es n s t
              rw [HF.out, hcb] at hfs
              have hms := mems_succ t (compB es n s)
              rw [hcb] at hms
              have hsz := HW.out.size
              have hown := HI.out
              unfold IntsAt at hown
              have hlt := hown.lt
              obtain ⟨ml, hml2⟩ : ∃ ml, (mems t (compB es n s)).length = ml := ⟨_, rfl⟩
              have HML := Lib.hid hml2
              rw [hml2] at huc hown hml
              subst huc
              subst hu8
              clear q2' q3' q5 rt hd1 hd2 hcb hml2 HF
              rcases Bool.eq_false_or_eq_true (d1 && d2) with hd | hd
              · obtain ⟨rfl, rfl⟩ : d1 = true ∧ d2 = true := by simpa using hd
                have hm2 : mems (t + 1) (compB es n s) = mems t (compB es n s) ++ [(t : Int)] := by rw [hms]; simp
                have HM2 := Lib.hid hm2
                have hfs2 : frst es n s (t + 1) = (F && decide (s ≤ t)) := by rw [hfs]; rfl
                clear hms hm2 hfs hd
                have hcase : (F = false ∧ frst es n s (t + 1) = false) ∨ (F = true ∧ s ≤ t ∧ frst es n s (t + 1) = true) ∨ (F = true ∧ ¬ s ≤ t ∧ frst es n s (t + 1) = false) := by
                  cases F with
                  | false => exact .inl ⟨rfl, hfs2⟩
                  | true =>
                    by_cases h : s ≤ t
                    · exact .inr (.inl ⟨rfl, h, by rw [hfs2, decide_eq_true h]; rfl⟩)
                    · exact .inr (.inr ⟨rfl, h, by rw [hfs2, decide_eq_false h]; rfl⟩)
                rcases hcase with ⟨rfl, hF⟩ | ⟨rfl, hle, hF⟩ | ⟨rfl, hle, hF⟩
                · have HF2 := Lib.hid hF
                  clear hF hfs2
                  go_wp2_with (at_builtin; refine wpList_append_own_at _ rfl _ _ 30 rfl _ 3 iI (.int .i64 0) 1 8 Tryz.underlying30 ii iz0 iz1 iz2 rfl (by decide) _ _ _ rfl (hown.alloc _) ⟨wr.heap.size, 0, none⟩ 1 1 [.int .i64 (t : Int)] rfl rfl (cell_one_new _ _ _) (by intro u hu; simp at hu; subst hu; rfl) (by unfold maxLen; omega) (by omega) (by rw [World.size_alloc]; omega) ?_; intro v' w4 hown4 hgrow4 _ _; (have B4 := Lib.hid (Below.grown (HW.out.alloc HW.out.size (.cells #[.int .i64 (t : Int)] 3)) hgrow4 (by rw [World.size_alloc]; omega) (fun k e => by have := (hlt k e).1; omega))); (have L4 := Lib.hid (show IntsAt w4 _ v' (mems (t + 1) (compB es n s)) by unfold IntsAt; rw [HM2.out, intz_snoc, List.length_append, HML.out]; exact hown4)); clear hown4 hgrow4)
                  go_roundg q3
                  case measure => omega
                  case rel => exact ⟨t + 1, _, _, by omega, rfl, rfl, by go_num, HF2, B4, L4⟩
                · have HF2 := Lib.hid hF
                  have j5 : decide ((s : Int) ≤ (t : Int)) = true := decide_eq_true (by omega)
                  have j6 : (s : Int) ≤ (t : Int) := by omega
                  clear hF hfs2
                  go_wp2_with (at_builtin; refine wpList_append_own_at _ rfl _ _ 30 rfl _ 3 iI (.int .i64 0) 1 8 Tryz.underlying30 ii iz0 iz1 iz2 rfl (by decide) _ _ _ rfl (hown.alloc _) ⟨wr.heap.size, 0, none⟩ 1 1 [.int .i64 (t : Int)] rfl rfl (cell_one_new _ _ _) (by intro u hu; simp at hu; subst hu; rfl) (by unfold maxLen; omega) (by omega) (by rw [World.size_alloc]; omega) ?_; intro v' w4 hown4 hgrow4 _ _; (have B4 := Lib.hid (Below.grown (HW.out.alloc HW.out.size (.cells #[.int .i64 (t : Int)] 3)) hgrow4 (by rw [World.size_alloc]; omega) (fun k e => by have := (hlt k e).1; omega))); (have L4 := Lib.hid (show IntsAt w4 _ v' (mems (t + 1) (compB es n s)) by unfold IntsAt; rw [HM2.out, intz_snoc, List.length_append, HML.out]; exact hown4)); clear hown4 hgrow4)
                  go_roundg q3
                  case measure => omega
                  case rel => exact ⟨t + 1, _, _, by omega, rfl, rfl, by go_num, HF2, B4, L4⟩
                · have HF2 := Lib.hid hF
                  have j5 : decide ((s : Int) ≤ (t : Int)) = false := decide_eq_false (by omega)
                  have j6 : ¬ (s : Int) ≤ (t : Int) := by omega
                  clear hF hfs2
                  go_wp2_with (at_builtin; refine wpList_append_own_at _ rfl _ _ 30 rfl _ 3 iI (.int .i64 0) 1 8 Tryz.underlying30 ii iz0 iz1 iz2 rfl (by decide) _ _ _ rfl (hown.alloc _) ⟨wr.heap.size, 0, none⟩ 1 1 [.int .i64 (t : Int)] rfl rfl (cell_one_new _ _ _) (by intro u hu; simp at hu; subst hu; rfl) (by unfold maxLen; omega) (by omega) (by rw [World.size_alloc]; omega) ?_; intro v' w4 hown4 hgrow4 _ _; (have B4 := Lib.hid (Below.grown (HW.out.alloc HW.out.size (.cells #[.int .i64 (t : Int)] 3)) hgrow4 (by rw [World.size_alloc]; omega) (fun k e => by have := (hlt k e).1; omega))); (have L4 := Lib.hid (show IntsAt w4 _ v' (mems (t + 1) (compB es n s)) by unfold IntsAt; rw [HM2.out, intz_snoc, List.length_append, HML.out]; exact hown4)); clear hown4 hgrow4)
                  go_roundg q3
                  case measure => omega
                  case rel => exact ⟨t + 1, _, _, by omega, rfl, rfl, by go_num, HF2, B4, L4⟩
              · have HI2 := Lib.hid (show IntsAt wr _ (.slice ac ml cc) (mems (t + 1) (compB es n s)) by rw [hms, hd]; simpa using HI.out)
                have HF2 := Lib.hid (show frst es n s (t + 1) = F by rw [hfs, hd]; simp)
                clear hms hfs hown hlt
                cases d1 with
                | false =>
                  go_wp2_with fail
                  go_roundg q3
                  case measure => omega
                  case rel => exact ⟨t + 1, _, _, by omega, rfl, rfl, by go_num, HF2, HW, HI2⟩
                | true =>
                  obtain rfl : d2 = false := by simpa using hd
                  go_wp2_with fail
                  go_roundg q3
                  case measure => omega
                  case rel => exact ⟨t + 1, _, _, by omega, rfl, rfl, by go_num, HF2, HW, HI2⟩
    · have hs : s < n := by omega
      have j1 : (s : Int) < (n : Int) := by omega
      have HRS := Lib.hid (HRE.out s wr (HRD.out.keep HM.out.b) hs)
      have HUS := Lib.hid hus
      clear hus
      go_wp2_with (first
        | (go_at_call 84; (with_reducible refine HRS.out.mono ?_); rintro e W5 ⟨bb, rfl, r5, -, b5⟩; (have M5 := Lib.hid (HM.out.keep b5)); (have I5 := Lib.hid (show BRow W5 bb n (rb es n us.length) by rw [HUS.out]; exact r5)); (have hown := M5.out.o); (rw [HUS.out] at hown); (have hsz : w.heap.size < W5.heap.size := World.block_lt_of_cell? _ ⟨w.heap.size, 0, none⟩ M5.out.g.1); clear r5 b5 x1 x2 x3)
        | (at_builtin; refine wpList_append_own_at _ rfl _ _ 109 rfl (w.heap.size + 1) 108 iB (.slice none 0 0) 1 24 Tryz.underlying109 hi hz0 hz1 hz2 rfl (by decide) _ _ _ rfl (hown.alloc _) ⟨W5.heap.size, 0, none⟩ 1 1 [.slice (some ⟨bb, 0, none⟩) n n] rfl rfl (cell_one_new _ _ _) (by intro u hu; simp at hu; subst hu; rfl) (by unfold maxLen; omega) (by omega) (by rw [World.size_alloc]; omega) ?_; intro v' w4 hown4 hgrow4 _ _; (have H4 := Lib.hid (M5.out.app I5.out hgrow4 (by rw [HUS.out]; exact hown4))); clear hown4 hgrow4))
      go_roundg q
      case measure => omega
      case rel => exact ⟨s + 1, _, _, by omega, rfl, by go_num, by rw [List.length_append, HUS.out]; rfl, H4⟩
end Go.Proofs.YtiockphjnkehnaaGreatDoor
