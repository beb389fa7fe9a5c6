/- What grooveref10.reached returns: what is reached from a state. Conditions: at most 64 states, edges between states. -/
import Derived.Test.YtfkplnmhlpabaaaKr
import Derived.Test.YtfkplnmhlpabaaaKn
namespace Go.Proofs.Ytfkplnmhlpabaaa
open Go.RowKit Go.Shelf
set_option linter.unusedSimpArgs false
set_option linter.unusedVariables false

/-- What is reached is reached in fewer steps than there are states. -/
theorem short_any {L : Int} {n : Nat} {es : List E3} (h : ∀ e ∈ es, okE L (n : Int) e = true) {s t : Nat} (hs : s < n) (ht : t < n) (hr : Rc es (s : Int) (t : Int)) : ∃ j, j ≤ n - 1 ∧ Pth es (s : Int) j (t : Int) := by
  obtain ⟨k, hk⟩ := hr
  refine stab (F := fun k x => ∃ j, j ≤ k ∧ Pth es (s : Int) j (x : Int)) ⟨s, hs, 0, Nat.le_refl _, .nil⟩ (fun k x ⟨j, h1, h2⟩ => ⟨j, by omega, h2⟩) (fun k hst x hx hF => ?_) k t ht ⟨k, Nat.le_refl _, hk⟩
  obtain ⟨j, hj, hp⟩ := hF
  by_cases hjk : j ≤ k + 1
  · exact ⟨j, hjk, hp⟩
  · obtain rfl : j = k + 2 := by omega
    generalize hx' : (x : Int) = x' at hp
    cases hp with
    | step h1 he =>
      obtain ⟨a1, a2, a3, a4⟩ := okE_st (h _ he)
      rw [a3] at h1
      obtain ⟨j', q1, q2⟩ := hst _ a1 ⟨k + 1, Nat.le_refl _, h1⟩
      exact ⟨j' + 1, by omega, .step (by rw [a3]; exact q2) he⟩
def SndF (es : List E3) (n s : Nat) (f : Nat → Bool) : Prop := ∀ t, t < n → f t = true → Rc es (s : Int) (t : Int)
def CmpF (es : List E3) (n s k : Nat) (f : Nat → Bool) : Prop := ∀ t, t < n → ∀ j, j ≤ k → Pth es (s : Int) j (t : Int) → f t = true
def NxtF (es : List E3) (s k : Nat) (P : List E3) (f : Nat → Bool) : Prop := ∀ e ∈ P, ∀ j, j ≤ k → Pth es (s : Int) j e.1 → f e.2.2.toNat = true
structure RS (w : World) (La : Int) (n : Nat) (v : Value) (f : Nat → Bool) (X : World) : Prop where
  g : BoxG X w.heap.size La (n : Int) v
  b : Below w.heap.size w X
  r : BRow X (w.heap.size + 1) n f
section
variable {w X Y : World} {La : Int} {n : Nat} {v : Value} {f : Nat → Bool}
theorem RS.set (h : RS w La n v f X) (t : Nat) (x : Bool) : RS w La n v (fun j => if j = t then x else f j) (X.setCell ⟨w.heap.size + 1, t, none⟩ (.bool x)) :=
  ⟨boxG_other h.g (by show w.heap.size + 1 ≠ _; omega) _, h.b.setCell (by show _ ≤ w.heap.size + 1; omega) _, h.r.set t x⟩
end
set_option maxRecDepth 100000 in
set_option maxHeartbeats 6400000 in
theorem reached_any (La : Int) (n : Nat) (es : List E3) (v : Value) (s : Nat) (w : World) (hrd : EdgesRd w v es) (hn : n ≤ 64) (hok : ∀ e ∈ es, okE La (n : Int) e = true) (hlen : es.length ≤ 1024) (hs : s < n) :
    Calls Try.prog 50 #[grV La (n : Int) v, .int .i64 (s : Int)] w fun e w' => ∃ b, e = .returned (.slice (some ⟨b, 0, none⟩) n n) ∧ BRow w' b n (rb es n s) ∧ w.heap.size < b ∧ Below w.heap.size w w' := by
  obtain ⟨i0, hi, hz0, hz1, hz2⟩ := info_parts Try.infoBool
  have HMB := make_bools n (by omega)
  have HRD := Lib.hid hrd
  have HOK := Lib.hid hok
  obtain ⟨a, c, rfl⟩ := hrd.form
  have b1 := below1 w (.cells #[.int .i64 La, .int .i64 (n : Int), .slice a es.length c] 24)
  have g1 := BoxG.new w La (n : Int) (.slice a es.length c) 24
  obtain ⟨W2, HW2⟩ : ∃ W2, W2 = (w.alloc (.cells #[.int .i64 La, .int .i64 (n : Int), .slice a es.length c] 24)).alloc (.cells (madeCells #[.bool false] n) 4) := ⟨_, rfl⟩
  have j1 : (s : Int) < (n : Int) := by omega
  have k2 := below1 (w.alloc (.cells #[.int .i64 La, .int .i64 (n : Int), .slice a es.length c] 24)) (.cells (madeCells #[.bool false] n) 4)
  have R1 : BRow W2 (w.heap.size + 1) n (fun _ => false) := by
    have R := BRow.made (w.alloc (.cells #[.int .i64 La, .int .i64 (n : Int), .slice a es.length c] 24)) n
    rw [World.size_alloc] at R
    rw [HW2]; exact R
  have g2 : BoxG W2 w.heap.size La (n : Int) (.slice a es.length c) := HW2 ▸ g1.keep k2
  have b2 : Below w.heap.size w W2 := HW2 ▸ below_more b1 (Nat.le_refl _) k2
  have T2 := Lib.hid (RS.set ⟨g2, b2, R1⟩ s true)
  have HR1 := Lib.hid R1
  obtain ⟨x1, x2, x3⟩ := id g1
  have H1 := Lib.hid (show SndF es n s (fun j => if j = s then true else false) from fun t ht h => by
    by_cases e : t = s
    · subst e; exact Rc.refl _ _
    · dsimp only at h; rw [if_neg e] at h; cases h)
  have H2 := Lib.hid (show CmpF es n s 0 (fun j => if j = s then true else false) from fun t ht j hj hp => by
    obtain rfl : j = 0 := by omega
    generalize hx' : (t : Int) = t' at hp
    cases hp with
    | nil => obtain rfl : t = s := by omega
             exact if_pos rfl)
  clear hrd hok b1 g1 R1 b2 g2 k2
  go_enter Try.func50, Try.ntmps50
  go_upto_region 2 with fail
  rw [← HW2]
  clear x1 x2 x3 HW2
  have c1 := World.rowIs.cell HR1.out hs
  have f1 := World.rowIs.frozen HR1.out s
  go_wp2_with fail
  clear c1 f1 HR1
  generalize W2.setCell ⟨w.heap.size + 1, s, none⟩ (.bool true) = W0 at *
  go_loopg [6] n (fun q s6 wx => ∃ (k : Nat) (f : Nat → Bool), k + q = n ∧ s6 = .int .i64 (k : Int) ∧ Hid (RS w La n (.slice a es.length c) f wx) ∧ Hid (SndF es n s f) ∧ Hid (CmpF es n s k f))
  case atStart => exact ⟨0, _, by omega, rfl, T2, H1, H2⟩
  case round =>
    clear T2 H1 H2
    obtain ⟨k, f, hkn, rfl, HT, HS, HC⟩ := hrel
    obtain ⟨x1, x2, x3⟩ := id HT.out.g
    rcases gk with _ | q
    · obtain rfl : n = k := by omega
      have HE := Lib.hid (HT.out.r.congr (g := rb es n s) (fun t ht => by
        rw [Bool.eq_iff_iff]
        constructor
        · intro h; exact (rb_iff HOK.out hs ht).2 (HS.out t ht h)
        · intro h
          obtain ⟨j, hj, hp⟩ := short_any HOK.out hs ht ((rb_iff HOK.out hs ht).1 h)
          exact HC.out t ht j (by omega) hp))
      go_wp2_with fail
      go_ret
      exact ⟨_, rfl, HE.out, by omega, HT.out.b⟩
    · have j2 : (k : Int) < (n : Int) := by omega
      have HN := Lib.hid (show NxtF es s k (es.take 0) f from fun e he => by cases he)
      go_wp2_with fail
      clear x1 x2 x3
      go_loopg [7] es.length (fun q2 s7 wx => ∃ (i : Nat) (f : Nat → Bool), i + q2 = es.length ∧ s7 = .int .i64 (i : Int) ∧ Hid (RS w La n (.slice a es.length c) f wx) ∧ Hid (SndF es n s f) ∧ Hid (CmpF es n s k f) ∧ Hid (NxtF es s k (es.take i) f))
      case atStart => exact ⟨0, f, by omega, rfl, HT, HS, HC, HN⟩
      case round =>
        clear HT HS HC HN
        obtain ⟨i, f, hin, rfl, HT, HS, HC, HN⟩ := hrel
        obtain ⟨x1, x2, x3⟩ := id HT.out.g
        rcases gk with _ | q2
        · obtain rfl : i = es.length := by omega
          have HC2 := Lib.hid (show CmpF es n s (k + 1) f from fun t ht j hj hp => by
            by_cases hjk : j ≤ k
            · exact HC.out t ht j hjk hp
            · obtain rfl : j = k + 1 := by omega
              generalize hx' : (t : Int) = t' at hp
              cases hp with
              | step h1 he =>
                rename_i e
                have h3 := HN.out e (by rw [List.take_length]; exact he) k (Nat.le_refl _) h1
                rwa [show e.2.2.toNat = t by omega] at h3)
          go_wp2_with fail
          go_roundg q
          case measure => omega
          case rel => exact ⟨k + 1, f, by omega, by go_num, HT, HS, HC2⟩
        · obtain ⟨e, he⟩ : ∃ e, es[i]? = some e := ⟨_, List.getElem?_eq_getElem (by omega)⟩
          have hem := List.mem_of_getElem? he
          have hek := okE_st (HOK.out e hem)
          obtain ⟨bb, off, c', hv, k1, k2, k3⟩ := (HRD.out.keep HT.out.b).at he
          injection hv with e1 e2 e3
          subst e1
          subst e3
          have HTK := Lib.hid (take_snoc he)
          have HED := Lib.hid (Rc.edge hem)
          obtain ⟨x, y, z⟩ := e
          dsimp only at hek k1 k2 k3
          obtain ⟨hx, hz, hx1, hz1⟩ := hek
          obtain ⟨x', hx'⟩ : ∃ x', x.toNat = x' := ⟨_, rfl⟩
          obtain ⟨z', hz'⟩ : ∃ z', z.toNat = z' := ⟨_, rfl⟩
          rw [hx'] at hx hx1
          rw [hz'] at hz hz1
          subst hx1
          subst hz1
          have j3 : (i : Int) < (es.length : Int) := by omega
          have j4 : (x' : Int) < (n : Int) := by omega
          have j5 : (z' : Int) < (n : Int) := by omega
          have c1 := World.rowIs.cell HT.out.r hx
          have c2 := World.rowIs.cell HT.out.r hz
          have f2 := World.rowIs.frozen HT.out.r z'
          clear he hem e2 hx' hz'
          cases hb : f x' with
          | false =>
            rw [hb] at c1
            have HN2 := Lib.hid (show NxtF es s k (es.take (i + 1)) f from fun e he j hj hp => by
              rw [HTK.out] at he
              rcases List.mem_append.1 he with h | h
              · exact HN.out e h j hj hp
              · obtain rfl := List.mem_singleton.1 h
                have := HC.out x' hx j hj hp
                rw [hb] at this; cases this)
            clear hb HN
            go_wp2_with fail
            go_roundg q2
            case measure => omega
            case rel => exact ⟨i + 1, f, by omega, by go_num, HT, HS, HC, HN2⟩
          | true =>
            rw [hb] at c1
            have HT2 := Lib.hid (HT.out.set z' true)
            have hmono : ∀ t, f t = true → (fun j => if j = z' then true else f j) t = true := fun t h => by
              dsimp only
              by_cases e : t = z'
              · rw [if_pos e]
              · rw [if_neg e]; exact h
            have HS2 := Lib.hid (show SndF es n s (fun j => if j = z' then true else f j) from fun t ht h => by
              by_cases e : t = z'
              · subst e; exact (HS.out x' hx hb).trans HED.out
              · dsimp only at h; rw [if_neg e] at h; exact HS.out t ht h)
            have HC2 := Lib.hid (show CmpF es n s k (fun j => if j = z' then true else f j) from fun t ht j hj hp => hmono t (HC.out t ht j hj hp))
            have HN2 := Lib.hid (show NxtF es s k (es.take (i + 1)) (fun j => if j = z' then true else f j) from fun e he j hj hp => by
              rw [HTK.out] at he
              rcases List.mem_append.1 he with h | h
              · exact hmono _ (HN.out e h j hj hp)
              · obtain rfl := List.mem_singleton.1 h
                exact if_pos (Int.toNat_natCast z'))
            clear hb HN HT HS HC hmono
            go_wp2_with fail
            go_roundg q2
            case measure => omega
            case rel => exact ⟨i + 1, _, by omega, by go_num, HT2, HS2, HC2, HN2⟩
end Go.Proofs.Ytfkplnmhlpabaaa
