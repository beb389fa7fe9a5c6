/- Plain: lines of numbers and texts of graphs, taken apart. No condition. -/
import Derived.Test.YtoekemfgmdbnbaaDoorVq
import Derived.Test.YtoekemfgmdbnbaaDoorVra
namespace Go.Proofs.YtoekemfgmdbnbaaDoor
open Go

theorem jnT_jn : ∀ ns : List Nat, jnT ns = jn 32 (ns.map Lib.decDigits)
  | [] => rfl
  | n :: r => by
    show Lib.decDigits n ++ (r.flatMap fun m => 32 :: Lib.decDigits m) = Lib.decDigits n ++ (r.map Lib.decDigits).flatMap fun b => 32 :: b
    rw [List.flatMap_map]
theorem jnT_free {c : UInt8} (h : digC c = false) (h2 : c ≠ 32) : ∀ ns : List Nat, c ∉ jnT ns
  | [] => by simp [jnT]
  | n :: r => by
    show c ∉ Lib.decDigits n ++ (r.flatMap fun m => 32 :: Lib.decDigits m)
    intro hc
    rcases List.mem_append.1 hc with hc | hc
    · exact dec_free h hc
    · obtain ⟨m, -, hm⟩ := List.mem_flatMap.1 hc
      rcases List.mem_cons.1 hm with hm | hm
      · exact h2 hm
      · exact dec_free h hm
theorem Parts.nums {ns : List Nat} (h0 : ns ≠ []) : Parts 32 (jnT ns) (ns.map Lib.decDigits) :=
  ⟨by simpa using h0, fun p hp => by obtain ⟨n, -, rfl⟩ := List.mem_map.1 hp; exact dec_free (by decide), (jnT_jn ns).symm⟩
theorem jnT_inj {ms ns : List Nat} (h0 : ms ≠ []) (h1 : ns ≠ []) (hm : ∀ n ∈ ms, n < 1000000000) (hn : ∀ n ∈ ns, n < 1000000000) (h : jnT ms = jnT ns) : ms = ns := by
  have h2 := (Parts.nums h0).eq (by rw [h]; exact Parts.nums h1)
  clear h h0 h1
  induction ms generalizing ns with
  | nil => cases ns with
    | nil => rfl
    | cons n ns => cases h2
  | cons m ms ih => cases ns with
    | nil => cases h2
    | cons n ns =>
      rw [List.map_cons, List.map_cons] at h2
      injection h2 with e1 e2
      rw [dec_inj (hm m List.mem_cons_self) (hn n List.mem_cons_self) e1, ih (fun x hx => hm x (List.mem_cons_of_mem _ hx)) (fun x hx => hn x (List.mem_cons_of_mem _ hx)) e2]
/-- An edge's line, without its end. -/
def lnE (e : E3) : List UInt8 := jnT [e.1.toNat, e.2.1.toNat, e.2.2.toNat]
def SmE (e : E3) : Prop := (0 ≤ e.1 ∧ e.1 < 1000000000) ∧ (0 ≤ e.2.1 ∧ e.2.1 < 1000000000) ∧ (0 ≤ e.2.2 ∧ e.2.2 < 1000000000)
theorem SmE.nums {e : E3} (h : SmE e) : ∀ n ∈ [e.1.toNat, e.2.1.toNat, e.2.2.toNat], n < 1000000000 := by
  obtain ⟨h1, h2, h3⟩ := h
  intro n hn
  simp only [List.mem_cons, List.not_mem_nil, or_false] at hn
  omega
theorem lnE_inj {e f : E3} (he : SmE e) (hf : SmE f) (h : lnE e = lnE f) : e = f := by
  have h1 := jnT_inj (by simp) (by simp) he.nums hf.nums h
  simp only [List.cons.injEq, and_true] at h1
  obtain ⟨a1, a2, a3⟩ := he
  obtain ⟨b1, b2, b3⟩ := hf
  obtain ⟨x, y, z⟩ := e
  obtain ⟨x', y', z'⟩ := f
  dsimp only at *
  have e1 : x = x' := by omega
  have e2 : y = y' := by omega
  have e3 : z = z' := by omega
  rw [e1, e2, e3]
theorem ends_turn (r : List (List UInt8)) : (r.flatMap fun b => 10 :: b) ++ [10] = (10 : UInt8) :: r.flatMap fun b => b ++ [10] := by
  induction r with
  | nil => rfl
  | cons a r ih => rw [List.flatMap_cons, List.flatMap_cons, List.append_assoc, ih]; simp
theorem prG_jn (L n : Nat) (es : List E3) : prG L n es = jn 10 ((gph ++ jnT [L, n]) :: es.map lnE) ++ [10] := by
  show gph ++ (jnT [L, n] ++ [10]) ++ es.flatMap lineE = ((gph ++ jnT [L, n]) ++ (es.map lnE).flatMap fun b => 10 :: b) ++ [10]
  rw [List.append_assoc (gph ++ jnT [L, n]), ends_turn, List.flatMap_map]
  simp only [List.append_assoc, List.cons_append, List.nil_append]
  rfl
theorem Parts.lines (L n : Nat) (es : List E3) : Parts 10 (jn 10 ((gph ++ jnT [L, n]) :: es.map lnE)) ((gph ++ jnT [L, n]) :: es.map lnE) :=
  ⟨by simp, fun p hp => by
    rcases List.mem_cons.1 hp with rfl | hp
    · intro h
      rcases List.mem_append.1 h with h | h
      · simp [gph] at h
      · exact jnT_free (by decide) (by decide) _ h
    · obtain ⟨e, -, rfl⟩ := List.mem_map.1 hp
      exact jnT_free (by decide) (by decide) _, rfl⟩
/-- The lines of a text. -/
theorem prG_lines {L n : Nat} {es : List E3} {whole : List UInt8} {ls : List (List UInt8)} (h : whole ++ [10] = prG L n es) (hp : Parts 10 whole ls) : ls = (gph ++ jnT [L, n]) :: es.map lnE := by
  rw [prG_jn] at h
  have h1 : whole = jn 10 ((gph ++ jnT [L, n]) :: es.map lnE) := List.append_cancel_right h
  subst h1
  exact hp.eq (Parts.lines L n es)
theorem prG_of {L n : Nat} {es : List E3} {whole : List UInt8} {ls : List (List UInt8)} (hp : Parts 10 whole ls) (h : ls = (gph ++ jnT [L, n]) :: es.map lnE) : whole ++ [10] = prG L n es := by
  rw [prG_jn, ← h, hp.all]
theorem lnE_inj_all : ∀ {es fs : List E3}, (∀ e ∈ es, SmE e) → (∀ e ∈ fs, SmE e) → es.map lnE = fs.map lnE → es = fs
  | [], [], _, _, _ => rfl
  | [], f :: fs, _, _, h => by cases h
  | e :: es, [], _, _, h => by cases h
  | e :: es, f :: fs, h1, h2, h => by
    rw [List.map_cons, List.map_cons] at h
    injection h with e1 e2
    rw [lnE_inj (h1 e List.mem_cons_self) (h2 f List.mem_cons_self) e1, lnE_inj_all (fun x hx => h1 x (List.mem_cons_of_mem _ hx)) (fun x hx => h2 x (List.mem_cons_of_mem _ hx)) e2]
/-- A graph whose numbers have at most nine digits. -/
structure SmG (L n : Nat) (es : List E3) : Prop where
  l : L < 1000000000
  n : n < 1000000000
  e : ∀ e ∈ es, SmE e
theorem SmG.two {L n : Nat} {es : List E3} (h : SmG L n es) : ∀ m ∈ [L, n], m < 1000000000 := by
  have h1 := h.l
  have h2 := h.n
  intro m hm
  simp only [List.mem_cons, List.not_mem_nil, or_false] at hm
  omega
/-- The text tells the graph. -/
theorem prG_inj {L n L' n' : Nat} {es fs : List E3} (h1 : SmG L n es) (h2 : SmG L' n' fs) (h : prG L n es = prG L' n' fs) : L = L' ∧ n = n' ∧ es = fs := by
  rw [prG_jn, prG_jn] at h
  have h3 : jn 10 ((gph ++ jnT [L, n]) :: es.map lnE) = jn 10 ((gph ++ jnT [L', n']) :: fs.map lnE) := List.append_cancel_right h
  have h4 := (Parts.lines L n es).eq (by rw [h3]; exact Parts.lines L' n' fs)
  injection h4 with e1 e2
  have e3 := jnT_inj (by simp) (by simp) h1.two h2.two (List.append_cancel_left e1)
  simp only [List.cons.injEq, and_true] at e3
  exact ⟨e3.1, e3.2, lnE_inj_all h1.e h2.e e2⟩
theorem vg_smg {L n : Nat} {es : List E3} (h : VG (L : Int) (n : Int) es) : SmG L n es := by
  have h1 := h.l2
  have h2 := h.s2
  refine ⟨by omega, by omega, fun e he => ?_⟩
  have h3 := okE_iff.1 (h.ok e he)
  unfold SmE
  omega
end Go.Proofs.YtoekemfgmdbnbaaDoor
