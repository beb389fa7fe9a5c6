/- Plain: what strings.Split lays down at a byte (pieces without it that join to the string), decimal texts of numbers. No condition. -/
import Derived.Lib.SplitLaws
import Derived.Lib.ItoaNum
import Derived.Lib.AtoiAll
namespace Go.Proofs.YtoekemfgmdbnbaaDoor
open Go

/-- Lists joined by one byte. -/
def jn (c : UInt8) : List (List UInt8) → List UInt8
  | [] => []
  | a :: r => a ++ r.flatMap fun b => c :: b
theorem jn_one (c : UInt8) (a : List UInt8) : jn c [a] = a := by simp [jn]
theorem jn_two (c : UInt8) (a b : List UInt8) (r : List (List UInt8)) : jn c (a :: b :: r) = a ++ c :: jn c (b :: r) := by simp [jn]
theorem jn_snoc (c : UInt8) (a b : List UInt8) (r : List (List UInt8)) : jn c (a :: r ++ [b]) = jn c (a :: r) ++ c :: b := by simp [jn]
theorem splitK_ne (sep : List UInt8) (k : Nat) (s : List UInt8) : Lib.splitK sep 0 k s ≠ [] := by
  cases k with
  | zero => simp [Lib.splitK]
  | succ k => unfold Lib.splitK; split <;> simp
theorem split_facts (c : UInt8) : ∀ (k : Nat) (s : List UInt8), Lib.count s [c] = k → jn c (Lib.splitK [c] 0 k s) = s ∧ ∀ p ∈ Lib.splitK [c] 0 k s, c ∉ p
  | 0, s, h => by
    have h1 := Lib.count_one c s
    rw [h] at h1
    refine ⟨jn_one c s, fun p hp => ?_⟩
    have : p = s := by simpa [Lib.splitK] using hp
    subst this
    exact List.count_eq_zero.1 h1.symm
  | k + 1, s, h => by
    rcases Lib.index_spec s [c] with ⟨h1, -⟩ | ⟨i, h1, h2, h3, -⟩
    · rw [Lib.count_miss h1] at h; omega
    · have h4 := Lib.count_hit (sub := [c]) (by simp) h1
      have h5 : Lib.count (s.drop (i + 1)) [c] = k := by
        have : ([c] : List UInt8).length = 1 := rfl
        rw [this] at h4; omega
      have h6 := Lib.occAt_head (sub := [c]) rfl h3
      have hs : s = s.take i ++ c :: s.drop (i + 1) := by
        obtain ⟨hi, he⟩ := List.getElem?_eq_some_iff.1 h6
        rw [← he, ← List.drop_eq_getElem_cons hi, List.take_append_drop]
      have hne : ¬ (Lib.index s [c] == -1) = true := fun e => by have := beq_iff_eq.1 e; omega
      have e1 : (Lib.index s [c]).toNat = i := by omega
      obtain ⟨k1, k2⟩ := split_facts c k _ h5
      have hsp : Lib.splitK [c] 0 (k + 1) s = s.take i :: Lib.splitK [c] 0 k (s.drop (i + 1)) := by
        rw [Lib.splitK, if_neg hne, e1]; rfl
      rw [hsp]
      constructor
      · obtain ⟨b, r, hb⟩ : ∃ b r, Lib.splitK [c] 0 k (s.drop (i + 1)) = b :: r := by
          cases hx : Lib.splitK [c] 0 k (s.drop (i + 1)) with
          | nil => exact absurd hx (splitK_ne _ _ _)
          | cons b r => exact ⟨b, r, rfl⟩
        rw [hb, jn_two, ← hb, k1]
        exact hs.symm
      · intro p hp
        rcases List.mem_cons.1 hp with rfl | hp
        · have h7 := congrArg (List.count c) hs
          rw [List.count_append, List.count_cons_self, ← Lib.count_one c s, ← Lib.count_one c (s.drop (i + 1)), h, h5] at h7
          exact List.count_eq_zero.1 (by omega)
        · exact k2 p hp
theorem cut_eq {c : UInt8} : ∀ {a b X Y : List UInt8}, c ∉ a → c ∉ b → (X = [] ∨ ∃ x, X = c :: x) → (Y = [] ∨ ∃ y, Y = c :: y) → a ++ X = b ++ Y → a = b ∧ X = Y
  | [], [], X, Y, _, _, _, _, h => ⟨rfl, h⟩
  | [], y :: b, X, Y, _, hb, hX, _, h => by
    rcases hX with rfl | ⟨x, rfl⟩
    · cases h
    · simp only [List.nil_append, List.cons_append] at h
      injection h with h1 _
      subst h1
      exact absurd List.mem_cons_self hb
  | x :: a, [], X, Y, ha, _, _, hY, h => by
    rcases hY with rfl | ⟨y, rfl⟩
    · cases h
    · simp only [List.nil_append, List.cons_append] at h
      injection h with h1 _
      subst h1
      exact absurd List.mem_cons_self ha
  | x :: a, y :: b, X, Y, ha, hb, hX, hY, h => by
    simp only [List.cons_append] at h
    injection h with h1 h2
    obtain ⟨e1, e2⟩ := cut_eq (fun h => ha (List.mem_cons_of_mem _ h)) (fun h => hb (List.mem_cons_of_mem _ h)) hX hY h2
    exact ⟨by rw [h1, e1], e2⟩
theorem tail_form (c : UInt8) (r : List (List UInt8)) : (r.flatMap fun b => c :: b) = [] ∨ ∃ x, (r.flatMap fun b => c :: b) = c :: x := by
  cases r with
  | nil => exact .inl rfl
  | cons a r => exact .inr ⟨a ++ r.flatMap fun b => c :: b, by simp⟩
theorem tails_inj {c : UInt8} : ∀ {ls ms : List (List UInt8)}, (∀ p ∈ ls, c ∉ p) → (∀ p ∈ ms, c ∉ p) → (ls.flatMap fun b => c :: b) = (ms.flatMap fun b => c :: b) → ls = ms
  | [], [], _, _, _ => rfl
  | [], m :: ms, _, _, h => by simp at h
  | l :: ls, [], _, _, h => by simp at h
  | l :: ls, m :: ms, h1, h2, h => by
    simp only [List.flatMap_cons, List.cons_append] at h
    injection h with _ h
    obtain ⟨e1, e2⟩ := cut_eq (h1 l List.mem_cons_self) (h2 m List.mem_cons_self) (tail_form c ls) (tail_form c ms) h
    rw [e1, tails_inj (fun p hp => h1 p (List.mem_cons_of_mem _ hp)) (fun p hp => h2 p (List.mem_cons_of_mem _ hp)) e2]
theorem jn_inj {c : UInt8} {ls ms : List (List UInt8)} (h0 : ls ≠ []) (h1 : ms ≠ []) (h2 : ∀ p ∈ ls, c ∉ p) (h3 : ∀ p ∈ ms, c ∉ p) (h : jn c ls = jn c ms) : ls = ms := by
  match ls, ms with
  | [], _ => exact absurd rfl h0
  | _, [] => exact absurd rfl h1
  | l :: ls, m :: ms =>
    obtain ⟨e1, e2⟩ := cut_eq (h2 l List.mem_cons_self) (h3 m List.mem_cons_self) (tail_form c ls) (tail_form c ms) h
    rw [e1, tails_inj (fun p hp => h2 p (List.mem_cons_of_mem _ hp)) (fun p hp => h3 p (List.mem_cons_of_mem _ hp)) e2]
/-- What strings.Split lays down. -/
structure Parts (c : UInt8) (s : List UInt8) (ps : List (List UInt8)) : Prop where
  ne : ps ≠ []
  free : ∀ p ∈ ps, c ∉ p
  all : jn c ps = s
theorem Parts.of (c : UInt8) (s : List UInt8) : Parts c s (Lib.splitK [c] 0 (Lib.count s [c]) s) := ⟨splitK_ne _ _ _, (split_facts c _ s rfl).2, (split_facts c _ s rfl).1⟩
theorem Parts.eq {c : UInt8} {s : List UInt8} {ps qs : List (List UInt8)} (h : Parts c s ps) (k : Parts c s qs) : ps = qs := jn_inj h.ne k.ne h.free k.free (h.all.trans k.all.symm)
theorem Parts.splitB (c : UInt8) (s : List UInt8) : ∃ ps, Parts c s ps ∧ (Lib.splitB ⟨#[c]⟩ 0 (Lib.countB ⟨s.toArray⟩ ⟨#[c]⟩) ⟨s.toArray⟩).map Value.string = ps.map (fun p => Value.string ⟨p.toArray⟩) ∧ ps.length = Lib.countB ⟨s.toArray⟩ ⟨#[c]⟩ + 1 := by
  have h1 := Lib.splitB_data ⟨#[c]⟩ 0 (Lib.countB ⟨s.toArray⟩ ⟨#[c]⟩) ⟨s.toArray⟩
  have h3 := Lib.splitB_all ⟨#[c]⟩ (Nat.le_refl 1) 0 _ ⟨s.toArray⟩ rfl
  have h2 : Lib.countB ⟨s.toArray⟩ ⟨#[c]⟩ = Lib.count s [c] := by simp [Lib.countB]
  refine ⟨_, Parts.of c s, ?_, ?_⟩
  · rw [← h2, show ([c] : List UInt8) = (⟨#[c]⟩ : ByteArray).data.toList from rfl]
    rw [show Lib.splitK (⟨#[c]⟩ : ByteArray).data.toList 0 (Lib.countB ⟨s.toArray⟩ ⟨#[c]⟩) s = _ from h1.symm, List.map_map]
    rfl
  · rw [← h2, show ([c] : List UInt8) = (⟨#[c]⟩ : ByteArray).data.toList from rfl]
    rw [show Lib.splitK (⟨#[c]⟩ : ByteArray).data.toList 0 (Lib.countB ⟨s.toArray⟩ ⟨#[c]⟩) s = _ from h1.symm, List.length_map, h3]
/-! ### Numbers -/
def digC (b : UInt8) : Bool := decide (48 ≤ b.toNat ∧ b.toNat ≤ 57)
theorem dig_nat {c : Nat} (h : c < 10) : (UInt8.ofNat (48 + c)).toNat = 48 + c := by
  rw [UInt8.toNat_ofNat']; omega
/-- ParseUint behind a prefix. -/
theorem parse_snoc : ∀ (l : List UInt8) (d acc m : Nat), Lib.parseUint10 acc l = .ok m → d < 10 → m * 10 + d < 18446744073709551616 → m < 1844674407370955162 → Lib.parseUint10 acc (l ++ [UInt8.ofNat (48 + d)]) = .ok (m * 10 + d)
  | [], d, acc, m, h, hd, hm, hm2 => by
    simp only [Lib.parseUint10] at h
    injection h with h
    subst h
    simp only [List.nil_append, Lib.parseUint10]
    rw [dig_nat hd, if_pos (by omega), if_neg (by omega), if_neg (by omega)]
    rw [show 48 + d - 48 = d by omega]
  | c :: r, d, acc, m, h, hd, hm, hm2 => by
    simp only [List.cons_append, Lib.parseUint10] at h ⊢
    split at h
    · rename_i h1
      rw [if_pos h1]
      split at h
      · cases h
      · rename_i h2
        rw [if_neg h2]
        split at h
        · cases h
        · rename_i h3
          rw [if_neg h3]
          exact parse_snoc r d _ m h hd hm hm2
    · cases h
theorem dec_all (u : Nat) : (Lib.decDigits u).all digC = true ∧ Lib.decDigits u ≠ [] := by
  induction u using Nat.strongRecOn with
  | _ u ih =>
    by_cases h : u < 10
    · rw [Lib.decDigits_one h]
      refine ⟨?_, by simp⟩
      simp only [List.all_cons, List.all_nil, Bool.and_true, digC, dig_nat h]
      exact decide_eq_true (by omega)
    · rw [Lib.decDigits, dif_neg h]
      obtain ⟨h1, h2⟩ := ih (u / 10) (by omega)
      have hm : u % 10 < 10 := Nat.mod_lt _ (by omega)
      refine ⟨?_, by simp⟩
      rw [List.all_append, h1]
      simp only [List.all_cons, List.all_nil, Bool.and_true, Bool.true_and, digC, dig_nat hm]
      exact decide_eq_true (by omega)
theorem parse_dec (u : Nat) : u < 1000000000 → Lib.parseUint10 0 (Lib.decDigits u) = .ok u := by
  induction u using Nat.strongRecOn with
  | _ u ih =>
    intro hu
    by_cases h : u < 10
    · rw [Lib.decDigits_one h]
      have := parse_snoc [] u 0 0 rfl h (by omega) (by omega)
      simpa using this
    · rw [Lib.decDigits, dif_neg h]
      have h1 := ih (u / 10) (by omega) (by omega)
      have := parse_snoc _ (u % 10) 0 (u / 10) h1 (Nat.mod_lt _ (by omega)) (by omega) (by omega)
      rw [show u / 10 * 10 + u % 10 = u by omega] at this
      exact this
theorem atoi_dec {u : Nat} (hu : u < 1000000000) : Lib.atoiAll (Lib.decDigits u) = .ok (u : Int) := by
  obtain ⟨h1, h2⟩ := dec_all u
  have h3 := parse_dec u hu
  match hl : Lib.decDigits u, h2 with
  | c :: r, _ =>
    rw [hl] at h1 h3
    rw [List.all_cons] at h1
    have hc : digC c = true := by rw [Bool.and_eq_true] at h1; exact h1.1
    have hc2 : 48 ≤ c.toNat ∧ c.toNat ≤ 57 := of_decide_eq_true hc
    unfold Lib.atoiAll
    simp only
    rw [if_neg (by omega)]
    unfold Lib.parseMag
    rw [if_neg (by simp), h3]
    simp only
    rw [if_neg (by omega), if_neg (by omega), if_neg (by omega)]
theorem dec_inj {m n : Nat} (hm : m < 1000000000) (hn : n < 1000000000) (h : Lib.decDigits m = Lib.decDigits n) : m = n := by
  have h1 := atoi_dec hm
  rw [h, atoi_dec hn] at h1
  injection h1 with h1
  omega
theorem dec_free {u : Nat} {c : UInt8} (hc : digC c = false) : c ∉ Lib.decDigits u := fun h => by
  have := List.all_eq_true.1 (dec_all u).1 c h
  rw [hc] at this
  cases this
end Go.Proofs.YtoekemfgmdbnbaaDoor
