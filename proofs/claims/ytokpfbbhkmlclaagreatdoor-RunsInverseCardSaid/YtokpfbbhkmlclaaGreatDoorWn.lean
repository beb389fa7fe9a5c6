/- Words over small alphabets, their ranks and the words behind them: plain facts on lists. No condition. -/
import Derived.Test.YtokpfbbhkmlclaaGreatDoorWr
namespace Go.Proofs.YtokpfbbhkmlclaaGreatDoor
/-- The letters. -/
def lets : List UInt8 := [48, 49, 50, 51, 52, 53, 54, 55, 56, 57, 97, 98, 99, 100, 101, 102]
def lt (d : Nat) : UInt8 := lets.getD d 0
/-- The number of a letter. -/
def dgt (c : UInt8) : Nat := lets.idxOf c
theorem dgt_lt : ∀ d, d < 16 → dgt (lt d) = d := by decide
theorem lt_at {i : Nat} (h : i < lets.length) : lt i = lets[i] := by
  unfold lt
  rw [List.getD_eq_getElem?_getD, List.getElem?_eq_getElem h]; rfl
theorem lt_dgt {c : UInt8} (h : dgt c < 16) : lt (dgt c) = c := by
  have h1 : dgt c < lets.length := h
  rw [lt_at h1]
  exact List.getElem_idxOf h1
/-- A word over q letters. -/
def Wof (q : Nat) (w : List UInt8) : Prop := ∀ c ∈ w, dgt c < q
instance (q : Nat) (w : List UInt8) : Decidable (Wof q w) := inferInstanceAs (Decidable (∀ c ∈ w, dgt c < q))
theorem mem_lets {q : Nat} (hq : q ≤ 16) (c : UInt8) : c ∈ lets.take q ↔ dgt c < q := by
  constructor
  · intro h
    obtain ⟨i, hi, rfl⟩ := List.mem_iff_getElem.1 h
    rw [List.length_take] at hi
    have h1 : (lets.take q)[i]'(by rw [List.length_take]; exact hi) = lt i := by
      rw [List.getElem_take, lt_at]
    rw [h1, dgt_lt i (by omega)]
    omega
  · intro h
    rw [← lt_dgt (by omega : dgt c < 16), List.mem_iff_getElem]
    have h2 : lets.length = 16 := rfl
    refine ⟨dgt c, by rw [List.length_take]; omega, ?_⟩
    rw [List.getElem_take, lt_at (by omega)]
theorem Wof.append {q : Nat} {u v : List UInt8} : Wof q (u ++ v) ↔ Wof q u ∧ Wof q v := by
  unfold Wof
  simp only [List.mem_append]
  exact ⟨fun h => ⟨fun c hc => h c (Or.inl hc), fun c hc => h c (Or.inr hc)⟩, fun h c hc => hc.elim (h.1 c) (h.2 c)⟩
theorem Wof.single {q : Nat} {c : UInt8} : Wof q [c] ↔ dgt c < q := by unfold Wof; simp
theorem Wof.rep {q d n : Nat} (hd : d < q) (hq : q ≤ 16) : Wof q (List.replicate n (lt d)) := fun c hc => by
  rw [(List.mem_replicate.1 hc).2, dgt_lt d (by omega)]; exact hd

/-- The rank. -/
def rk (q : Nat) (w : List UInt8) : Nat := w.foldl (fun a c => a * q + dgt c) 0
theorem rk_acc (q : Nat) (w : List UInt8) (a : Nat) : w.foldl (fun a c => a * q + dgt c) a = a * q ^ w.length + rk q w := by
  induction w generalizing a with
  | nil => simp [rk]
  | cons c w ih =>
    unfold rk
    rw [List.foldl_cons, List.foldl_cons, ih, ih (0 * q + dgt c), List.length_cons, Nat.pow_succ, Nat.zero_mul, Nat.zero_add, Nat.add_mul, Nat.mul_assoc, Nat.mul_comm q, Nat.add_assoc]
theorem rk_append (q : Nat) (u v : List UInt8) : rk q (u ++ v) = rk q u * q ^ v.length + rk q v := by
  conv => lhs; unfold rk
  rw [List.foldl_append, rk_acc]; rfl
theorem rk_snoc (q : Nat) (u : List UInt8) (c : UInt8) : rk q (u ++ [c]) = rk q u * q + dgt c := by
  rw [rk_append]; simp [rk]
theorem rk_lt {q : Nat} : ∀ {w : List UInt8}, Wof q w → rk q w < q ^ w.length := by
  intro w
  induction w with
  | nil => intro _; simp [rk]
  | cons c w ih =>
    intro h
    have h1 := ih fun d hd => h d (List.mem_cons_of_mem _ hd)
    have h2 := h c List.mem_cons_self
    have h3 : rk q (c :: w) = dgt c * q ^ w.length + rk q w := by
      have := rk_append q [c] w
      simpa [rk] using this
    have h4 := Nat.mul_le_mul_right (q ^ w.length) h2
    rw [Nat.succ_mul] at h4
    rw [h3, List.length_cons, Nat.pow_succ, Nat.mul_comm _ q]
    omega
/-- The word with a rank. -/
def unrk (q : Nat) : Nat → Nat → List UInt8
  | 0, _ => []
  | n + 1, a => unrk q n (a / q) ++ [lt (a % q)]
theorem unrk_len (q n a : Nat) : (unrk q n a).length = n := by
  induction n generalizing a with
  | zero => rfl
  | succ n ih => rw [unrk, List.length_append, ih]; rfl
theorem unrk_word {q : Nat} (h0 : 0 < q) (hq : q ≤ 16) (n a : Nat) : Wof q (unrk q n a) := by
  induction n generalizing a with
  | zero => intro c hc; cases hc
  | succ n ih =>
    rw [unrk, Wof.append, Wof.single]
    have := Nat.mod_lt a h0
    exact ⟨ih _, by rw [dgt_lt _ (by omega)]; exact this⟩
theorem rk_unrk {q : Nat} (h0 : 0 < q) (hq : q ≤ 16) (n a : Nat) (h : a < q ^ n) : rk q (unrk q n a) = a := by
  induction n generalizing a with
  | zero => simp at h; subst h; rfl
  | succ n ih =>
    rw [Nat.pow_succ] at h
    have := Nat.mod_lt a h0
    rw [unrk, rk_snoc, ih _ (Nat.div_lt_of_lt_mul (by rw [Nat.mul_comm]; exact h)), dgt_lt _ (by omega), Nat.mul_comm]
    exact Nat.div_add_mod a q
theorem unrk_rk {q : Nat} (hq : q ≤ 16) : ∀ (n : Nat) (w : List UInt8), w.length = n → Wof q w → unrk q n (rk q w) = w := by
  intro n
  induction n with
  | zero => intro w h _; rw [List.eq_nil_of_length_eq_zero h]; rfl
  | succ n ih =>
    intro w h hw
    have hne : w ≠ [] := fun e => by rw [e] at h; cases h
    obtain ⟨u, c, rfl⟩ : ∃ u c, w = u ++ [c] := ⟨w.dropLast, w.getLast hne, (List.dropLast_concat_getLast hne).symm⟩
    rw [List.length_append, List.length_singleton] at h
    obtain ⟨h1, h2⟩ := Wof.append.1 hw
    have h3 := Wof.single.1 h2
    rw [unrk, rk_snoc, Nat.mul_comm, Nat.mul_add_div (by omega), Nat.div_eq_of_lt h3, Nat.add_zero, ih u (by omega) h1, Nat.mul_add_mod, Nat.mod_eq_of_lt h3, lt_dgt (by omega)]
theorem unrk_add (q m n a : Nat) : unrk q (m + n) a = unrk q m (a / q ^ n) ++ unrk q n (a % q ^ n) := by
  induction n generalizing a with
  | zero => simp [unrk]
  | succ n ih =>
    rw [← Nat.add_assoc, unrk, ih, unrk, Nat.pow_succ, Nat.div_div_eq_div_mul, Nat.mul_comm q (q ^ n), List.append_assoc]
    congr 2
    · congr 1
      rw [Nat.mul_comm (q ^ n) q, Nat.mod_mul_right_div_self]
    · rw [Nat.mod_mul_left_mod]

/-- The word behind w, if it has the same length. -/
def keptOf (q : Nat) (w : List UInt8) : List UInt8 := (w.reverse.dropWhile (· == lt (q - 1))).reverse
def nxt (q : Nat) (w : List UInt8) : Option (List UInt8) :=
  match keptOf q w with
  | [] => none
  | c :: k => some ((c :: k).dropLast ++ [lt (dgt ((c :: k).getLast (by simp)) + 1)] ++ List.replicate (w.length - (k.length + 1)) 48)
theorem kept_split (q : Nat) (w : List UInt8) : w = keptOf q w ++ List.replicate (w.length - (keptOf q w).length) (lt (q - 1)) := by
  have h := List.takeWhile_append_dropWhile (p := (· == lt (q - 1))) (l := w.reverse)
  have h1 := congrArg List.reverse h
  rw [List.reverse_append, List.reverse_reverse] at h1
  have h2 : (w.reverse.takeWhile (· == lt (q - 1))).reverse = List.replicate (w.length - (keptOf q w).length) (lt (q - 1)) := by
    rw [List.eq_replicate_iff]
    constructor
    · have := congrArg List.length h1
      rw [List.length_append] at this
      unfold keptOf
      omega
    · intro b hb
      rw [List.mem_reverse] at hb
      exact eq_of_beq (List.all_eq_true.1 (List.all_takeWhile (l := w.reverse) (p := (· == lt (q - 1)))) b hb)
  rw [h2] at h1
  exact h1.symm
theorem kept_len (q : Nat) (w : List UInt8) : (keptOf q w).length ≤ w.length := by
  have h := congrArg List.length (kept_split q w)
  rw [List.length_append] at h
  omega
theorem kept_last {q : Nat} {w u : List UInt8} {c : UInt8} (h : keptOf q w = u ++ [c]) : c ≠ lt (q - 1) := by
  rintro rfl
  have h1 := congrArg List.reverse h
  unfold keptOf at h1
  rw [List.reverse_reverse, List.reverse_append] at h1
  have h2 := List.head?_dropWhile_not (· == lt (q - 1)) w.reverse
  rw [h1] at h2
  simp at h2
theorem rk_rep {q : Nat} (h0 : 0 < q) (hq : q ≤ 16) (n : Nat) : rk q (List.replicate n (lt (q - 1))) + 1 = q ^ n := by
  induction n with
  | zero => rfl
  | succ n ih =>
    rw [List.replicate_succ', rk_snoc, dgt_lt _ (by omega), Nat.pow_succ, ← ih, Nat.add_mul]
    omega
theorem rk_zero (q n : Nat) : rk q (List.replicate n 48) = 0 := by
  induction n with
  | zero => rfl
  | succ n ih => rw [List.replicate_succ', rk_snoc, ih, show dgt 48 = 0 from rfl]; simp
theorem nxt_some {q : Nat} {w v : List UInt8} (h0 : 0 < q) (hq : q ≤ 16) (hw : Wof q w) (h : nxt q w = some v) : Wof q v ∧ v.length = w.length ∧ rk q v = rk q w + 1 := by
  have hs := kept_split q w
  have hl := kept_len q w
  unfold nxt at h
  split at h
  · cases h
  · next c k hk =>
    injection h with h
    have hd : keptOf q w = (c :: k).dropLast ++ [(c :: k).getLast (by simp)] := by rw [hk]; exact (List.dropLast_concat_getLast _).symm
    generalize (c :: k).dropLast = u at *
    generalize (c :: k).getLast (by simp) = d at *
    have hkl : (keptOf q w).length = k.length + 1 := by rw [hk]; rfl
    have hul : u.length = k.length := by rw [hd, List.length_append] at hkl; simpa using hkl
    have hm : w.length - (k.length + 1) = w.length - (keptOf q w).length := by rw [hkl]
    generalize hmm : w.length - (keptOf q w).length = m at hs hm
    rw [hm] at h
    have hne := kept_last hd
    rw [hd] at hs
    have hw2 := hw
    rw [hs, Wof.append, Wof.append, Wof.single] at hw2
    obtain ⟨⟨w1, w2⟩, w3⟩ := hw2
    have hd1 : dgt d + 1 < q := by
      have : dgt d ≠ q - 1 := fun e => hne (by rw [← e, lt_dgt (by omega)])
      omega
    have hdl := dgt_lt (dgt d + 1) (by omega)
    have hwl := congrArg List.length hs
    rw [List.length_append, List.length_append, List.length_replicate, List.length_singleton] at hwl
    subst h
    refine ⟨?_, ?_, ?_⟩
    · rw [Wof.append, Wof.append, Wof.single, hdl]
      exact ⟨⟨w1, hd1⟩, Wof.rep (d := 0) h0 hq⟩
    · rw [List.length_append, List.length_append, List.length_replicate, List.length_singleton]
      omega
    · have e1 : rk q w = (rk q u * q + dgt d) * q ^ m + rk q (List.replicate m (lt (q - 1))) := by
        conv => lhs; rw [hs]
        rw [rk_append, rk_snoc, List.length_replicate]
      rw [e1, rk_append, rk_snoc, hdl, rk_zero, List.length_replicate, Nat.add_zero, Nat.add_assoc, rk_rep h0 hq, ← Nat.add_assoc, Nat.add_mul, Nat.one_mul]
theorem nxt_none {q : Nat} {w : List UInt8} (h0 : 0 < q) (hq : q ≤ 16) (h : nxt q w = none) : rk q w + 1 = q ^ w.length := by
  have hs := kept_split q w
  unfold nxt at h
  split at h
  · next hk =>
    rw [hk] at hs
    rw [List.nil_append] at hs
    have : w.length - ([] : List UInt8).length = w.length := rfl
    rw [this] at hs
    conv => lhs; rw [hs]
    exact rk_rep h0 hq _
  · cases h
end Go.Proofs.YtokpfbbhkmlclaaGreatDoor
