/- What word.rank, word.shortUnrank and word.unrank return for words of at most 30 letters. Condition: so many letters. A region that draws its order, by a statement that every operation keeps, whatever has come up before it: one walk for each operation, not one for each order. No condition. What word.occurrences yields: the offsets at which a string occurs, in ascending order. Condition: both have at most 10^5 bytes. -/
import Derived.Test.YtigdjlhihhakmaaDoorQ14
import Derived.Test.YtigdjlhihhakmaaDoorQ18
import Derived.Test.YtigdjlhihhakmaaDoorQ20
import Derived.Deep.OwnRows
import Derived.Test.YtigdjlhihhakmaaDoorQ09
import Derived.Test.YtigdjlhihhakmaaDoorQ10

namespace Go.Proofs.YtigdjlhihhakmaaDoor
open Go.RowKit
set_option linter.unusedSimpArgs false
set_option linter.unusedVariables false

theorem power_any (q : Nat) (q1 : 1 ≤ q) (q2 : q ≤ 16) : ∀ n : Nat, n ≤ 30 → ∀ w, Calls Tryd.prog 57 #[.int .i64 (q : Int), .int .i64 (n : Int)] w (IntOut w ((q ^ n : Nat) : Int)) := by
  intro n
  induction n using Nat.strongRecOn with
  | _ n ih =>
    intro hn w
    rcases Nat.eq_zero_or_pos n with rfl | h0
    · exact power_zero q w
    · exact power_step q n w q1 q2 h0 hn (fun W => ih (n / 2) (Nat.div_lt_self h0 (by omega)) (by omega) W)
theorem isInt_lt {q n a k : Nat} (q2 : q ≤ 16) (ha : a < q ^ n) (hlt : n ≤ 8 * k) (hk : k ≤ 10000) : IsInt (.agg #[.bool (sg (a : Int)), .string (mg (a : Int))]) (a : Int) k :=
  isInt_mg (by
    rw [Int.natAbs_natCast]
    refine Nat.lt_of_lt_of_le ha (Nat.le_trans (Nat.pow_le_pow_left q2 n) ?_)
    rw [show (4294967296 : Nat) = 16 ^ 8 from rfl, ← Nat.pow_mul]
    exact Nat.pow_le_pow_right (by omega) hlt) (by omega)
theorem Wof.drop {q : Nat} {l : List UInt8} (h : Wof q l) (n : Nat) : Wof q (l.drop n) := fun c hc => h c (List.mem_of_mem_drop hc)
set_option maxRecDepth 100000 in
set_option maxHeartbeats 6400000 in
theorem rank_mid (q : Nat) (l : List UInt8) (w : World) (q1 : 1 ≤ q) (q2 : q ≤ 16) (hl0 : 15 < l.length) (hl : l.length ≤ 30) (hW : Wof q l) :
    Calls Tryd.prog 54 #[.int .i64 (q : Int), .string ⟨l.toArray⟩] w (IntOut w (rk q l)) := by
  have hq : Int.tdiv (l.length : Int) 2 = ((l.length / 2 : Nat) : Int) := by rw [Int.tdiv_eq_ediv_of_nonneg (by omega)]; rfl
  obtain ⟨h, hh⟩ : ∃ h, l.length / 2 = h := ⟨_, rfl⟩
  rw [hh] at hq
  have hhl : h ≤ 15 := by omega
  have hh2 : l.length - h ≤ 15 := by omega
  have hhle : h ≤ l.length := by omega
  have hc1 := run_take_at l (l.take h) h (h : Int) rfl hhle rfl
  have hc2 := run_drop_at l (l.drop h) h (h : Int) rfl hhle rfl
  have hU := rank_short q (l.take h)
  have hV := rank_short q (l.drop h)
  have HU := Lib.hid (fun W => hU W q1 q2 (by rw [List.length_take]; omega) (hW.take h))
  have HV := Lib.hid (fun W => hV W q1 q2 (by rw [List.length_drop]; omega) (hW.drop h))
  have hku := rk_lt (hW.take h)
  have hkv := rk_lt (hW.drop h)
  rw [List.length_take, Nat.min_eq_left hhle] at hku
  rw [List.length_drop] at hkv
  have HP := Lib.hid (power_any q q1 q2 (l.length - h) (by omega))
  have hsplit : rk q l = rk q (l.take h) * q ^ (l.length - h) + rk q (l.drop h) := by
    conv => lhs; rw [← List.take_append_drop h l]
    rw [rk_append, List.length_drop]
  have I1 := isInt_lt (k := 2) q2 hku (by omega) (by omega)
  have I2 := isInt_pow (n := l.length - h) (k := 2) q2 (by omega) (by omega) (by omega) (by omega)
  have I3 : IsInt (.agg #[.bool (sg ((rk q (l.take h) * q ^ (l.length - h) : Nat) : Int)), .string (mg ((rk q (l.take h) * q ^ (l.length - h) : Nat) : Int))]) ((rk q (l.take h) * q ^ (l.length - h) : Nat) : Int) 4 :=
    isInt_lt (q := q) (n := h + (l.length - h)) q2 (by rw [Nat.pow_add]; exact Nat.mul_lt_mul_of_pos_right hku (Nat.pow_pos (by omega))) (by omega) (by omega)
  have I4 := isInt_lt (k := 2) q2 hkv (by omega) (by omega)
  have hM := fun W => imul_any _ _ _ _ 2 2 W I1 I2
  have hA := fun W => iadd_any _ _ _ _ 4 2 W I3 I4
  simp only [← Int.natCast_mul] at hM
  simp only [← Int.natCast_add, ← hsplit] at hA
  obtain ⟨U, hUU⟩ : ∃ U, l.take h = U := ⟨_, rfl⟩
  obtain ⟨V, hVV⟩ : ∃ V, l.drop h = V := ⟨_, rfl⟩
  rw [hUU] at hc1 hM hA
  rw [hVV] at hc2 hA
  simp only [hUU] at HU
  simp only [hVV] at HV
  obtain ⟨x, hx⟩ : ∃ x : Int, (rk q U : Int) = x := ⟨_, rfl⟩
  obtain ⟨y, hy⟩ : ∃ y : Int, (rk q V : Int) = y := ⟨_, rfl⟩
  obtain ⟨p, hp⟩ : ∃ p : Int, ((q ^ (l.length - h) : Nat) : Int) = p := ⟨_, rfl⟩
  obtain ⟨m, hm⟩ : ∃ m : Int, ((rk q U * q ^ (l.length - h) : Nat) : Int) = m := ⟨_, rfl⟩
  obtain ⟨z, hz⟩ : ∃ z : Int, (rk q l : Int) = z := ⟨_, rfl⟩
  simp only [hx] at HU
  simp only [hy] at HV
  simp only [hp] at HP
  simp only [hx, hp, hm] at hM
  simp only [hm, hy, hz] at hA
  rw [hz]
  have HM := Lib.hid hM
  have HA := Lib.hid hA
  obtain ⟨n2, hn2⟩ : ∃ n2, l.length - h = n2 := ⟨_, rfl⟩
  rw [hn2] at HP
  have hsub : (l.length : Int) - (h : Int) = (n2 : Int) := by omega
  have hw1 : IntKind.i64.wrap ((l.length : Int) - (h : Int)) = (n2 : Int) := by rw [IntKind.wrap_i64]; omega
  have hw2 : IntKind.i64.wrap (n2 : Int) = (n2 : Int) := by rw [IntKind.wrap_i64]; omega
  have hr := ResCell.new w 43
  have hb := below1 w (.cells #[.bool false, .string ⟨#[]⟩] 43)
  have hR := Lib.hid (And.intro hb.drew hr.drew)
  clear hUU hVV hx hy hp hm hz hM hA hsplit I1 I2 I3 I4 hku hkv hU hV hW hr hb hn2
  go_enter Tryd.func54, Tryd.ntmps54
  go_wp2_with fail
  go_region_held3 (fun _ => True) (trivial)
    (first
      | (go_at_call 54; first
        | ((with_reducible refine (HU.out _).mono ?_); rintro e W1 ⟨rfl, b1⟩; (have B1 := below_more hR.out.1 (Nat.le_refl _) b1); (have R1 := hR.out.2.keep b1))
        | ((with_reducible refine (HV.out _).mono ?_); rintro e W4 ⟨rfl, b4⟩; (have B4 := below_more B3 (Nat.le_refl _) b4); (have R4 := R3.keep b4)))
      | (go_at_call 57; (with_reducible refine (HP.out _).mono ?_); rintro e W2 ⟨rfl, b2⟩; (have B2 := below_more B1 (Nat.le_refl _) b2); (have R2 := R1.keep b2))
      | (go_at_call 87; (with_reducible refine (HM.out _).mono ?_); rintro e W3 ⟨rfl, b3⟩; (have B3 := below_more B2 (Nat.le_refl _) b3); (have R3 := R2.keep b3))
      | (go_at_call 33; (with_reducible refine (HA.out _).mono ?_); rintro e W5 ⟨rfl, b5⟩; (have B5 := below_more B4 (Nat.le_refl _) b5); (obtain ⟨r1, r2, r3, r4⟩ := R4.keep b5)))
  all_goals
    go_wp2
    have hf := (B5.setCell (p := ⟨w.heap.size, 0, none⟩) (Nat.le_refl _) (.bool (sg z))).setCell (p := ⟨w.heap.size, 1, none⟩) (Nat.le_refl _) (.string (mg z))
    exact bodyPost_ret (v := .agg #[.bool (sg z), .string (mg z)]) (by simp [results, Tryd.results54, go_sem, r1, r2]) rfl ⟨rfl, hf⟩
theorem rank_30 (q : Nat) (l : List UInt8) (w : World) (q1 : 1 ≤ q) (q2 : q ≤ 16) (hl : l.length ≤ 30) (hW : Wof q l) :
    Calls Tryd.prog 54 #[.int .i64 (q : Int), .string ⟨l.toArray⟩] w (IntOut w (rk q l)) := by
  rcases Nat.lt_or_ge 15 l.length with h | h
  · exact rank_mid q l w q1 q2 h hl hW
  · exact rank_short q l w q1 q2 h hW

/-! Unranking. -/
theorem unrk_at (q : Nat) : ∀ (n a i : Nat), i < n → (unrk q n a)[i]? = some (lt (a / q ^ (n - 1 - i) % q)) := by
  intro n
  induction n with
  | zero => intro a i h; omega
  | succ n ih =>
    intro a i h
    rw [unrk]
    rcases Nat.lt_or_ge i n with h1 | h1
    · rw [List.getElem?_append_left (by rw [unrk_len]; exact h1), ih (a / q) i h1, Nat.div_div_eq_div_mul, show n + 1 - 1 - i = (n - 1 - i) + 1 by omega, Nat.pow_succ, Nat.mul_comm q]
    · have : i = n := by omega
      subst this
      rw [List.getElem?_append_right (by rw [unrk_len]; exact Nat.le_refl _), unrk_len, Nat.sub_self, show i + 1 - 1 - i = 0 by omega, Nat.pow_zero, Nat.div_one]; rfl
theorem Tryd.infoU8v : (Tryd.prog.info? 5).map (fun i => (i.zero, i.size, i.bytes)) = some (some (.int .u8 0), 1, 1) := by kernel_rfl
theorem lt_mem {d : Nat} (h : d < 16) : lets[d]? = some (lt d) := by
  have h1 : d < lets.length := h
  rw [List.getElem?_eq_getElem h1, lt_at h1]
set_option maxRecDepth 100000 in
set_option maxHeartbeats 6400000 in
theorem shortUnrank_any (q n a : Nat) (w : World) (q1 : 1 ≤ q) (q2 : q ≤ 16) (hn : n ≤ 15) (ha : a < 1152921504606846976) :
    Calls Tryd.prog 93 #[.int .i64 (q : Int), .int .i64 (n : Int), .int .i64 (a : Int)] w fun e w' => e = .returned (.string ⟨(unrk q n a).toArray⟩) ∧ Below w.heap.size w w' := by
  have hmk := run_make_row' (P := Tryd.prog) 70 5 (.int .u8 0) 1 Tryd.underlying70 Tryd.infoU8v rfl .i64 .i64 n (by omega) (by omega)
  have HU := Lib.hid (unrk_at q n a)
  obtain ⟨R, hR⟩ : ∃ R, unrk q n a = R := ⟨_, rfl⟩
  have HRl := Lib.hid (show R.length = n by rw [← hR, unrk_len])
  rw [hR] at HU ⊢
  have hW0 := World.rowIs_made w (.int .u8 0) n 5
  have hB0 := below1 w (.cells (madeCells #[.int .u8 0] n) 5)
  clear hR
  go_enter Tryd.func93, Tryd.ntmps93
  go_wp2_with fail
  generalize w.alloc (.cells (madeCells #[.int .u8 0] n) 5) = W0 at *
  clear hmk
  go_loopg [2, 8] n (fun g s2 s8 wx => g ≤ n ∧ s8 = .int .i64 ((g : Int) - 1) ∧ (∃ m : Nat, s2 = .int .i64 (m : Int) ∧ m < 1152921504606846976 ∧ Hid (a / q ^ (n - g) = m)) ∧ wx.rowIs w.heap.size 5 n (fun j => if j < g then .int .u8 0 else .int .u8 ((R.getD j 0).toNat : Int)) ∧ Below w.heap.size w wx)
  case atStart => exact ⟨Nat.le_refl _, rfl, ⟨a, rfl, ha, by show _ = _; rw [Nat.sub_self, Nat.pow_zero, Nat.div_one]⟩, hW0.congr (fun i hi => by rw [if_pos hi]), hB0⟩
  case round =>
    obtain ⟨hg, rfl, ⟨m, rfl, hm, Hm⟩, hrow, hb⟩ := hrel
    rcases gk with _ | g
    · have hbk : (convert 70 9 (.slice (some ⟨w.heap.size, 0, none⟩) n n)).run Tryd.prog wr = .ok (.string ⟨R.toArray⟩) wr := by
        have := run_convert_bytes_back wr 70 9 5 ⟨w.heap.size, 0, none⟩ n R Tryd.underlying70 Tryd.underlying5 Tryd.underlying9 (fun j hj => by
          rw [show (⟨w.heap.size, 0, none⟩ : Addr).add j = ⟨w.heap.size, j, none⟩ by unfold Addr.add; split <;> simp_all, hrow.cell (by rw [← HRl.out]; exact hj), if_neg (by omega), List.getD_eq_getElem?_getD, List.getElem?_eq_getElem hj]
          rfl)
        rwa [HRl.out] at this
      clear hW0 hB0 hrow
      go_wp2
      go_ret
      exact ⟨rfl, hb⟩
    · have hgn : g < n := by omega
      obtain ⟨r, hrr⟩ : ∃ r, m % q = r := ⟨_, rfl⟩
      have hrq : r < q := by rw [← hrr]; exact Nat.mod_lt _ (by omega)
      have hx : R[g]? = some (lt r) := by rw [HU.out g hgn, show n - 1 - g = n - (g + 1) by omega, Hm.out, hrr]
      have hix : ∀ w, (Instr.index 9 (.string ⟨#[48, 49, 50, 51, 52, 53, 54, 55, 56, 57, 97, 98, 99, 100, 101, 102]⟩) (.int .i64 (r : Int))).run Tryd.prog w = .ok (.int .u8 ((lt r).toNat : Int)) w := run_at_bytes lets r (lt r) (lt_mem (by omega)) (r : Int) rfl
      have hmr : Int.tmod (m : Int) (q : Int) = (r : Int) := by rw [Int.tmod_eq_emod_of_nonneg (by omega), ← hrr]; rfl
      obtain ⟨k, hk⟩ : ∃ k, m / q = k := ⟨_, rfl⟩
      have hmq : Int.tdiv (m : Int) (q : Int) = (k : Int) := by rw [Int.tdiv_eq_ediv_of_nonneg (by omega), ← hk]; rfl
      have hkm : k ≤ m := by rw [← hk]; exact Nat.div_le_self _ _
      have Hk := Lib.hid (show a / q ^ (n - g) = k by rw [← hk, ← Hm.out, Nat.div_div_eq_div_mul, show n - g = n - (g + 1) + 1 by omega, Nat.pow_succ])
      have hq0 : ¬ (q : Int) = 0 := by omega
      have hcell := hrow.cell hgn
      rw [if_pos (by omega)] at hcell
      have hfz := hrow.frozen g
      have hg1 : ((g + 1 : Nat) : Int) - 1 = (g : Int) := by omega
      obtain ⟨c, hc⟩ : ∃ c, lt r = c := ⟨_, rfl⟩
      rw [hc] at hx hix
      have hcl := c.toNat_lt
      have HR2 := Lib.hid ((hrow.set g (.int .u8 (c.toNat : Int))).congr (g := fun j => if j < g then .int .u8 0 else .int .u8 ((R.getD j 0).toNat : Int)) (fun i hi => by
        by_cases h1 : i = g
        · subst h1
          rw [if_pos rfl, if_neg (by omega), List.getD_eq_getElem?_getD, hx]; rfl
        · rw [if_neg h1]
          by_cases h2 : i < g
          · rw [if_pos (by omega), if_pos h2]
          · rw [if_neg (by omega), if_neg h2]))
      have HB2 := Lib.hid (hb.setCell (p := ⟨w.heap.size, g, none⟩) (Nat.le_refl _) (.int .u8 (c.toNat : Int)))
      rw [hg1]
      clear hx hrow hb hrr hk hc hW0 hB0 hg1
      go_wp2
      go_roundg g
      case measure => omega
      case rel => exact ⟨by omega, by go_num, ⟨k, by go_num, by omega, Hk⟩, HR2.out, HB2.out⟩
end Go.Proofs.YtigdjlhihhakmaaDoor

namespace Go.Proofs.YtigdjlhihhakmaaDoor
open Go.RowKit

/-- How many operations have not come up. -/
def unl (listed : Array Bool) : Nat := listed.toList.count false
theorem unl_set {listed : Array Bool} {i : Nat} (h : listed.getD i true = false) : unl (listed.setIfInBounds i true) + 1 = unl listed := by
  have hi : i < listed.size := by
    rcases Nat.lt_or_ge i listed.size with h1 | h1
    · exact h1
    · simp [Array.getD, Nat.not_lt.2 h1] at h
  have hl : listed.toList[i]'(by simpa using hi) = false := by
    simp [Array.getD, hi] at h
    simpa using h
  have hp : 0 < listed.toList.count false := List.count_pos_iff.2 (by rw [← hl]; exact List.getElem_mem _)
  unfold unl
  rw [Array.toList_setIfInBounds, List.count_set (by simpa using hi), hl]
  rw [if_pos (by rfl), if_neg (by decide)]
  omega
/-- Every operation waits for earlier ones alone. -/
def backwards (md : Region.Mode) (ops : Array Oper) : Bool := (List.range ops.size).all fun i => ((ops[i]?).map fun o => o.after.all fun e => !Region.binds md e || decide (e.on < i)).getD true

section
variable {P : Program} {md : Region.Mode} {ops : Array Oper} {Q : Exit → Act → World → Prop}

theorem backwards_spec (h : backwards md ops = true) {i : Nat} {o : Oper} (ho : ops[i]? = some o) {e : _} (he : e ∈ o.after) (hb : Region.binds md e = true) : e.on < i := by
  unfold backwards at h
  rw [List.all_eq_true] at h
  have h1 := h i (List.mem_range.2 (Array.getElem?_eq_some_iff.1 ho).1)
  rw [ho] at h1
  simp only [Option.map_some, Option.getD_some, Array.all_eq_true_iff_forall_mem] at h1
  have h2 := h1 e he
  simpa [hb] using h2
theorem all_listed (hbk : backwards md ops = true) {listed : Array Bool} (hs : listed.size = ops.size) (hr : Region.ready md ops listed = []) : ∀ i, i < ops.size → listed.getD i false = true := by
  intro i
  induction i using Nat.strongRecOn with
  | ind i ih =>
    intro hi
    cases hl : listed.getD i true with
    | true => simpa [Array.getD, hs, hi] using hl
    | false =>
      exfalso
      have hm : i ∈ Region.ready md ops listed := mem_ready.2 ⟨hl, ops[i], by simp [hi], fun e he hb => by
        have h1 := backwards_spec hbk (i := i) (o := ops[i]) (by simp [hi]) he hb
        exact ih _ h1 (by omega)⟩
      rw [hr] at hm
      cases hm

theorem any_of_inv {J : Array Bool → Act → World → Prop} (hbk : backwards md ops = true)
    (hstep : ∀ i o listed a w, ops[i]? = some o → listed.size = ops.size → listed.getD i true = false → (∀ e ∈ o.after, Region.binds md e = true → listed.getD e.on false = true) → J listed a w → wpOp P ops Q i (fun a' w' => J (listed.setIfInBounds i true) a' w') a w)
    (hend : ∀ listed a w, listed.size = ops.size → (∀ i, i < ops.size → listed.getD i false = true) → J listed a w → Q .normal a w) :
    ∀ (fuel : Nat) (listed : Array Bool) (a : Act) (w : World), unl listed ≤ fuel → listed.size = ops.size → J listed a w → wpAny P md ops Q fuel listed a w
  | 0, listed, a, w, hu, hs, hJ => by
    have hr : Region.ready md ops listed = [] := by
      rcases hx : Region.ready md ops listed with _ | ⟨i, l⟩
      · rfl
      · have := unl_set (mem_ready.1 (show i ∈ Region.ready md ops listed by rw [hx]; exact List.mem_cons_self)).1
        omega
    exact ⟨hr, hend listed a w hs (all_listed hbk hs hr) hJ⟩
  | fuel + 1, listed, a, w, hu, hs, hJ => by
    refine ⟨fun hr => hend listed a w hs (all_listed hbk hs hr) hJ, fun i hi => ?_⟩
    obtain ⟨h1, o, h2, h3⟩ := mem_ready.1 hi
    have h4 := unl_set h1
    exact wpOp_mono (fun a' w' h => any_of_inv hbk hstep hend fuel _ a' w' (by omega) (by simpa using hs) h) (hstep i o listed a w h2 hs h1 h3 hJ)

theorem region_inv {J : Array Bool → Act → World → Prop} {id : Nat} {a : Act} {w : World} (hm : P.follows .mixedOrders = true) (hbk : backwards .any ops = true) (h0 : J (Array.replicate ops.size false) a w.drew)
    (hstep : ∀ i o listed a w, ops[i]? = some o → listed.size = ops.size → listed.getD i true = false → (∀ e ∈ o.after, Region.binds .any e = true → listed.getD e.on false = true) → J listed a w → wpOp P ops Q i (fun a' w' => J (listed.setIfInBounds i true) a' w') a w)
    (hend : ∀ listed a w, listed.size = ops.size → (∀ i, i < ops.size → listed.getD i false = true) → J listed a w → Q .normal a w) :
    (Code.region id ops true).wp P Q a w :=
  wp_region_any hm (any_of_inv hbk hstep hend _ _ _ _ (by unfold unl; exact Nat.le_trans (List.count_le_length) (by simp)) (by simp) h0)
/-- As region_inv, with the waiting as a test that computes. -/
theorem region_inv' {J : Array Bool → Act → World → Prop} {id : Nat} {a : Act} {w : World} (hm : P.follows .mixedOrders = true) (hbk : backwards .any ops = true) (h0 : J (Array.replicate ops.size false) a w.drew)
    (hstep : ∀ i, i < ops.size → ∀ listed a w, listed.getD i false = false → (∀ j, waitsFor .any ops i j = true → listed.getD j false = true) → J listed a w → wpOp P ops Q i (fun a' w' => J (listed.setIfInBounds i true) a' w') a w)
    (hend : ∀ listed a w, (∀ i, i < ops.size → listed.getD i false = true) → J listed a w → Q .normal a w) :
    (Code.region id ops true).wp P Q a w := by
  refine region_inv hm hbk h0 (fun i o listed a w ho hs hl hw hJ => ?_) (fun listed a w _ h hJ => hend listed a w h hJ)
  have hi := (Array.getElem?_eq_some_iff.1 ho).1
  refine hstep i hi listed a w (by simpa [Array.getD, hs, hi] using hl) (fun j hj => ?_) hJ
  obtain ⟨os, h1, e, h2, h3, h4⟩ := waitsFor_spec hj
  rw [ho] at h1
  injection h1 with h1
  subst h1
  rw [← h4]
  exact hw e h2 h3
theorem stepJ {J : Act → World → Prop} {i : Nat} {o : Oper} {a : Act} {w : World} (ho : ops[i]? = some o)
    (h : ∀ K' : Act → World → Prop, Shut (∀ a w, J a w → K' a w) → if Region.wanted o (yielded ops a.tmps) = true then Oper.wp P o a w K' Q else K' (a.put o.dst undef) w) : wpOp P ops Q i J a w :=
  wpOp_step ho (fun K' hK => h K' (fun a w hJ => hK a w hJ))
theorem fl {L : Array Bool} {i j : Nat} (h : i ≠ j) (hf : (L.setIfInBounds i true).getD j false = true) : L.getD j false = true := by
  simp only [Array.getD_eq_getD_getElem?, Array.getElem?_setIfInBounds_ne h] at hf ⊢
  exact hf
end
end Go.Proofs.YtigdjlhihhakmaaDoor

namespace Go.Proofs.YtigdjlhihhakmaaDoor
open Go.RowKit Go.Shelf
attribute [local go_sem] Oper.semAt_some
set_option linter.unusedSimpArgs false
set_option linter.unusedVariables false

def ints (l : List Nat) : List Value := l.map fun (i : Nat) => .int .i64 (i : Int)
theorem ints_len (l : List Nat) : (ints l).length = l.length := List.length_map _
theorem ints_snoc (l : List Nat) (i : Nat) : ints (l ++ [i]) = ints l ++ [.int .i64 (i : Int)] := by unfold ints; rw [List.map_append]; rfl
theorem grown_none {w w' : World} (h : Below w.heap.size w w') : w.grownBy w' none := ⟨h.os, h.tape, h.output, h.size, fun k hk _ => h.block k hk⟩
/-- What lies in memory between two rounds: the record of the loop, and the list so far. -/
def LJ (l D s N B : Nat) (REC : Loop) (pre : List Nat) (W0 W : World) : Prop :=
  W.heap[l]? = some (.loop REC) ∧ W.heap[D]? = some (.deferred (some [])) ∧ (∃ v, W.cell? ⟨s, 0, none⟩ = some v ∧ W.frozen? ⟨s, 0, none⟩ = false ∧ W.ownsRow N 3 1 v pre.length (ints pre)) ∧ Below B W0 W ∧ N ≤ W.heap.size
theorem LJ.keep {l D s N B : Nat} {REC : Loop} {pre : List Nat} {W0 W W' : World} (h : LJ l D s N B REC pre W0 W) (hB : B ≤ W0.heap.size) (hb : Below W.heap.size W W') : LJ l D s N B REC pre W0 W' := by
  obtain ⟨h1, h2, ⟨v, h3, h4, h5⟩, h6, h7⟩ := h
  exact ⟨(hb.block l (Array.getElem?_eq_some_iff.1 h1).1).trans h1, (hb.block D (Array.getElem?_eq_some_iff.1 h2).1).trans h2, ⟨v, cell_keep h3 hb, frozen_keep h3 h4 hb, h5.kept (grown_none hb) (by cases v.ownBlock <;> simp)⟩, below_more h6 hB hb, Nat.le_trans h7 hb.size⟩
/-- What lies below N, but for one variable, is as it was. -/
def Fr (N s : Nat) (W W' : World) : Prop := ∀ k, k < N → k ≠ s → W'.heap[k]? = W.heap[k]?
theorem Fr.refl (N s : Nat) (W : World) : Fr N s W W := fun _ _ _ => rfl
theorem Fr.trans {N s : Nat} {A B C : World} (h : Fr N s A B) (k : Fr N s B C) : Fr N s A C := fun i h1 h2 => (k i h1 h2).trans (h i h1 h2)
theorem Fr.cell {N s : Nat} {W W' : World} (h : Fr N s W W') {p : Addr} (h1 : p.block < N) (h2 : p.block ≠ s) : W'.cell? p = W.cell? p := World.cell?_of_block (w := W) (h p.block h1 h2)
theorem Fr.var {N s : Nat} {W W' : World} (h : Fr N s W W') (hN : W.heap.size ≤ N) {p : Addr} {v : Value} (hp : W.cell? p = some v) (h2 : p.block ≠ s) : W'.cell? p = some v :=
  (h.cell (Nat.lt_of_lt_of_le (World.block_lt_of_cell? _ _ hp) hN) h2).trans hp
theorem Fr.tab {N s g n : Nat} {l : List UInt8} {W W' : World} (h : Fr N s W W') (hN : W.heap.size ≤ N) (hT : TabAt W (some ⟨g, 0, none⟩) n l) (h2 : g ≠ s) : TabAt W' (some ⟨g, 0, none⟩) n l :=
  ⟨g, 0, fun _ => rfl, fun i hi => by rw [Nat.zero_add]; exact h.var hN (tab_cell hT hi) h2⟩
/-- Another variable than that of the list. -/
theorem other_var {W : World} {a b : Nat} {u v : Value} (ha : W.cell? ⟨a, 0, none⟩ = some u) (hb : W.cell? ⟨b, 0, none⟩ = some v) (h : u ≠ v) : a ≠ b := fun e => by
  subst e
  rw [ha] at hb
  exact h (Option.some.inj hb)

theorem best_suf {u t : List UInt8} {k : Nat} (h : Best u t k) : ∀ m : Nat, (k : Int) = m → Suf u t m := fun m hm => by
  have : k = m := by omega
  subst this; exact h.1
theorem hBest_whole {u t : List UInt8} {k : Nat} (h : Best u t k) (hk : k = u.length) : u <:+ t := h.whole.1 hk
set_option maxRecDepth 100000 in
set_option maxHeartbeats 3200000 in
theorem occ1_in (l D s B bu bw : Nat) (REC : Loop) (wl ul : List UInt8) (W0 W : World) (hlw : wl.length ≤ 100000) (hlu : ul.length ≤ 100000) (hB : B ≤ W0.heap.size)
    (hY : ∀ N pre i W, LJ l D s N B REC pre W0 W → s < N → pre.length ≤ 100001 → i ≤ 100000 → YieldAt Fence.wide 6 Tryd.prog l #[.int .i64 ((i : Nat) : Int)] W fun e W' => e = .returned (.bool true) ∧ LJ l D s N B REC (pre ++ [i]) W0 W' ∧ Fr N s W W')
    (hu : W.cell? ⟨bu, 0, none⟩ = some (.string ⟨ul.toArray⟩)) (hw : W.cell? ⟨bw, 0, none⟩ = some (.string ⟨wl.toArray⟩)) (hl : W.heap[l]? = some (.loop REC)) (hD : W.heap[D]? = some (.deferred (some []))) (hs : W.cell? ⟨s, 0, none⟩ = some (.slice none 0 0)) (hsf : W.frozen? ⟨s, 0, none⟩ = false) (hBe : Below B W0 W) :
    CallsIn Fence.wide 7 Tryd.prog 84 #[.func (.yield l) #[] #[], .pointer (some ⟨bu, 0, none⟩), .pointer (some ⟨bw, 0, none⟩)] W fun e W' => (∃ v, e = .returned v) ∧ ∃ N, W.heap.size ≤ N ∧ LJ l D s N B REC (occ wl ul) W0 W' := by
  have HY := Lib.hid hY
  have H0 := Lib.hid (And.intro hl (And.intro hD (And.intro hs (And.intro hsf hBe))))
  clear hY hl hD hs hsf hBe
  refine callsIn_of_wp Tryd.func84 rfl trivial ?_ rfl
  simp only [Tryd.ntmps84, List.size_toArray, List.length_cons, List.length_nil, Nat.reduceAdd, Nat.reduceSub, Array.replicate_succ, Array.replicate_zero, List.push_toArray, List.append_toArray, List.nil_append, List.cons_append]
  gi_wp2_with (refine ⟨trivial, ?_⟩; gi_at_call 52; (with_reducible refine (callsIn_wide.2 (borders_any ul _ (by omega))).mono ?_); rintro e W1 ⟨g, bx, bt, c, rfl, x0, x1, hT, hb⟩)
  have Q0 : W1.cell? ⟨s, 0, none⟩ = some (.slice none 0 0) := cell_keep H0.out.2.2.1 hb
  have Q1 : LJ l D s W1.heap.size B REC [] W0 W1 :=
    ⟨(hb.block l (Array.getElem?_eq_some_iff.1 H0.out.1).1).trans H0.out.1, (hb.block D (Array.getElem?_eq_some_iff.1 H0.out.2.1).1).trans H0.out.2.1, ⟨_, Q0, frozen_keep H0.out.2.2.1 H0.out.2.2.2.1 hb, World.ownsRow_nil _ _ _ _⟩, below_more H0.out.2.2.2.2 hB hb, Nat.le_refl _⟩
  have u1 := cell_keep hu hb
  have w1 := cell_keep hw hb
  have n1 := Lib.hid (other_var u1 Q0 (by simp))
  have n2 := Lib.hid (other_var w1 Q0 (by simp))
  have n3 := Lib.hid (other_var x0 Q0 (by simp))
  have n4 := Lib.hid (other_var x1 Q0 (by simp))
  have g0 := tab_cell hT (Nat.succ_pos _)
  have n5 := Lib.hid (other_var g0 Q0 (by simp))
  have HQ := Lib.hid (And.intro Q1 (And.intro u1 (And.intro w1 (And.intro x0 (And.intro x1 hT)))))
  have hsW := Lib.hid (World.block_lt_of_cell? _ _ Q0)
  have hWW := Lib.hid hb.size
  clear hu hw H0 Q0 u1 w1 g0 x0 x1 hT hb
  gi_loopw [6, 7] (fun s6 s7 wr => ∃ (e k : Nat), s6 = .int .i64 (k : Int) ∧ s7 = .int .i64 (e : Int) ∧ e ≤ wl.length ∧ Best ul (wl.take e) k ∧ LJ l D s W1.heap.size B REC (endsTo wl ul e) W0 wr ∧ Fr W1.heap.size s W1 wr) (fun _ s7 _ => (wl.length - intOf s7).toNat)
  case atStart => exact ⟨0, 0, rfl, rfl, Nat.zero_le _, Best.start ul, Q1, Fr.refl _ _ _⟩
  case round =>
    obtain ⟨e, k, rfl, rfl, he, hBest, hJ, hF⟩ := hrel
    obtain ⟨q0, q1, q2, q3, q4, q5⟩ := HQ.out
    have y1 := hF.var (Nat.le_refl _) q1 n1.out
    have y2 := hF.var (Nat.le_refl _) q2 n2.out
    have y3 := hF.var (Nat.le_refl _) q3 n3.out
    have y4 := hF.var (Nat.le_refl _) q4 n4.out
    have yT := hF.tab (Nat.le_refl _) q5 n5.out
    have yt := tab_cell yT (Nat.lt_succ_self ul.length)
    have hkl := hBest.1.1
    have HBest := Lib.hid hBest
    have HJ := Lib.hid hJ
    have HF := Lib.hid hF
    have HT := Lib.hid yT
    have hel := Lib.hid (endsTo_len wl ul e)
    clear q0 q1 q2 q3 q4 q5 hBest hJ hF yT
    by_cases hk : k = ul.length
    · have HS := Lib.hid (hBest_whole HBest.out hk)
      have hlen := Lib.hid (HBest.out.1.len)
      obtain ⟨i, hi⟩ : ∃ i : Nat, (e : Int) - (k : Int) = (i : Int) := ⟨e - k, by have := hlen.out; rw [List.length_take] at this; omega⟩
      have HE := Lib.hid (show endsTo wl ul (e + 1) = endsTo wl ul e ++ [i] by
        unfold endsTo
        rw [if_pos HS.out, show e - ul.length = i by omega]
        cases e <;> rfl)
      obtain ⟨fn, tmps, assign, body, hrun, hR⟩ := HY.out _ _ i _ HJ.out hsW.out (by have := hel.out; omega) (by omega)
      subst hk
      have hk2 : ((ul.length : Int) == (ul.length : Int)) = true := by simp
      gi_wp2
      refine hR.mono ?_
      rintro e' W2 ⟨rfl, hJ2, hF2⟩
      have HF2 := Lib.hid (HF.out.trans hF2)
      have HJ2 := Lib.hid hJ2
      clear y1 y2 y3 y4 yt hJ2 hF2 HT HJ HF hrun hR
      obtain ⟨q0, q1, q2, q3, q4, q5⟩ := HQ.out
      have y1 := HF2.out.var (Nat.le_refl _) q1 n1.out
      have y2 := HF2.out.var (Nat.le_refl _) q2 n2.out
      have y3 := HF2.out.var (Nat.le_refl _) q3 n3.out
      have y4 := HF2.out.var (Nat.le_refl _) q4 n4.out
      have HT2 := Lib.hid (HF2.out.tab (Nat.le_refl _) q5 n5.out)
      have yt := tab_cell HT2.out (Nat.lt_succ_self ul.length)
      clear q0 q1 q2 q3 q4 q5
      by_cases hew : e = wl.length
      · subst hew
        have hll : ((wl.length : Int) == (wl.length : Int)) = true := by simp
        gi_wp2
        refine bodyPost_ret (v := .tuple #[]) (by simp [results, Tryd.results84, go_sem]) rfl ?_
        exact ⟨⟨_, rfl⟩, W1.heap.size, hWW.out, by unfold occ; rw [HE.out]; exact HJ2.out⟩
      · have hel2 : e < wl.length := by omega
        have hne : ((e : Int) == (wl.length : Int)) = false := by rw [beq_eq_false_iff_ne]; omega
        obtain ⟨d, hd⟩ : ∃ d, wl[e]? = some d := ⟨_, List.getElem?_eq_getElem hel2⟩
        have hix := run_at_bytes wl e d hd (e : Int) rfl
        have Htk := Lib.hid (show wl.take (e + 1) = wl.take e ++ [d] by rw [List.take_add_one, hd]; rfl)
        have htl := tab_lt (w := ul) (i := ul.length) (Nat.le_refl _)
        have HX := Lib.hid (ext_any bx bt (ul.length + 1) c _ ul (wl.take e) (tab ul ul.length) d W2 y3 y4 HT2.out (by omega) htl.1 (by omega) htl.2 HBest.out.tab)
        clear hd hew htl
        gi_wp2_with (refine ⟨trivial, ?_⟩; gi_at_call 85; (with_reducible refine (callsIn_wide.2 HX.out).mono ?_); rintro e' W3 ⟨⟨r, rfl, hE⟩, rfl⟩)
        go_roundw
        case rel => exact ⟨e + 1, r, by go_num, by go_num, by omega, by rw [Htk.out]; exact HBest.out.again hE, by rw [HE.out]; exact HJ2.out, HF2.out⟩
        case measure => simp [intOf]; omega
    · have HS := Lib.hid (fun h => hk (HBest.out.whole.2 h))
      have HE := Lib.hid (show endsTo wl ul (e + 1) = endsTo wl ul e by
        conv => lhs; unfold endsTo
        rw [if_neg HS.out, List.append_nil])
      have hk2 : ((k : Int) == (ul.length : Int)) = false := by rw [beq_eq_false_iff_ne]; omega
      by_cases hew : e = wl.length
      · subst hew
        clear hk
        have hll : ((wl.length : Int) == (wl.length : Int)) = true := by simp
        gi_wp2
        refine bodyPost_ret (v := .tuple #[]) (by simp [results, Tryd.results84, go_sem]) rfl ?_
        exact ⟨⟨_, rfl⟩, W1.heap.size, hWW.out, by unfold occ; rw [HE.out]; exact HJ.out⟩
      · have hel2 : e < wl.length := by omega
        have hne : ((e : Int) == (wl.length : Int)) = false := by rw [beq_eq_false_iff_ne]; omega
        obtain ⟨d, hd⟩ : ∃ d, wl[e]? = some d := ⟨_, List.getElem?_eq_getElem hel2⟩
        have hix := run_at_bytes wl e d hd (e : Int) rfl
        have Htk := Lib.hid (show wl.take (e + 1) = wl.take e ++ [d] by rw [List.take_add_one, hd]; rfl)
        have hkl2 := Lib.hid (show k < ul.length by omega)
        have HX := Lib.hid (ext_any bx bt (ul.length + 1) c _ ul (wl.take e) (k : Int) d wr y3 y4 HT.out (by omega) (by omega) (by omega) (by omega) (best_suf HBest.out))
        clear hd hew hk
        gi_wp2_with (refine ⟨trivial, ?_⟩; gi_at_call 85; (with_reducible refine (callsIn_wide.2 HX.out).mono ?_); rintro e' W3 ⟨⟨r, rfl, hE⟩, rfl⟩)
        go_roundw
        case rel => exact ⟨e + 1, r, by go_num, by go_num, by omega, by rw [Htk.out]; exact HBest.out.step hE, by rw [HE.out]; exact HJ.out, HF.out⟩
        case measure => simp [intOf]; omega
end Go.Proofs.YtigdjlhihhakmaaDoor
