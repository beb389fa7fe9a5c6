/- What word.rank, word.shortUnrank and word.unrank return for words of at most 30 letters. Condition: so many letters. A region that draws its order, by a statement that every operation keeps, whatever has come up before it: one walk for each operation, not one for each order. No condition. Integers in variables that a region makes, in any order of its operations. No condition. -/
import Derived.Test.YtigdjlhihhakmaaGreatDoorQ17
import Derived.Test.YtigdjlhihhakmaaGreatDoorQ21
import Derived.Test.YtigdjlhihhakmaaGreatDoorQ23
import Derived.Deep.OwnRows
import Derived.Test.YtigdjlhihhakmaaGreatDoorQ09
import Derived.Test.YtigdjlhihhakmaaGreatDoorQ18
import Derived.Test.YtigdjlhihhakmaaGreatDoorQ13

namespace Go.Proofs.YtigdjlhihhakmaaGreatDoor
open Go.RowKit
set_option linter.unusedSimpArgs false
set_option linter.unusedVariables false

theorem power_any (q : Nat) (q1 : 1 ≤ q) (q2 : q ≤ 16) : ∀ n : Nat, n ≤ 30 → ∀ w, Calls Tryz.prog 32 #[.int .i64 (q : Int), .int .i64 (n : Int)] w (IntOut w ((q ^ n : Nat) : Int)) := by
  intro n
  induction n using Nat.strongRecOn with
  | _ n ih =>
    intro hn w
    rcases Nat.eq_zero_or_pos n with rfl | h0
    · exact power_zero q w
    · exact power_step q n w q1 q2 h0 hn (fun W => ih (n / 2) (Nat.div_lt_self h0 (by omega)) (by omega) W)
theorem isInt_lt {q n a k : Nat} (q2 : q ≤ 16) (ha : a < q ^ n) (hlt : n ≤ 8 * k) (hk : k ≤ 10000) : IsInt (.agg #[.bool (sg (a : Int)), .string (mg (a : Int))]) (a : Int) k :=
  isInt_mg (by
    rw [Int.natAbs_natCast]
    refine Nat.lt_of_lt_of_le ha (Nat.le_trans (Nat.pow_le_pow_left q2 n) ?_)
    rw [show (4294967296 : Nat) = 16 ^ 8 from rfl, ← Nat.pow_mul]
    exact Nat.pow_le_pow_right (by omega) hlt) (by omega)
theorem Wof.drop {q : Nat} {l : List UInt8} (h : Wof q l) (n : Nat) : Wof q (l.drop n) := fun c hc => h c (List.mem_of_mem_drop hc)
set_option maxRecDepth 100000 in
set_option maxHeartbeats 6400000 in
theorem rank_mid (q : Nat) (l : List UInt8) (w : World) (q1 : 1 ≤ q) (q2 : q ≤ 16) (hl0 : 15 < l.length) (hl : l.length ≤ 30) (hW : Wof q l) :
    Calls Tryz.prog 23 #[.int .i64 (q : Int), .string ⟨l.toArray⟩] w (IntOut w (rk q l)) := by
  have hq : Int.tdiv (l.length : Int) 2 = ((l.length / 2 : Nat) : Int) := by rw [Int.tdiv_eq_ediv_of_nonneg (by omega)]; rfl
  obtain ⟨h, hh⟩ : ∃ h, l.length / 2 = h := ⟨_, rfl⟩
  rw [hh] at hq
  have hhl : h ≤ 15 := by omega
  have hh2 : l.length - h ≤ 15 := by omega
  have hhle : h ≤ l.length := by omega
  have hc1 := run_take_at l (l.take h) h (h : Int) rfl hhle rfl
  have hc2 := run_drop_at l (l.drop h) h (h : Int) rfl hhle rfl
  have hU := rank_short q (l.take h)
  have hV := rank_short q (l.drop h)
  have HU := Lib.hid (fun W => hU W q1 q2 (by rw [List.length_take]; omega) (hW.take h))
  have HV := Lib.hid (fun W => hV W q1 q2 (by rw [List.length_drop]; omega) (hW.drop h))
  have hku := rk_lt (hW.take h)
  have hkv := rk_lt (hW.drop h)
  rw [List.length_take, Nat.min_eq_left hhle] at hku
  rw [List.length_drop] at hkv
  have HP := Lib.hid (power_any q q1 q2 (l.length - h) (by omega))
  have hsplit : rk q l = rk q (l.take h) * q ^ (l.length - h) + rk q (l.drop h) := by
    conv => lhs; rw [← List.take_append_drop h l]
    rw [rk_append, List.length_drop]
  have I1 := isInt_lt (k := 2) q2 hku (by omega) (by omega)
  have I2 := isInt_pow (n := l.length - h) (k := 2) q2 (by omega) (by omega) (by omega) (by omega)
  have I3 : IsInt (.agg #[.bool (sg ((rk q (l.take h) * q ^ (l.length - h) : Nat) : Int)), .string (mg ((rk q (l.take h) * q ^ (l.length - h) : Nat) : Int))]) ((rk q (l.take h) * q ^ (l.length - h) : Nat) : Int) 4 :=
    isInt_lt (q := q) (n := h + (l.length - h)) q2 (by rw [Nat.pow_add]; exact Nat.mul_lt_mul_of_pos_right hku (Nat.pow_pos (by omega))) (by omega) (by omega)
  have I4 := isInt_lt (k := 2) q2 hkv (by omega) (by omega)
  have hM := fun W => imul_any _ _ _ _ 2 2 W I1 I2
  have hA := fun W => iadd_any _ _ _ _ 4 2 W I3 I4
  simp only [← Int.natCast_mul] at hM
  simp only [← Int.natCast_add, ← hsplit] at hA
  obtain ⟨U, hUU⟩ : ∃ U, l.take h = U := ⟨_, rfl⟩
  obtain ⟨V, hVV⟩ : ∃ V, l.drop h = V := ⟨_, rfl⟩
  rw [hUU] at hc1 hM hA
  rw [hVV] at hc2 hA
  simp only [hUU] at HU
  simp only [hVV] at HV
  obtain ⟨x, hx⟩ : ∃ x : Int, (rk q U : Int) = x := ⟨_, rfl⟩
  obtain ⟨y, hy⟩ : ∃ y : Int, (rk q V : Int) = y := ⟨_, rfl⟩
  obtain ⟨p, hp⟩ : ∃ p : Int, ((q ^ (l.length - h) : Nat) : Int) = p := ⟨_, rfl⟩
  obtain ⟨m, hm⟩ : ∃ m : Int, ((rk q U * q ^ (l.length - h) : Nat) : Int) = m := ⟨_, rfl⟩
  obtain ⟨z, hz⟩ : ∃ z : Int, (rk q l : Int) = z := ⟨_, rfl⟩
  simp only [hx] at HU
  simp only [hy] at HV
  simp only [hp] at HP
  simp only [hx, hp, hm] at hM
  simp only [hm, hy, hz] at hA
  rw [hz]
  have HM := Lib.hid hM
  have HA := Lib.hid hA
  obtain ⟨n2, hn2⟩ : ∃ n2, l.length - h = n2 := ⟨_, rfl⟩
  rw [hn2] at HP
  have hsub : (l.length : Int) - (h : Int) = (n2 : Int) := by omega
  have hw1 : IntKind.i64.wrap ((l.length : Int) - (h : Int)) = (n2 : Int) := by rw [IntKind.wrap_i64]; omega
  have hw2 : IntKind.i64.wrap (n2 : Int) = (n2 : Int) := by rw [IntKind.wrap_i64]; omega
  have hr := ResCell.new w 23
  have hb := below1 w (.cells #[.bool false, .string ⟨#[]⟩] 23)
  have hR := Lib.hid (And.intro hb.drew hr.drew)
  clear hUU hVV hx hy hp hm hz hM hA hsplit I1 I2 I3 I4 hku hkv hU hV hW hr hb hn2
  go_enter Tryz.func23, Tryz.ntmps23
  go_wp2_with fail
  go_region_held3 (fun _ => True) (trivial)
    (first
      | (go_at_call 23; first
        | ((with_reducible refine (HU.out _).mono ?_); rintro e W1 ⟨rfl, b1⟩; (have B1 := below_more hR.out.1 (Nat.le_refl _) b1); (have R1 := hR.out.2.keep b1))
        | ((with_reducible refine (HV.out _).mono ?_); rintro e W4 ⟨rfl, b4⟩; (have B4 := below_more B3 (Nat.le_refl _) b4); (have R4 := R3.keep b4)))
      | (go_at_call 32; (with_reducible refine (HP.out _).mono ?_); rintro e W2 ⟨rfl, b2⟩; (have B2 := below_more B1 (Nat.le_refl _) b2); (have R2 := R1.keep b2))
      | (go_at_call 57; (with_reducible refine (HM.out _).mono ?_); rintro e W3 ⟨rfl, b3⟩; (have B3 := below_more B2 (Nat.le_refl _) b3); (have R3 := R2.keep b3))
      | (go_at_call 56; (with_reducible refine (HA.out _).mono ?_); rintro e W5 ⟨rfl, b5⟩; (have B5 := below_more B4 (Nat.le_refl _) b5); (obtain ⟨r1, r2, r3, r4⟩ := R4.keep b5)))
  all_goals
    go_wp2
    have hf := (B5.setCell (p := ⟨w.heap.size, 0, none⟩) (Nat.le_refl _) (.bool (sg z))).setCell (p := ⟨w.heap.size, 1, none⟩) (Nat.le_refl _) (.string (mg z))
    exact bodyPost_ret (v := .agg #[.bool (sg z), .string (mg z)]) (by simp [results, Tryz.results23, go_sem, r1, r2]) rfl ⟨rfl, hf⟩
theorem rank_30 (q : Nat) (l : List UInt8) (w : World) (q1 : 1 ≤ q) (q2 : q ≤ 16) (hl : l.length ≤ 30) (hW : Wof q l) :
    Calls Tryz.prog 23 #[.int .i64 (q : Int), .string ⟨l.toArray⟩] w (IntOut w (rk q l)) := by
  rcases Nat.lt_or_ge 15 l.length with h | h
  · exact rank_mid q l w q1 q2 h hl hW
  · exact rank_short q l w q1 q2 h hW

/-! Unranking. -/
theorem unrk_at (q : Nat) : ∀ (n a i : Nat), i < n → (unrk q n a)[i]? = some (lt (a / q ^ (n - 1 - i) % q)) := by
  intro n
  induction n with
  | zero => intro a i h; omega
  | succ n ih =>
    intro a i h
    rw [unrk]
    rcases Nat.lt_or_ge i n with h1 | h1
    · rw [List.getElem?_append_left (by rw [unrk_len]; exact h1), ih (a / q) i h1, Nat.div_div_eq_div_mul, show n + 1 - 1 - i = (n - 1 - i) + 1 by omega, Nat.pow_succ, Nat.mul_comm q]
    · have : i = n := by omega
      subst this
      rw [List.getElem?_append_right (by rw [unrk_len]; exact Nat.le_refl _), unrk_len, Nat.sub_self, show i + 1 - 1 - i = 0 by omega, Nat.pow_zero, Nat.div_one]; rfl
theorem Tryz.infoU8v : (Tryz.prog.info? 5).map (fun i => (i.zero, i.size, i.bytes)) = some (some (.int .u8 0), 1, 1) := by kernel_rfl
theorem lt_mem {d : Nat} (h : d < 16) : lets[d]? = some (lt d) := by
  have h1 : d < lets.length := h
  rw [List.getElem?_eq_getElem h1, lt_at h1]
set_option maxRecDepth 100000 in
set_option maxHeartbeats 6400000 in
theorem shortUnrank_any (q n a : Nat) (w : World) (q1 : 1 ≤ q) (q2 : q ≤ 16) (hn : n ≤ 15) (ha : a < 1152921504606846976) :
    Calls Tryz.prog 70 #[.int .i64 (q : Int), .int .i64 (n : Int), .int .i64 (a : Int)] w fun e w' => e = .returned (.string ⟨(unrk q n a).toArray⟩) ∧ Below w.heap.size w w' := by
  have hmk := run_make_row' (P := Tryz.prog) 56 5 (.int .u8 0) 1 Tryz.underlying56 Tryz.infoU8v rfl .i64 .i64 n (by omega) (by omega)
  have HU := Lib.hid (unrk_at q n a)
  obtain ⟨R, hR⟩ : ∃ R, unrk q n a = R := ⟨_, rfl⟩
  have HRl := Lib.hid (show R.length = n by rw [← hR, unrk_len])
  rw [hR] at HU ⊢
  have hW0 := World.rowIs_made w (.int .u8 0) n 5
  have hB0 := below1 w (.cells (madeCells #[.int .u8 0] n) 5)
  clear hR
  go_enter Tryz.func70, Tryz.ntmps70
  go_wp2_with fail
  generalize w.alloc (.cells (madeCells #[.int .u8 0] n) 5) = W0 at *
  clear hmk
  go_loopg [2, 8] n (fun g s2 s8 wx => g ≤ n ∧ s8 = .int .i64 ((g : Int) - 1) ∧ (∃ m : Nat, s2 = .int .i64 (m : Int) ∧ m < 1152921504606846976 ∧ Hid (a / q ^ (n - g) = m)) ∧ wx.rowIs w.heap.size 5 n (fun j => if j < g then .int .u8 0 else .int .u8 ((R.getD j 0).toNat : Int)) ∧ Below w.heap.size w wx)
  case atStart => exact ⟨Nat.le_refl _, rfl, ⟨a, rfl, ha, by show _ = _; rw [Nat.sub_self, Nat.pow_zero, Nat.div_one]⟩, hW0.congr (fun i hi => by rw [if_pos hi]), hB0⟩
  case round =>
    obtain ⟨hg, rfl, ⟨m, rfl, hm, Hm⟩, hrow, hb⟩ := hrel
    rcases gk with _ | g
    · have hbk : (convert 56 9 (.slice (some ⟨w.heap.size, 0, none⟩) n n)).run Tryz.prog wr = .ok (.string ⟨R.toArray⟩) wr := by
        have := run_convert_bytes_back wr 56 9 5 ⟨w.heap.size, 0, none⟩ n R Tryz.underlying56 Tryz.underlying5 Tryz.underlying9 (fun j hj => by
          rw [show (⟨w.heap.size, 0, none⟩ : Addr).add j = ⟨w.heap.size, j, none⟩ by unfold Addr.add; split <;> simp_all, hrow.cell (by rw [← HRl.out]; exact hj), if_neg (by omega), List.getD_eq_getElem?_getD, List.getElem?_eq_getElem hj]
          rfl)
        rwa [HRl.out] at this
      clear hW0 hB0 hrow
      go_wp2
      go_ret
      exact ⟨rfl, hb⟩
    · have hgn : g < n := by omega
      obtain ⟨r, hrr⟩ : ∃ r, m % q = r := ⟨_, rfl⟩
      have hrq : r < q := by rw [← hrr]; exact Nat.mod_lt _ (by omega)
      have hx : R[g]? = some (lt r) := by rw [HU.out g hgn, show n - 1 - g = n - (g + 1) by omega, Hm.out, hrr]
      have hix : ∀ w, (Instr.index 9 (.string ⟨#[48, 49, 50, 51, 52, 53, 54, 55, 56, 57, 97, 98, 99, 100, 101, 102]⟩) (.int .i64 (r : Int))).run Tryz.prog w = .ok (.int .u8 ((lt r).toNat : Int)) w := run_at_bytes lets r (lt r) (lt_mem (by omega)) (r : Int) rfl
      have hmr : Int.tmod (m : Int) (q : Int) = (r : Int) := by rw [Int.tmod_eq_emod_of_nonneg (by omega), ← hrr]; rfl
      obtain ⟨k, hk⟩ : ∃ k, m / q = k := ⟨_, rfl⟩
      have hmq : Int.tdiv (m : Int) (q : Int) = (k : Int) := by rw [Int.tdiv_eq_ediv_of_nonneg (by omega), ← hk]; rfl
      have hkm : k ≤ m := by rw [← hk]; exact Nat.div_le_self _ _
      have Hk := Lib.hid (show a / q ^ (n - g) = k by rw [← hk, ← Hm.out, Nat.div_div_eq_div_mul, show n - g = n - (g + 1) + 1 by omega, Nat.pow_succ])
      have hq0 : ¬ (q : Int) = 0 := by omega
      have hcell := hrow.cell hgn
      rw [if_pos (by omega)] at hcell
      have hfz := hrow.frozen g
      have hg1 : ((g + 1 : Nat) : Int) - 1 = (g : Int) := by omega
      obtain ⟨c, hc⟩ : ∃ c, lt r = c := ⟨_, rfl⟩
      rw [hc] at hx hix
      have hcl := c.toNat_lt
      have HR2 := Lib.hid ((hrow.set g (.int .u8 (c.toNat : Int))).congr (g := fun j => if j < g then .int .u8 0 else .int .u8 ((R.getD j 0).toNat : Int)) (fun i hi => by
        by_cases h1 : i = g
        · subst h1
          rw [if_pos rfl, if_neg (by omega), List.getD_eq_getElem?_getD, hx]; rfl
        · rw [if_neg h1]
          by_cases h2 : i < g
          · rw [if_pos (by omega), if_pos h2]
          · rw [if_neg (by omega), if_neg h2]))
      have HB2 := Lib.hid (hb.setCell (p := ⟨w.heap.size, g, none⟩) (Nat.le_refl _) (.int .u8 (c.toNat : Int)))
      rw [hg1]
      clear hx hrow hb hrr hk hc hW0 hB0 hg1
      go_wp2
      go_roundg g
      case measure => omega
      case rel => exact ⟨by omega, by go_num, ⟨k, by go_num, by omega, Hk⟩, HR2.out, HB2.out⟩
end Go.Proofs.YtigdjlhihhakmaaGreatDoor

namespace Go.Proofs.YtigdjlhihhakmaaGreatDoor
open Go.RowKit

/-- How many operations have not come up. -/
def unl (listed : Array Bool) : Nat := listed.toList.count false
theorem unl_set {listed : Array Bool} {i : Nat} (h : listed.getD i true = false) : unl (listed.setIfInBounds i true) + 1 = unl listed := by
  have hi : i < listed.size := by
    rcases Nat.lt_or_ge i listed.size with h1 | h1
    · exact h1
    · simp [Array.getD, Nat.not_lt.2 h1] at h
  have hl : listed.toList[i]'(by simpa using hi) = false := by
    simp [Array.getD, hi] at h
    simpa using h
  have hp : 0 < listed.toList.count false := List.count_pos_iff.2 (by rw [← hl]; exact List.getElem_mem _)
  unfold unl
  rw [Array.toList_setIfInBounds, List.count_set (by simpa using hi), hl]
  rw [if_pos (by rfl), if_neg (by decide)]
  omega
/-- Every operation waits for earlier ones alone. -/
def backwards (md : Region.Mode) (ops : Array Oper) : Bool := (List.range ops.size).all fun i => ((ops[i]?).map fun o => o.after.all fun e => !Region.binds md e || decide (e.on < i)).getD true

section
variable {P : Program} {md : Region.Mode} {ops : Array Oper} {Q : Exit → Act → World → Prop}

theorem backwards_spec (h : backwards md ops = true) {i : Nat} {o : Oper} (ho : ops[i]? = some o) {e : _} (he : e ∈ o.after) (hb : Region.binds md e = true) : e.on < i := by
  unfold backwards at h
  rw [List.all_eq_true] at h
  have h1 := h i (List.mem_range.2 (Array.getElem?_eq_some_iff.1 ho).1)
  rw [ho] at h1
  simp only [Option.map_some, Option.getD_some, Array.all_eq_true_iff_forall_mem] at h1
  have h2 := h1 e he
  simpa [hb] using h2
theorem all_listed (hbk : backwards md ops = true) {listed : Array Bool} (hs : listed.size = ops.size) (hr : Region.ready md ops listed = []) : ∀ i, i < ops.size → listed.getD i false = true := by
  intro i
  induction i using Nat.strongRecOn with
  | ind i ih =>
    intro hi
    cases hl : listed.getD i true with
    | true => simpa [Array.getD, hs, hi] using hl
    | false =>
      exfalso
      have hm : i ∈ Region.ready md ops listed := mem_ready.2 ⟨hl, ops[i], by simp [hi], fun e he hb => by
        have h1 := backwards_spec hbk (i := i) (o := ops[i]) (by simp [hi]) he hb
        exact ih _ h1 (by omega)⟩
      rw [hr] at hm
      cases hm

theorem any_of_inv {J : Array Bool → Act → World → Prop} (hbk : backwards md ops = true)
    (hstep : ∀ i o listed a w, ops[i]? = some o → listed.size = ops.size → listed.getD i true = false → (∀ e ∈ o.after, Region.binds md e = true → listed.getD e.on false = true) → J listed a w → wpOp P ops Q i (fun a' w' => J (listed.setIfInBounds i true) a' w') a w)
    (hend : ∀ listed a w, listed.size = ops.size → (∀ i, i < ops.size → listed.getD i false = true) → J listed a w → Q .normal a w) :
    ∀ (fuel : Nat) (listed : Array Bool) (a : Act) (w : World), unl listed ≤ fuel → listed.size = ops.size → J listed a w → wpAny P md ops Q fuel listed a w
  | 0, listed, a, w, hu, hs, hJ => by
    have hr : Region.ready md ops listed = [] := by
      rcases hx : Region.ready md ops listed with _ | ⟨i, l⟩
      · rfl
      · have := unl_set (mem_ready.1 (show i ∈ Region.ready md ops listed by rw [hx]; exact List.mem_cons_self)).1
        omega
    exact ⟨hr, hend listed a w hs (all_listed hbk hs hr) hJ⟩
  | fuel + 1, listed, a, w, hu, hs, hJ => by
    refine ⟨fun hr => hend listed a w hs (all_listed hbk hs hr) hJ, fun i hi => ?_⟩
    obtain ⟨h1, o, h2, h3⟩ := mem_ready.1 hi
    have h4 := unl_set h1
    exact wpOp_mono (fun a' w' h => any_of_inv hbk hstep hend fuel _ a' w' (by omega) (by simpa using hs) h) (hstep i o listed a w h2 hs h1 h3 hJ)

theorem region_inv {J : Array Bool → Act → World → Prop} {id : Nat} {a : Act} {w : World} (hm : P.follows .mixedOrders = true) (hbk : backwards .any ops = true) (h0 : J (Array.replicate ops.size false) a w.drew)
    (hstep : ∀ i o listed a w, ops[i]? = some o → listed.size = ops.size → listed.getD i true = false → (∀ e ∈ o.after, Region.binds .any e = true → listed.getD e.on false = true) → J listed a w → wpOp P ops Q i (fun a' w' => J (listed.setIfInBounds i true) a' w') a w)
    (hend : ∀ listed a w, listed.size = ops.size → (∀ i, i < ops.size → listed.getD i false = true) → J listed a w → Q .normal a w) :
    (Code.region id ops true).wp P Q a w :=
  wp_region_any hm (any_of_inv hbk hstep hend _ _ _ _ (by unfold unl; exact Nat.le_trans (List.count_le_length) (by simp)) (by simp) h0)
/-- As region_inv, with the waiting as a test that computes. -/
theorem region_inv' {J : Array Bool → Act → World → Prop} {id : Nat} {a : Act} {w : World} (hm : P.follows .mixedOrders = true) (hbk : backwards .any ops = true) (h0 : J (Array.replicate ops.size false) a w.drew)
    (hstep : ∀ i, i < ops.size → ∀ listed a w, listed.getD i false = false → (∀ j, waitsFor .any ops i j = true → listed.getD j false = true) → J listed a w → wpOp P ops Q i (fun a' w' => J (listed.setIfInBounds i true) a' w') a w)
    (hend : ∀ listed a w, (∀ i, i < ops.size → listed.getD i false = true) → J listed a w → Q .normal a w) :
    (Code.region id ops true).wp P Q a w := by
  refine region_inv hm hbk h0 (fun i o listed a w ho hs hl hw hJ => ?_) (fun listed a w _ h hJ => hend listed a w h hJ)
  have hi := (Array.getElem?_eq_some_iff.1 ho).1
  refine hstep i hi listed a w (by simpa [Array.getD, hs, hi] using hl) (fun j hj => ?_) hJ
  obtain ⟨os, h1, e, h2, h3, h4⟩ := waitsFor_spec hj
  rw [ho] at h1
  injection h1 with h1
  subst h1
  rw [← h4]
  exact hw e h2 h3
theorem stepJ {J : Act → World → Prop} {i : Nat} {o : Oper} {a : Act} {w : World} (ho : ops[i]? = some o)
    (h : ∀ K' : Act → World → Prop, Shut (∀ a w, J a w → K' a w) → if Region.wanted o (yielded ops a.tmps) = true then Oper.wp P o a w K' Q else K' (a.put o.dst undef) w) : wpOp P ops Q i J a w :=
  wpOp_step ho (fun K' hK => h K' (fun a w hJ => hK a w hJ))
theorem fl {L : Array Bool} {i j : Nat} (h : i ≠ j) (hf : (L.setIfInBounds i true).getD j false = true) : L.getD j false = true := by
  simp only [Array.getD_eq_getD_getElem?, Array.getElem?_setIfInBounds_ne h] at hf ⊢
  exact hf
end
end Go.Proofs.YtigdjlhihhakmaaGreatDoor

namespace Go.Proofs.YtigdjlhihhakmaaGreatDoor
open Go.RowKit

/-- A variable of an integer in memory: what its cells hold, and that they may be written. -/
def BFr (W : World) (p : Nat) : Prop := W.frozen? ⟨p, 0, none⟩ = false ∧ W.frozen? ⟨p, 1, none⟩ = false
theorem BVar.lt {W : World} {p : Nat} {z : Int} (h : BVar W p z) : p < W.heap.size := World.block_lt_of_cell? W ⟨p, 0, none⟩ h.1
/-- A variable whose integer has come up, or not yet. -/
def SlW (B : Nat) (x : Int) (F : Prop) (u : Value) (W : World) : Prop := ∃ p, u = .pointer (some ⟨p, 0, none⟩) ∧ B ≤ p ∧ (∃ g s, W.cell? ⟨p, 0, none⟩ = some (.bool g) ∧ W.cell? ⟨p, 1, none⟩ = some (.string s) ∧ BFr W p) ∧ (F → BVar W p x)
theorem bfr_keep {W W' : World} {p : Nat} {g : Bool} {s : ByteArray} (h : W.cell? ⟨p, 0, none⟩ = some (.bool g) ∧ W.cell? ⟨p, 1, none⟩ = some (.string s) ∧ BFr W p) (hb : Below W.heap.size W W') :
    W'.cell? ⟨p, 0, none⟩ = some (.bool g) ∧ W'.cell? ⟨p, 1, none⟩ = some (.string s) ∧ BFr W' p :=
  ⟨cell_keep h.1 hb, cell_keep h.2.1 hb, frozen_keep h.1 h.2.2.1 hb, frozen_keep h.2.1 h.2.2.2 hb⟩
theorem SlW.keep {B : Nat} {x : Int} {F : Prop} {u : Value} {W W' : World} (h : SlW B x F u W) (hb : Below W.heap.size W W') : SlW B x F u W' := by
  obtain ⟨p, h1, h2, ⟨g, s, h3⟩, h4⟩ := h
  exact ⟨p, h1, h2, ⟨g, s, bfr_keep h3 hb⟩, fun f => (h4 f).keep hb⟩
theorem SlW.imp {B : Nat} {x : Int} {F F' : Prop} {u : Value} {W : World} (h : SlW B x F u W) (hf : F' → F) : SlW B x F' u W := by
  obtain ⟨p, h1, h2, h3, h4⟩ := h
  exact ⟨p, h1, h2, h3, fun f => h4 (hf f)⟩
theorem SlW.new {B : Nat} {x : Int} {F : Prop} {W : World} {t : TypeId} {g : Bool} {s : ByteArray} (hF : ¬F) (hb : B ≤ W.heap.size) : SlW B x F (.pointer (some ⟨W.heap.size, 0, none⟩)) (W.alloc (.cells #[.bool g, .string s] t)) := by
  refine ⟨_, rfl, hb, ⟨g, s, cell_two0 _ _ _ _, cell_two1 _ _ _ _, ?_, ?_⟩, fun f => absurd f hF⟩ <;> simp [go_sem]
theorem SlW.ne_new {B : Nat} {x : Int} {F : Prop} {u : Value} {W : World} (h : SlW B x F u W) : u ≠ .pointer (some ⟨W.heap.size, 0, none⟩) := by
  obtain ⟨p, rfl, _, ⟨g, s, h3⟩, _⟩ := h
  have := World.block_lt_of_cell? W ⟨p, 0, none⟩ h3.1
  dsimp only at this
  intro e
  injection e with e
  injection e with e
  injection e with e
  omega
/-- An integer stored in a variable. -/
def stI (W : World) (q : Nat) (y : Int) : World := (W.setCell ⟨q, 0, none⟩ (.bool (sg y))).setCell ⟨q, 1, none⟩ (.string (mg y))
theorem stI_below {B q : Nat} {W : World} {y : Int} (h : B ≤ q) : Below B W (stI W q y) := ((Below.refl B W).setCell (p := ⟨q, 0, none⟩) h _).setCell (p := ⟨q, 1, none⟩) h _
theorem stI_far {W : World} {p q : Nat} {y z : Int} (h : BVar W p z) (hne : q ≠ p) : BVar (stI W q y) p z := bvar_far h hne
theorem stI_far_cells {W : World} {p q : Nat} {y : Int} {a b : Value} (h : W.cell? ⟨p, 0, none⟩ = some a ∧ W.cell? ⟨p, 1, none⟩ = some b ∧ BFr W p) (hne : q ≠ p) :
    (stI W q y).cell? ⟨p, 0, none⟩ = some a ∧ (stI W q y).cell? ⟨p, 1, none⟩ = some b ∧ BFr (stI W q y) p := by
  unfold stI BFr
  rw [World.cell?_setCell_far _ _ _ _ (by exact hne), World.cell?_setCell_far _ _ _ _ (by exact hne), World.cell?_setCell_far _ _ _ _ (by exact hne), World.cell?_setCell_far _ _ _ _ (by exact hne), World.frozen?_setCell, World.frozen?_setCell, World.frozen?_setCell, World.frozen?_setCell]
  exact h
theorem stI_same {W : World} {q : Nat} {y : Int} {a b : Value} (h : W.cell? ⟨q, 0, none⟩ = some a ∧ W.cell? ⟨q, 1, none⟩ = some b ∧ BFr W q) : BVar (stI W q y) q y ∧ BFr (stI W q y) q := by
  obtain ⟨h1, h2, h3, h4⟩ := h
  unfold stI BVar BFr
  refine ⟨⟨?_, ?_⟩, ?_, ?_⟩ <;> simp [go_sem, h1, h2, h3, h4]
theorem SlW.far {B q : Nat} {x y : Int} {F : Prop} {u : Value} {W : World} (h : SlW B x F u W) (hne : u ≠ .pointer (some ⟨q, 0, none⟩)) : SlW B x F u (stI W q y) := by
  obtain ⟨p, rfl, h2, ⟨g, s, h3⟩, h4⟩ := h
  have hpq : q ≠ p := fun e => hne (by rw [e])
  exact ⟨p, rfl, h2, ⟨g, s, stI_far_cells h3 hpq⟩, fun f => stI_far (h4 f) hpq⟩
theorem SlW.put {B p : Nat} {x : Int} {F F' : Prop} {W : World} (h : SlW B x F (.pointer (some ⟨p, 0, none⟩)) W) : SlW B x F' (.pointer (some ⟨p, 0, none⟩)) (stI W p x) := by
  obtain ⟨p', e, h2, ⟨g, s, h3⟩, _⟩ := h
  injection e with e
  injection e with e
  injection e with e
  subst e
  obtain ⟨k1, k2⟩ := stI_same (y := x) h3
  exact ⟨p, rfl, h2, ⟨_, _, k1.1, k1.2, k2⟩, fun _ => k1⟩
theorem AS.far {w W : World} {p q : Nat} {z y : Int} (h : AS w p z W) (hq : w.heap.size ≤ q) (hne : q ≠ p) : AS w p z (stI W q y) :=
  ⟨⟨h.1.1.trans (stI_below hq), by have := (stI_below (B := q) (W := W) (q := q) (y := y) (Nat.le_refl _)).size; exact Nat.le_trans h.1.2 this⟩, stI_far h.2 hne⟩
theorem AS.lt {w W : World} {p : Nat} {z : Int} (h : AS w p z W) : p < W.heap.size := World.block_lt_of_cell? W ⟨p, 0, none⟩ h.2.1
end Go.Proofs.YtigdjlhihhakmaaGreatDoor
