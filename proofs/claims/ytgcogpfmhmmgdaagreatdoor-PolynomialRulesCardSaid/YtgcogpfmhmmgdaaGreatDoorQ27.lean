/- What the functions in rational's table of operations return. Condition: the integers have at most 4*10^6 digits to the base 2^32. -/
import Derived.Test.YtgcogpfmhmmgdaaGreatDoorQ26
import Derived.Laws.EntriesVeiled

namespace Go.Proofs.YtgcogpfmhmmgdaaGreatDoor
open Go.RowKit
set_option linter.unusedSimpArgs false

/-- Two functions and two rational numbers in memory. -/
def TenC (W : World) (c1 c2 p q : Nat) (g1 : Bool) (s1 : ByteArray) (g2 : Bool) (s2 : ByteArray) (g3 : Bool) (s3 : ByteArray) (g4 : Bool) (s4 : ByteArray) : Prop :=
  W.cell? ⟨c1, 0, none⟩ = some (.func (.func 113) #[] #[]) ∧ W.cell? ⟨c2, 0, none⟩ = some (.func (.func 114) #[] #[]) ∧ RIn2 W p q g1 s1 g2 s2 g3 s3 g4 s4
theorem TenC.keep {W W1 : World} {c1 c2 p q : Nat} {g1 g2 g3 g4 : Bool} {s1 s2 s3 s4 : ByteArray} (h : TenC W c1 c2 p q g1 s1 g2 s2 g3 s3 g4 s4) (hb : Below W.heap.size W W1) : TenC W1 c1 c2 p q g1 s1 g2 s2 g3 s3 g4 s4 := ⟨cell_keep h.1 hb, cell_keep h.2.1 hb, h.2.2.keep hb⟩
theorem TenC.set {W : World} {c1 c2 p q : Nat} {g1 g2 g3 g4 : Bool} {s1 s2 s3 s4 : ByteArray} (h : TenC W c1 c2 p q g1 s1 g2 s2 g3 s3 g4 s4) (a : Addr) (u : Value) (h1 : c1 ≠ a.block) (h2 : c2 ≠ a.block) (h3 : p ≠ a.block) (h4 : q ≠ a.block) : TenC (W.setCell a u) c1 c2 p q g1 s1 g2 s2 g3 s3 g4 s4 :=
  ⟨by rw [World.cell?_setCell_far _ _ _ _ (by exact fun e => h1 e.symm)]; exact h.1, by rw [World.cell?_setCell_far _ _ _ _ (by exact fun e => h2 e.symm)]; exact h.2.1, h.2.2.set a u h3 h4⟩
theorem ops1_any (g1 g2 g3 g4 : Bool) (t1 t2 t3 t4 : ByteArray) (x y : Int) (k : Nat) (w : World) (h1 : IsInt (.agg #[.bool g1, .string t1]) x k) (h2 : IsInt (.agg #[.bool g4, .string t4]) y k) :
    Calls Tryz.prog 113 #[.agg #[.bool g1, .string t1, .bool g2, .string t2], .agg #[.bool g3, .string t3, .bool g4, .string t4]] w (IntOut w (x * y)) := by
  have P0 := ResCell.new ((w.alloc (.cells #[.bool g1, .string t1, .bool g2, .string t2] 33)).alloc (.cells #[.bool g3, .string t3, .bool g4, .string t4] 33)) 27
  rw [World.size_alloc, World.size_alloc] at P0
  have B0 := below3 w (.cells #[.bool g1, .string t1, .bool g2, .string t2] 33) (.cells #[.bool g3, .string t3, .bool g4, .string t4] 33) (.cells #[.bool false, .string ⟨#[]⟩] 27)
  have H1 := Lib.hid h1
  have H2 := Lib.hid h2
  clear h1 h2
  go_enter Tryz.func113, Tryz.ntmps113
  go_wp2_with fail
  refine (imul_any _ _ x y k k _ H1.out H2.out).mono ?_
  rintro e W1 ⟨rfl, b1⟩
  obtain ⟨r1, r2, r3, r4⟩ := P0.keep b1
  go_wp2
  exact bodyPost_ret (v := .agg #[.bool (sg (x * y)), .string (mg (x * y))]) (by simp [results, Tryz.results113, go_sem, r1, r2]) rfl ⟨rfl, below_more2 B0 (Nat.le_refl _) b1 (by show w.heap.size ≤ w.heap.size + 1 + 1; omega) (by show w.heap.size ≤ w.heap.size + 1 + 1; omega)⟩
theorem ops2_any (g1 g2 g3 g4 : Bool) (t1 t2 t3 t4 : ByteArray) (x y : Int) (k : Nat) (w : World) (h1 : IsInt (.agg #[.bool g2, .string t2]) x k) (h2 : IsInt (.agg #[.bool g3, .string t3]) y k) :
    Calls Tryz.prog 114 #[.agg #[.bool g1, .string t1, .bool g2, .string t2], .agg #[.bool g3, .string t3, .bool g4, .string t4]] w (IntOut w (x * y)) := by
  have P0 := ResCell.new ((w.alloc (.cells #[.bool g1, .string t1, .bool g2, .string t2] 33)).alloc (.cells #[.bool g3, .string t3, .bool g4, .string t4] 33)) 27
  rw [World.size_alloc, World.size_alloc] at P0
  have B0 := below3 w (.cells #[.bool g1, .string t1, .bool g2, .string t2] 33) (.cells #[.bool g3, .string t3, .bool g4, .string t4] 33) (.cells #[.bool false, .string ⟨#[]⟩] 27)
  have H1 := Lib.hid h1
  have H2 := Lib.hid h2
  clear h1 h2
  go_enter Tryz.func114, Tryz.ntmps114
  go_wp2_with fail
  refine (imul_any _ _ x y k k _ H1.out H2.out).mono ?_
  rintro e W1 ⟨rfl, b1⟩
  obtain ⟨r1, r2, r3, r4⟩ := P0.keep b1
  go_wp2
  exact bodyPost_ret (v := .agg #[.bool (sg (x * y)), .string (mg (x * y))]) (by simp [results, Tryz.results114, go_sem, r1, r2]) rfl ⟨rfl, below_more2 B0 (Nat.le_refl _) b1 (by show w.heap.size ≤ w.heap.size + 1 + 1; omega) (by show w.heap.size ≤ w.heap.size + 1 + 1; omega)⟩
theorem ops3_any (g1 g2 g3 g4 : Bool) (t1 t2 t3 t4 : ByteArray) (x y : Int) (k : Nat) (w : World) (h1 : IsInt (.agg #[.bool g2, .string t2]) x k) (h2 : IsInt (.agg #[.bool g4, .string t4]) y k) :
    Calls Tryz.prog 115 #[.agg #[.bool g1, .string t1, .bool g2, .string t2], .agg #[.bool g3, .string t3, .bool g4, .string t4]] w (IntOut w (x * y)) := by
  have P0 := ResCell.new ((w.alloc (.cells #[.bool g1, .string t1, .bool g2, .string t2] 33)).alloc (.cells #[.bool g3, .string t3, .bool g4, .string t4] 33)) 27
  rw [World.size_alloc, World.size_alloc] at P0
  have B0 := below3 w (.cells #[.bool g1, .string t1, .bool g2, .string t2] 33) (.cells #[.bool g3, .string t3, .bool g4, .string t4] 33) (.cells #[.bool false, .string ⟨#[]⟩] 27)
  have H1 := Lib.hid h1
  have H2 := Lib.hid h2
  clear h1 h2
  go_enter Tryz.func115, Tryz.ntmps115
  go_wp2_with fail
  refine (imul_any _ _ x y k k _ H1.out H2.out).mono ?_
  rintro e W1 ⟨rfl, b1⟩
  obtain ⟨r1, r2, r3, r4⟩ := P0.keep b1
  go_wp2
  exact bodyPost_ret (v := .agg #[.bool (sg (x * y)), .string (mg (x * y))]) (by simp [results, Tryz.results115, go_sem, r1, r2]) rfl ⟨rfl, below_more2 B0 (Nat.le_refl _) b1 (by show w.heap.size ≤ w.heap.size + 1 + 1; omega) (by show w.heap.size ≤ w.heap.size + 1 + 1; omega)⟩
theorem ops6_any (g1 g2 g3 g4 : Bool) (t1 t2 t3 t4 : ByteArray) (x y : Int) (k : Nat) (w : World) (h1 : IsInt (.agg #[.bool g1, .string t1]) x k) (h2 : IsInt (.agg #[.bool g3, .string t3]) y k) :
    Calls Tryz.prog 118 #[.agg #[.bool g1, .string t1, .bool g2, .string t2], .agg #[.bool g3, .string t3, .bool g4, .string t4]] w (IntOut w (x * y)) := by
  have P0 := ResCell.new ((w.alloc (.cells #[.bool g1, .string t1, .bool g2, .string t2] 33)).alloc (.cells #[.bool g3, .string t3, .bool g4, .string t4] 33)) 27
  rw [World.size_alloc, World.size_alloc] at P0
  have B0 := below3 w (.cells #[.bool g1, .string t1, .bool g2, .string t2] 33) (.cells #[.bool g3, .string t3, .bool g4, .string t4] 33) (.cells #[.bool false, .string ⟨#[]⟩] 27)
  have H1 := Lib.hid h1
  have H2 := Lib.hid h2
  clear h1 h2
  go_enter Tryz.func118, Tryz.ntmps118
  go_wp2_with fail
  refine (imul_any _ _ x y k k _ H1.out H2.out).mono ?_
  rintro e W1 ⟨rfl, b1⟩
  obtain ⟨r1, r2, r3, r4⟩ := P0.keep b1
  go_wp2
  exact bodyPost_ret (v := .agg #[.bool (sg (x * y)), .string (mg (x * y))]) (by simp [results, Tryz.results118, go_sem, r1, r2]) rfl ⟨rfl, below_more2 B0 (Nat.le_refl _) b1 (by show w.heap.size ≤ w.heap.size + 1 + 1; omega) (by show w.heap.size ≤ w.heap.size + 1 + 1; omega)⟩
set_option maxRecDepth 100000 in
set_option maxHeartbeats 3200000 in
theorem ops4_any (c1 c2 : Nat) (g1 g2 g3 g4 : Bool) (t1 t2 t3 t4 : ByteArray) (n1 d1 n2 d2 : Int) (k : Nat) (w : World) (hc1 : w.cell? ⟨c1, 0, none⟩ = some (.func (.func 113) #[] #[])) (hc2 : w.cell? ⟨c2, 0, none⟩ = some (.func (.func 114) #[] #[]))
    (h1 : IsInt (.agg #[.bool g1, .string t1]) n1 k) (h2 : IsInt (.agg #[.bool g2, .string t2]) d1 k) (h3 : IsInt (.agg #[.bool g3, .string t3]) n2 k) (h4 : IsInt (.agg #[.bool g4, .string t4]) d2 k) (hk : k ≤ 4000000) :
    Calls Tryz.prog 116 #[.agg #[.bool g1, .string t1, .bool g2, .string t2], .agg #[.bool g3, .string t3, .bool g4, .string t4], .pointer (some ⟨c1, 0, none⟩), .pointer (some ⟨c2, 0, none⟩)] w (IntOut w (n1 * d2 + d1 * n2)) := by
  have L1 := World.block_lt_of_cell? w ⟨c1, 0, none⟩ hc1
  have L2 := World.block_lt_of_cell? w ⟨c2, 0, none⟩ hc2
  dsimp only at L1 L2
  have P0 := (ResCell.new ((w.alloc (.cells #[.bool g1, .string t1, .bool g2, .string t2] 33)).alloc (.cells #[.bool g3, .string t3, .bool g4, .string t4] 33)) 27).drew
  rw [World.size_alloc, World.size_alloc] at P0
  have B0 := (below3 w (.cells #[.bool g1, .string t1, .bool g2, .string t2] 33) (.cells #[.bool g3, .string t3, .bool g4, .string t4] 33) (.cells #[.bool false, .string ⟨#[]⟩] 27)).drew
  obtain ⟨x, Ex⟩ : ∃ x, Hid (n1 * d2 = x) := ⟨_, Lib.hid rfl⟩
  obtain ⟨y, Ey⟩ : ∃ x, Hid (d1 * n2 = x) := ⟨_, Lib.hid rfl⟩
  obtain ⟨z, Ez⟩ : ∃ z, Hid (x + y = z) := ⟨_, Lib.hid rfl⟩
  rw [Ex.out, Ey.out, Ez.out]
  have Jx := Lib.hid (isInt_mg (db_mul h1.bd h4.bd Ex.out) (by omega))
  have Jy := Lib.hid (isInt_mg (db_mul h2.bd h3.bd Ey.out) (by omega))
  have H1 := Lib.hid h1
  have H2 := Lib.hid h2
  have H3 := Lib.hid h3
  have H4 := Lib.hid h4
  have e1 : c1 ≠ w.heap.size + 1 + 1 := by omega
  have e2 : c2 ≠ w.heap.size + 1 + 1 := by omega
  have e3 : w.heap.size ≠ w.heap.size + 1 + 1 := by omega
  have e4 : w.heap.size + 1 ≠ w.heap.size + 1 + 1 := by omega
  clear h1 h2 h3 h4
  have S00 : RIn2 (((w.alloc (.cells #[.bool g1, .string t1, .bool g2, .string t2] 33)).alloc (.cells #[.bool g3, .string t3, .bool g4, .string t4] 33)).alloc (.cells #[.bool false, .string ⟨#[]⟩] 27)) w.heap.size (w.heap.size + 1) g1 t1 g2 t2 g3 t3 g4 t4 := by
    refine ⟨?_, ?_, ?_, ?_, ?_, ?_, ?_, ?_⟩ <;> simp [go_sem]
  have Q1 := cell_alloc_keep (cell_alloc_keep (cell_alloc_keep hc1 (.cells #[.bool g1, .string t1, .bool g2, .string t2] 33)) (.cells #[.bool g3, .string t3, .bool g4, .string t4] 33)) (.cells #[.bool false, .string ⟨#[]⟩] 27)
  have Q2 := cell_alloc_keep (cell_alloc_keep (cell_alloc_keep hc2 (.cells #[.bool g1, .string t1, .bool g2, .string t2] 33)) (.cells #[.bool g3, .string t3, .bool g4, .string t4] 33)) (.cells #[.bool false, .string ⟨#[]⟩] 27)
  go_enter Tryz.func116, Tryz.ntmps116
  go_upto_region 1 with fail
  generalize (((w.alloc (.cells #[.bool g1, .string t1, .bool g2, .string t2] 33)).alloc (.cells #[.bool g3, .string t3, .bool g4, .string t4] 33)).alloc (.cells #[.bool false, .string ⟨#[]⟩] 27)) = W0 at *
  have T00 : TenC W0 c1 c2 w.heap.size (w.heap.size + 1) g1 t1 g2 t2 g3 t3 g4 t4 := ⟨Q1, Q2, S00⟩
  have T0 : TenC W0.drew c1 c2 w.heap.size (w.heap.size + 1) g1 t1 g2 t2 g3 t3 g4 t4 := T00
  clear S00 Q1 Q2
  go_region_held3 (fun W => W.cell? ⟨c1, 0, none⟩ = some (.func (.func 113) #[] #[]) ∧ W.cell? ⟨c2, 0, none⟩ = some (.func (.func 114) #[] #[]) ∧ W.cell? ⟨w.heap.size, 0, none⟩ = some (.bool g1) ∧ W.cell? ⟨w.heap.size, 1, none⟩ = some (.string t1) ∧ W.cell? ⟨w.heap.size, 2, none⟩ = some (.bool g2) ∧ W.cell? ⟨w.heap.size, 3, none⟩ = some (.string t2) ∧ W.cell? ⟨w.heap.size + 1, 0, none⟩ = some (.bool g3) ∧ W.cell? ⟨w.heap.size + 1, 1, none⟩ = some (.string t3) ∧ W.cell? ⟨w.heap.size + 1, 2, none⟩ = some (.bool g4) ∧ W.cell? ⟨w.heap.size + 1, 3, none⟩ = some (.string t4)) (first | exact T00 | exact T0 | exact TenC.keep T0 (by assumption) | exact TenC.keep T1 (by assumption) | exact TenC.keep T2 (by assumption) | exact (TenC.set (TenC.keep T2 (by assumption)) _ _ e1 e2 e3 e4).set _ _ e1 e2 e3 e4 | go_keep)
    (first
      | (go_at_call 113; refine (ops1_any g1 g2 g3 g4 t1 t2 t3 t4 n1 d2 k _ H1.out H4.out).mono ?_; rintro e W1 ⟨rfl, b1⟩; rw [Ex.out]; have T1 := T0.keep b1)
      | (go_at_call 114; refine (ops2_any g1 g2 g3 g4 t1 t2 t3 t4 d1 n2 k _ H2.out H3.out).mono ?_; rintro e W2 ⟨rfl, b2⟩; rw [Ey.out]; have T2 := T1.keep b2)
      | (go_at_call 37; refine (iadd_eq Jx.out Jy.out Ez.out).mono ?_; rintro e W3 ⟨rfl, b3⟩; obtain ⟨r1, r2, r3, r4⟩ := ((P0.keep b1).keep b2).keep b3))
  all_goals
    go_wp2
    exact bodyPost_ret (v := .agg #[.bool (sg z), .string (mg z)]) (by simp [results, Tryz.results116, go_sem, r1, r2]) rfl ⟨rfl, below_more2 (below_more (below_more B0 (Nat.le_refl _) b1) (Nat.le_refl _) b2) (Nat.le_refl _) b3 (by show w.heap.size ≤ w.heap.size + 1 + 1; omega) (by show w.heap.size ≤ w.heap.size + 1 + 1; omega)⟩
set_option maxRecDepth 100000 in
set_option maxHeartbeats 3200000 in
theorem ops5_any (c1 c2 : Nat) (g1 g2 g3 g4 : Bool) (t1 t2 t3 t4 : ByteArray) (n1 d1 n2 d2 : Int) (k : Nat) (w : World) (hc1 : w.cell? ⟨c1, 0, none⟩ = some (.func (.func 113) #[] #[])) (hc2 : w.cell? ⟨c2, 0, none⟩ = some (.func (.func 114) #[] #[]))
    (h1 : IsInt (.agg #[.bool g1, .string t1]) n1 k) (h2 : IsInt (.agg #[.bool g2, .string t2]) d1 k) (h3 : IsInt (.agg #[.bool g3, .string t3]) n2 k) (h4 : IsInt (.agg #[.bool g4, .string t4]) d2 k) (hk : k ≤ 4000000) :
    Calls Tryz.prog 117 #[.agg #[.bool g1, .string t1, .bool g2, .string t2], .agg #[.bool g3, .string t3, .bool g4, .string t4], .pointer (some ⟨c1, 0, none⟩), .pointer (some ⟨c2, 0, none⟩)] w (IntOut w (n1 * d2 - d1 * n2)) := by
  have L1 := World.block_lt_of_cell? w ⟨c1, 0, none⟩ hc1
  have L2 := World.block_lt_of_cell? w ⟨c2, 0, none⟩ hc2
  dsimp only at L1 L2
  have P0 := (ResCell.new ((w.alloc (.cells #[.bool g1, .string t1, .bool g2, .string t2] 33)).alloc (.cells #[.bool g3, .string t3, .bool g4, .string t4] 33)) 27).drew
  rw [World.size_alloc, World.size_alloc] at P0
  have B0 := (below3 w (.cells #[.bool g1, .string t1, .bool g2, .string t2] 33) (.cells #[.bool g3, .string t3, .bool g4, .string t4] 33) (.cells #[.bool false, .string ⟨#[]⟩] 27)).drew
  obtain ⟨x, Ex⟩ : ∃ x, Hid (n1 * d2 = x) := ⟨_, Lib.hid rfl⟩
  obtain ⟨y, Ey⟩ : ∃ x, Hid (d1 * n2 = x) := ⟨_, Lib.hid rfl⟩
  obtain ⟨z, Ez⟩ : ∃ z, Hid (x - y = z) := ⟨_, Lib.hid rfl⟩
  rw [Ex.out, Ey.out, Ez.out]
  have Jx := Lib.hid (isInt_mg (db_mul h1.bd h4.bd Ex.out) (by omega))
  have Jy := Lib.hid (isInt_mg (db_mul h2.bd h3.bd Ey.out) (by omega))
  have H1 := Lib.hid h1
  have H2 := Lib.hid h2
  have H3 := Lib.hid h3
  have H4 := Lib.hid h4
  have e1 : c1 ≠ w.heap.size + 1 + 1 := by omega
  have e2 : c2 ≠ w.heap.size + 1 + 1 := by omega
  have e3 : w.heap.size ≠ w.heap.size + 1 + 1 := by omega
  have e4 : w.heap.size + 1 ≠ w.heap.size + 1 + 1 := by omega
  clear h1 h2 h3 h4
  have S00 : RIn2 (((w.alloc (.cells #[.bool g1, .string t1, .bool g2, .string t2] 33)).alloc (.cells #[.bool g3, .string t3, .bool g4, .string t4] 33)).alloc (.cells #[.bool false, .string ⟨#[]⟩] 27)) w.heap.size (w.heap.size + 1) g1 t1 g2 t2 g3 t3 g4 t4 := by
    refine ⟨?_, ?_, ?_, ?_, ?_, ?_, ?_, ?_⟩ <;> simp [go_sem]
  have Q1 := cell_alloc_keep (cell_alloc_keep (cell_alloc_keep hc1 (.cells #[.bool g1, .string t1, .bool g2, .string t2] 33)) (.cells #[.bool g3, .string t3, .bool g4, .string t4] 33)) (.cells #[.bool false, .string ⟨#[]⟩] 27)
  have Q2 := cell_alloc_keep (cell_alloc_keep (cell_alloc_keep hc2 (.cells #[.bool g1, .string t1, .bool g2, .string t2] 33)) (.cells #[.bool g3, .string t3, .bool g4, .string t4] 33)) (.cells #[.bool false, .string ⟨#[]⟩] 27)
  go_enter Tryz.func117, Tryz.ntmps117
  go_upto_region 1 with fail
  generalize (((w.alloc (.cells #[.bool g1, .string t1, .bool g2, .string t2] 33)).alloc (.cells #[.bool g3, .string t3, .bool g4, .string t4] 33)).alloc (.cells #[.bool false, .string ⟨#[]⟩] 27)) = W0 at *
  have T00 : TenC W0 c1 c2 w.heap.size (w.heap.size + 1) g1 t1 g2 t2 g3 t3 g4 t4 := ⟨Q1, Q2, S00⟩
  have T0 : TenC W0.drew c1 c2 w.heap.size (w.heap.size + 1) g1 t1 g2 t2 g3 t3 g4 t4 := T00
  clear S00 Q1 Q2
  go_region_held3 (fun W => W.cell? ⟨c1, 0, none⟩ = some (.func (.func 113) #[] #[]) ∧ W.cell? ⟨c2, 0, none⟩ = some (.func (.func 114) #[] #[]) ∧ W.cell? ⟨w.heap.size, 0, none⟩ = some (.bool g1) ∧ W.cell? ⟨w.heap.size, 1, none⟩ = some (.string t1) ∧ W.cell? ⟨w.heap.size, 2, none⟩ = some (.bool g2) ∧ W.cell? ⟨w.heap.size, 3, none⟩ = some (.string t2) ∧ W.cell? ⟨w.heap.size + 1, 0, none⟩ = some (.bool g3) ∧ W.cell? ⟨w.heap.size + 1, 1, none⟩ = some (.string t3) ∧ W.cell? ⟨w.heap.size + 1, 2, none⟩ = some (.bool g4) ∧ W.cell? ⟨w.heap.size + 1, 3, none⟩ = some (.string t4)) (first | exact T00 | exact T0 | exact TenC.keep T0 (by assumption) | exact TenC.keep T1 (by assumption) | exact TenC.keep T2 (by assumption) | exact (TenC.set (TenC.keep T2 (by assumption)) _ _ e1 e2 e3 e4).set _ _ e1 e2 e3 e4 | go_keep)
    (first
      | (go_at_call 113; refine (ops1_any g1 g2 g3 g4 t1 t2 t3 t4 n1 d2 k _ H1.out H4.out).mono ?_; rintro e W1 ⟨rfl, b1⟩; rw [Ex.out]; have T1 := T0.keep b1)
      | (go_at_call 114; refine (ops2_any g1 g2 g3 g4 t1 t2 t3 t4 d1 n2 k _ H2.out H3.out).mono ?_; rintro e W2 ⟨rfl, b2⟩; rw [Ey.out]; have T2 := T1.keep b2)
      | (go_at_call 39; refine (isub_eq Jx.out Jy.out Ez.out).mono ?_; rintro e W3 ⟨rfl, b3⟩; obtain ⟨r1, r2, r3, r4⟩ := ((P0.keep b1).keep b2).keep b3))
  all_goals
    go_wp2
    exact bodyPost_ret (v := .agg #[.bool (sg z), .string (mg z)]) (by simp [results, Tryz.results117, go_sem, r1, r2]) rfl ⟨rfl, below_more2 (below_more (below_more B0 (Nat.le_refl _) b1) (Nat.le_refl _) b2) (Nat.le_refl _) b3 (by show w.heap.size ≤ w.heap.size + 1 + 1; omega) (by show w.heap.size ≤ w.heap.size + 1 + 1; omega)⟩
/-- An operation, its functions and two rational numbers in memory. -/
def Ten8 (W : World) (fn fd : Value) (c1 c2 p8 p q : Nat) (g1 : Bool) (s1 : ByteArray) (g2 : Bool) (s2 : ByteArray) (g3 : Bool) (s3 : ByteArray) (g4 : Bool) (s4 : ByteArray) : Prop :=
  W.cell? ⟨p8, 0, none⟩ = some fn ∧ W.cell? ⟨p8, 1, none⟩ = some fd ∧ TenC W c1 c2 p q g1 s1 g2 s2 g3 s3 g4 s4
theorem Ten8.keep {W W1 : World} {fn fd : Value} {c1 c2 p8 p q : Nat} {g1 g2 g3 g4 : Bool} {s1 s2 s3 s4 : ByteArray} (h : Ten8 W fn fd c1 c2 p8 p q g1 s1 g2 s2 g3 s3 g4 s4) (hb : Below W.heap.size W W1) : Ten8 W1 fn fd c1 c2 p8 p q g1 s1 g2 s2 g3 s3 g4 s4 := ⟨cell_keep h.1 hb, cell_keep h.2.1 hb, h.2.2.keep hb⟩
theorem Ten8.set4 {W : World} {fn fd : Value} {c1 c2 p8 p q : Nat} {g1 g2 g3 g4 : Bool} {s1 s2 s3 s4 : ByteArray} (h : Ten8 W fn fd c1 c2 p8 p q g1 s1 g2 s2 g3 s3 g4 s4) (b : Nat) (u1 u2 u3 u4 : Value) (h1 : c1 ≠ b) (h2 : c2 ≠ b) (h3 : p8 ≠ b) (h4 : p ≠ b) (h5 : q ≠ b) :
    Ten8 ((((W.setCell ⟨b, 0, none⟩ u1).setCell ⟨b, 1, none⟩ u2).setCell ⟨b, 2, none⟩ u3).setCell ⟨b, 3, none⟩ u4) fn fd c1 c2 p8 p q g1 s1 g2 s2 g3 s3 g4 s4 := by
  have st : ∀ {X : World} (i : Nat) (u : Value), Ten8 X fn fd c1 c2 p8 p q g1 s1 g2 s2 g3 s3 g4 s4 → Ten8 (X.setCell ⟨b, i, none⟩ u) fn fd c1 c2 p8 p q g1 s1 g2 s2 g3 s3 g4 s4 := fun i u k =>
    ⟨by rw [World.cell?_setCell_far _ _ _ _ (by exact fun e => h3 e.symm)]; exact k.1, by rw [World.cell?_setCell_far _ _ _ _ (by exact fun e => h3 e.symm)]; exact k.2.1, k.2.2.set _ _ h1 h2 h4 h5⟩
  exact st 3 u4 (st 2 u3 (st 1 u2 (st 0 u1 h)))
theorem cell_ne {W : World} {b c : Nat} {fn : Fn} {xs ys : Array Value} {g : Bool} (h : W.cell? ⟨c, 0, none⟩ = some (.func fn xs ys)) (k : W.cell? ⟨b, 0, none⟩ = some (.bool g)) : c ≠ b := fun e => by
  rw [e, k] at h
  cases h
/-- The table. -/
theorem table_any (w : World) : Calls Tryz.prog 91 #[] w fun e w' => ∃ c1 c2 : Nat, e = .returned (.agg #[.func (.func 116) #[] #[.pointer (some ⟨c1, 0, none⟩), .pointer (some ⟨c2, 0, none⟩)], .func (.func 115) #[] #[], .func (.func 117) #[] #[.pointer (some ⟨c1, 0, none⟩), .pointer (some ⟨c2, 0, none⟩)], .func (.func 115) #[] #[], .func (.func 118) #[] #[], .func (.func 115) #[] #[], .func (.func 113) #[] #[], .func (.func 114) #[] #[]]) ∧
    w'.cell? ⟨c1, 0, none⟩ = some (.func (.func 113) #[] #[]) ∧ w'.cell? ⟨c2, 0, none⟩ = some (.func (.func 114) #[] #[]) ∧ Below w.heap.size w w' := by
  go_enter Tryz.func91, Tryz.ntmps91
  go_wp2
  refine bodyPost_ret (v := .agg #[.func (.func 116) #[] #[.pointer (some ⟨w.heap.size + 1, 0, none⟩), .pointer (some ⟨w.heap.size + 1 + 1, 0, none⟩)], .func (.func 115) #[] #[], .func (.func 117) #[] #[.pointer (some ⟨w.heap.size + 1, 0, none⟩), .pointer (some ⟨w.heap.size + 1 + 1, 0, none⟩)], .func (.func 115) #[] #[], .func (.func 118) #[] #[], .func (.func 115) #[] #[], .func (.func 113) #[] #[], .func (.func 114) #[] #[]]) (by simp [results, Tryz.results91, go_sem]) rfl ⟨w.heap.size + 1, w.heap.size + 1 + 1, rfl, ?_, ?_, ?_⟩
  · simp [go_sem]
  · simp [go_sem]
  · have h0 : w.heap.size ≤ w.heap.size := Nat.le_refl _
    repeat (first | exact Below.refl _ _ | (with_reducible refine Below.setCell ?_ (by exact h0) _) | with_reducible refine below_al ?_ _)
end Go.Proofs.YtgcogpfmhmmgdaaGreatDoor
