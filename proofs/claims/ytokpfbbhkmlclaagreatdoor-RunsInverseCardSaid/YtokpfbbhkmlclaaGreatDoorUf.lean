/- What runs.checkBinary, runs.checkLevels, runs.replace, runs.Levels and runs.Transitions return. Condition: at most 1000 letters, or an error of Check. -/
import Derived.Test.YtokpfbbhkmlclaaGreatDoorUg
namespace Go.Proofs.YtokpfbbhkmlclaaGreatDoor
open Go.RowKit
set_option linter.unusedSimpArgs false
set_option linter.unusedVariables false

theorem checkBinary_any (l : List UInt8) (w : World) (hl : l.length ≤ 9223372036854775807) :
    Calls Tryz.prog 29 #[.string ⟨l.toArray⟩] w fun e w' => e = .returned (.int .i64 (chk 2 l)) ∧ Below w.heap.size w w' := by
  have HC := Lib.hid (fun W => check_any 2 l W hl)
  obtain ⟨c, hc⟩ : ∃ c, chk 2 l = c := ⟨_, rfl⟩
  simp only [hc] at HC
  rw [hc]
  clear hc
  go_enter Tryz.func29, Tryz.ntmps29
  go_wp2_with (go_at_call 25; (with_reducible refine (HC.out _).mono ?_); rintro e W1 ⟨rfl, b1⟩)
  go_ret
  exact ⟨rfl, b1⟩
/-- What is wrong with a level and a binary word. -/
def chkV (s : Int) (l : List UInt8) : Int := if chk 2 l = 0 then (if s = 0 ∨ s = 1 then 0 else 2) else chk 2 l
theorem chkV_zero {s : Int} {l : List UInt8} (h : chkV s l = 0) : l.length ≤ 65536 ∧ Wof 2 l ∧ ∃ n : Nat, s = (n : Int) ∧ n < 2 := by
  unfold chkV at h
  split at h
  · next h0 =>
    obtain ⟨m, hm, m1, m2, hl2, hW⟩ := chk_zero h0
    obtain rfl : m = 2 := by omega
    split at h
    · next h1 => exact ⟨hl2, hW, s.toNat, by omega, by omega⟩
    · cases h
  · next h0 => exact absurd h h0
set_option maxRecDepth 100000 in
theorem checkLevels_any (s : Int) (l : List UInt8) (w : World) (hl : l.length ≤ 9223372036854775807) :
    Calls Tryz.prog 19 #[.int .i64 s, .string ⟨l.toArray⟩] w fun e w' => e = .returned (.int .i64 (chkV s l)) ∧ Below w.heap.size w w' := by
  have HC := Lib.hid (fun W => checkBinary_any l W hl)
  obtain ⟨c, hc⟩ : ∃ c, chk 2 l = c := ⟨_, rfl⟩
  simp only [hc] at HC
  by_cases h0 : c = 0
  · subst h0
    rcases (show s = 0 ∨ s = 1 ∨ s < 0 ∨ 1 < s by omega) with rfl | rfl | h1 | h1
    · have HX := Lib.hid (show chkV 0 l = 0 by unfold chkV; rw [if_pos hc, if_pos (Or.inl rfl)])
      rw [HX.out]
      clear hc
      go_enter Tryz.func19, Tryz.ntmps19
      go_wp2_with (go_at_call 29; (with_reducible refine (HC.out _).mono ?_); rintro e W1 ⟨rfl, b1⟩)
      go_ret
      exact ⟨rfl, b1⟩
    · have HX := Lib.hid (show chkV 1 l = 0 by unfold chkV; rw [if_pos hc, if_pos (Or.inr rfl)])
      rw [HX.out]
      clear hc
      go_enter Tryz.func19, Tryz.ntmps19
      go_wp2_with (go_at_call 29; (with_reducible refine (HC.out _).mono ?_); rintro e W1 ⟨rfl, b1⟩)
      go_ret
      exact ⟨rfl, b1⟩
    · have HX := Lib.hid (show chkV s l = 2 by unfold chkV; rw [if_pos hc, if_neg (by omega)])
      rw [HX.out]
      have e1 : (s != 0) = true := by rw [bne_iff_ne]; omega
      have e2 : (s != 1) = true := by rw [bne_iff_ne]; omega
      clear hc
      go_enter Tryz.func19, Tryz.ntmps19
      go_wp2_with (go_at_call 29; (with_reducible refine (HC.out _).mono ?_); rintro e W1 ⟨rfl, b1⟩)
      go_ret
      exact ⟨rfl, b1⟩
    · have HX := Lib.hid (show chkV s l = 2 by unfold chkV; rw [if_pos hc, if_neg (by omega)])
      rw [HX.out]
      have e1 : (s != 0) = true := by rw [bne_iff_ne]; omega
      have e2 : (s != 1) = true := by rw [bne_iff_ne]; omega
      clear hc
      go_enter Tryz.func19, Tryz.ntmps19
      go_wp2_with (go_at_call 29; (with_reducible refine (HC.out _).mono ?_); rintro e W1 ⟨rfl, b1⟩)
      go_ret
      exact ⟨rfl, b1⟩
  · have HX := Lib.hid (show chkV s l = c by unfold chkV; rw [if_neg (by rw [hc]; exact h0), hc])
    rw [HX.out]
    have h1 : (c == 0) = false := by rw [beq_eq_false_iff_ne]; exact h0
    clear hc h0
    go_enter Tryz.func19, Tryz.ntmps19
    go_wp2_with (go_at_call 29; (with_reducible refine (HC.out _).mono ?_); rintro e W1 ⟨rfl, b1⟩)
    go_ret
    exact ⟨rfl, b1⟩
/-- The variable that a closure captures. -/
def LVar (W : World) (b : Nat) (s : Nat) : Prop := W.rowIs b 3 1 (fun _ => .int .i64 (s : Int))
theorem LVar.set {W : World} {b s : Nat} (h : LVar W b s) (n : Nat) : LVar (W.setCell ⟨b, 0, none⟩ (.int .i64 (n : Int))) b n := World.rowIs.congr (World.rowIs.set h 0 _) fun i hi => by rw [if_pos (by omega)]
theorem LVar.keep {W W' : World} {b s : Nat} (h : LVar W b s) (hb : Below W.heap.size W W') : LVar W' b s := World.rowIs.of_block h (hb.block b (World.rowIs.lt h))
theorem LVar.other {W : World} {b s : Nat} (h : LVar W b s) {a : Addr} (v : Value) (ha : b ≠ a.block) : LVar (W.setCell a v) b s := World.rowIs.setOther h ha v
theorem LVar.new (w : World) (s : Nat) : LVar (w.alloc (.cells #[.int .i64 (s : Int)] 3)) w.heap.size s :=
  World.rowIs_alloc w #[.int .i64 (s : Int)] 3 (fun _ => .int .i64 (s : Int)) (fun i hi => by
    have : i = 0 := by simpa using hi
    subst this; rfl)
/-- Two letters: one is changed by the other. -/
theorem xor2 {s d : Nat} (hs : s < 2) (hd : d < 2) : bits BinOp.xor IntKind.i64 (s : Int) (d : Int) = (((s + d) % 2 : Nat) : Int) := by
  rcases (show s = 0 ∨ s = 1 by omega) with rfl | rfl <;> rcases (show d = 0 ∨ d = 1 by omega) with rfl | rfl <;> decide
set_option maxRecDepth 100000 in
theorem levelF_any (b s d : Nat) (w : World) (hs : s < 2) (hd : d < 2) (h : LVar w b s) :
    Calls Tryz.prog 21 #[.int .i64 (d : Int), .pointer (some ⟨b, 0, none⟩)] w fun e w' => e = .returned (.int .i64 (((s + d) % 2 : Nat) : Int)) ∧ w' = w.setCell ⟨b, 0, none⟩ (.int .i64 (((s + d) % 2 : Nat) : Int)) := by
  have hx := xor2 hs hd
  have c0 := World.rowIs.cell h (i := 0) (by omega)
  have f0 := World.rowIs.frozen h 0
  have c1 := World.rowIs.cell (h.set ((s + d) % 2)) (i := 0) (by omega)
  obtain ⟨t, ht⟩ : ∃ t, (s + d) % 2 = t := ⟨_, rfl⟩
  rw [ht] at hx c1 ⊢
  clear ht h
  go_enter Tryz.func21, Tryz.ntmps21
  go_wp2_with fail
  go_ret
  exact ⟨rfl, rfl⟩
set_option maxRecDepth 100000 in
theorem transF_any (b s d : Nat) (w : World) (hs : s < 2) (hd : d < 2) (h : LVar w b s) :
    Calls Tryz.prog 22 #[.int .i64 (d : Int), .pointer (some ⟨b, 0, none⟩)] w fun e w' => e = .returned (.int .i64 (((s + d) % 2 : Nat) : Int)) ∧ w' = w.setCell ⟨b, 0, none⟩ (.int .i64 (d : Int)) := by
  have hx := xor2 hs hd
  have c0 := World.rowIs.cell h (i := 0) (by omega)
  have f0 := World.rowIs.frozen h 0
  obtain ⟨t, ht⟩ : ∃ t, (s + d) % 2 = t := ⟨_, rfl⟩
  rw [ht] at hx ⊢
  clear ht h
  go_enter Tryz.func22, Tryz.ntmps22
  go_wp2_with fail
  go_ret
  exact ⟨rfl, rfl⟩
/-- Between two rounds: the letters so far are written, those to come are as they were. -/
theorem set_mid {u v : List UInt8} {c d : UInt8} {i : Nat} (hi : u.length = i) : (u ++ c :: v).set i d = (u ++ [d]) ++ v := by
  subst hi
  rw [List.set_append_right _ _ (Nat.le_refl _), Nat.sub_self, List.set_cons_zero, List.append_assoc]; rfl
theorem get_mid {u v : List UInt8} {i : Nat} (hi : u.length = i) : (u ++ v)[i]? = v[0]? := by
  subst hi
  rw [List.getElem?_append_right (Nat.le_refl _), Nat.sub_self]
set_option maxRecDepth 100000 in
set_option maxHeartbeats 3200000 in
theorem replace_lev (l : List UInt8) (s b : Nat) (w : World) (hs : s < 2) (hl : l.length ≤ 1000) (hW : Wof 2 l) (hv : LVar w b s) :
    Calls Tryz.prog 20 #[.string ⟨l.toArray⟩, .func (.func 21) #[] #[.pointer (some ⟨b, 0, none⟩)]] w fun e w' => e = .returned (.string ⟨(levs s l).toArray⟩) ∧ Below b w w' := by
  have hcv := fun W => Lib.run_convert_string_bytes (P := Tryz.prog) W 9 69 5 ⟨l.toArray⟩ Tryz.underlying9 Tryz.underlying69 Tryz.underlying5
  have HW := Lib.hid hW
  obtain ⟨R, hR⟩ : ∃ R, levs s l = R := ⟨_, rfl⟩
  have HR := Lib.hid hR
  rw [hR]
  clear hR
  have hr0 := bytes_row w l
  have hb0 := bytes_below w 5 ⟨l.toArray⟩
  have hbl := World.rowIs.lt hv
  have hv0 := hv.keep hb0
  have hB0 : Below b w (Lib.bytesWorld w 5 ⟨l.toArray⟩) := hb0.mono (by omega)
  clear hW hv
  go_enter Tryz.func20, Tryz.ntmps20
  go_wp2_with fail
  clear hcv hb0
  generalize Lib.bytesWorld w 5 ⟨l.toArray⟩ = W0 at *
  go_loopg [12] l.length (fun q s12 wx => ∃ i : Nat, i + q = l.length ∧ s12 = .int .i64 (i : Int) ∧ LVar wx b (lvl s (l.take i)) ∧ BRow wx w.heap.size (levs s (l.take i) ++ l.drop i) ∧ Below b w wx)
  case atStart => exact ⟨0, by omega, rfl, hv0, hr0, hB0⟩
  case round =>
    obtain ⟨i, hi, rfl, hv, hr, hb⟩ := hrel
    rcases gk with _ | q
    · obtain rfl : i = l.length := by omega
      rw [List.take_length, List.drop_length, List.append_nil] at hr
      have hbk := fun c => row_back (c := c) hr
      have hll := levs_len l s
      rw [HR.out] at hbk hll
      rw [hll] at hbk
      clear hr hv
      go_wp2
      go_ret
      exact ⟨rfl, hb⟩
    · have hil : i < l.length := by omega
      obtain ⟨c, hc⟩ : ∃ c, l[i]? = some c := ⟨_, List.getElem?_eq_getElem hil⟩
      have hul : (levs s (l.take i)).length = i := by rw [levs_len, List.length_take]; omega
      have hdrop : l.drop i = c :: l.drop (i + 1) := by
        rw [List.drop_eq_getElem_cons hil]
        rw [List.getElem?_eq_getElem hil] at hc
        injection hc with hc
        rw [hc]
      obtain ⟨k1, k2⟩ := hr i c (by rw [get_mid hul, hdrop]; rfl)
      have hc2 : dgt c < 2 := HW.out c (List.mem_of_getElem? hc)
      have ht : l.take (i + 1) = l.take i ++ [c] := by rw [List.take_add_one, hc]; rfl
      have hlt := lvl_lt hs (l.take i)
      have ho := levs_snoc (l.take i) c s
      have hst := lvl_snoc s (l.take i) c
      rw [← ht] at ho hst
      have hcu := c.toNat_lt
      obtain ⟨x, hx⟩ : ∃ x, lvl s (l.take i) = x := ⟨_, rfl⟩
      rw [hx] at hlt hv ho hst
      obtain ⟨d, hd⟩ : ∃ d, dgt c = d := ⟨_, rfl⟩
      have HD := Lib.hid (fun W => digit_any c W (by omega))
      simp only [hd] at HD
      rw [hd] at hc2 ho hst
      have HF := Lib.hid (fun W hh => levelF_any b x d W hlt hc2 hh)
      obtain ⟨t, htt⟩ : ∃ t, (x + d) % 2 = t := ⟨_, rfl⟩
      have ht2 : t < 2 := by omega
      rw [htt] at ho hst
      simp only [htt] at HF
      have hix : ∀ w, (Instr.index 9 (.string ⟨#[48, 49, 50, 51, 52, 53, 54, 55, 56, 57, 97, 98, 99, 100, 101, 102]⟩) (.int .i64 (t : Int))).run Tryz.prog w = .ok (.int .u8 ((lt t).toNat : Int)) w :=
        run_at_bytes lets t (lt t) (by rw [List.getElem?_eq_getElem (show t < 16 by omega), lt_at (show t < 16 by omega)]) (t : Int) rfl
      obtain ⟨y, hy⟩ : ∃ y, lt t = y := ⟨_, rfl⟩
      rw [hy] at hix ho
      have hyl := y.toNat_lt
      have hne : b ≠ w.heap.size := by omega
      have hrn : BRow ((wr.setCell ⟨b, 0, none⟩ (.int .i64 (t : Int))).setCell ⟨w.heap.size, i, none⟩ (.int .u8 (y.toNat : Int))) w.heap.size (levs s (l.take (i + 1)) ++ l.drop (i + 1)) := by
        have h1 := (hr.other (.int .i64 (t : Int)) (a := ⟨b, 0, none⟩) hne).set (i := i) y
        rw [hdrop, set_mid hul, ← ho] at h1
        exact h1
      have hvn : LVar ((wr.setCell ⟨b, 0, none⟩ (.int .i64 (t : Int))).setCell ⟨w.heap.size, i, none⟩ (.int .u8 (y.toNat : Int))) b (lvl s (l.take (i + 1))) := by
        rw [hst]
        exact (hv.set t).other _ hne
      have hbn : Below b w ((wr.setCell ⟨b, 0, none⟩ (.int .i64 (t : Int))).setCell ⟨w.heap.size, i, none⟩ (.int .u8 (y.toNat : Int))) := (hb.setCell (Nat.le_refl _) _).setCell (by show b ≤ w.heap.size; omega) _
      have k3 : (wr.setCell ⟨b, 0, none⟩ (.int .i64 (t : Int))).cell? ⟨w.heap.size, i, none⟩ = some (.int .u8 (c.toNat : Int)) := by rw [World.cell?_setCell_far _ _ _ _ hne]; exact k1
      have HV := Lib.hid hv
      have HVN := Lib.hid hvn
      have HRN := Lib.hid hrn
      clear hc hul hdrop hr hx hd htt hy hv hvn hrn ho hst ht HW
      go_wp2_with (first
        | (go_at_call 28; (with_reducible refine (HD.out _).mono ?_); rintro e W1 ⟨rfl, hW⟩; (rw [hW]); (clear hW))
        | (go_at_call 21; (with_reducible refine (HF.out _ HV.out).mono ?_); rintro e W2 ⟨rfl, hW⟩; (rw [hW]); (clear hW)))
      go_roundg q
      case measure => omega
      case rel => exact ⟨i + 1, by omega, by go_num, HVN.out, HRN.out, hbn⟩
set_option maxRecDepth 100000 in
set_option maxHeartbeats 3200000 in
theorem replace_trs (l : List UInt8) (s b : Nat) (w : World) (hs : s < 2) (hl : l.length ≤ 1000) (hW : Wof 2 l) (hv : LVar w b s) :
    Calls Tryz.prog 20 #[.string ⟨l.toArray⟩, .func (.func 22) #[] #[.pointer (some ⟨b, 0, none⟩)]] w fun e w' => e = .returned (.string ⟨(trs s l).toArray⟩) ∧ Below b w w' := by
  have hcv := fun W => Lib.run_convert_string_bytes (P := Tryz.prog) W 9 69 5 ⟨l.toArray⟩ Tryz.underlying9 Tryz.underlying69 Tryz.underlying5
  have HW := Lib.hid hW
  obtain ⟨R, hR⟩ : ∃ R, trs s l = R := ⟨_, rfl⟩
  have HR := Lib.hid hR
  rw [hR]
  clear hR
  have hr0 := bytes_row w l
  have hb0 := bytes_below w 5 ⟨l.toArray⟩
  have hbl := World.rowIs.lt hv
  have hv0 := hv.keep hb0
  have hB0 : Below b w (Lib.bytesWorld w 5 ⟨l.toArray⟩) := hb0.mono (by omega)
  clear hW hv
  go_enter Tryz.func20, Tryz.ntmps20
  go_wp2_with fail
  clear hcv hb0
  generalize Lib.bytesWorld w 5 ⟨l.toArray⟩ = W0 at *
  go_loopg [12] l.length (fun q s12 wx => ∃ i : Nat, i + q = l.length ∧ s12 = .int .i64 (i : Int) ∧ LVar wx b (lastD s (l.take i)) ∧ BRow wx w.heap.size (trs s (l.take i) ++ l.drop i) ∧ Below b w wx)
  case atStart => exact ⟨0, by omega, rfl, hv0, hr0, hB0⟩
  case round =>
    obtain ⟨i, hi, rfl, hv, hr, hb⟩ := hrel
    rcases gk with _ | q
    · obtain rfl : i = l.length := by omega
      rw [List.take_length, List.drop_length, List.append_nil] at hr
      have hbk := fun c => row_back (c := c) hr
      have hll := trs_len l s
      rw [HR.out] at hbk hll
      rw [hll] at hbk
      clear hr hv
      go_wp2
      go_ret
      exact ⟨rfl, hb⟩
    · have hil : i < l.length := by omega
      obtain ⟨c, hc⟩ : ∃ c, l[i]? = some c := ⟨_, List.getElem?_eq_getElem hil⟩
      have hul : (trs s (l.take i)).length = i := by rw [trs_len, List.length_take]; omega
      have hdrop : l.drop i = c :: l.drop (i + 1) := by
        rw [List.drop_eq_getElem_cons hil]
        rw [List.getElem?_eq_getElem hil] at hc
        injection hc with hc
        rw [hc]
      obtain ⟨k1, k2⟩ := hr i c (by rw [get_mid hul, hdrop]; rfl)
      have hc2 : dgt c < 2 := HW.out c (List.mem_of_getElem? hc)
      have ht : l.take (i + 1) = l.take i ++ [c] := by rw [List.take_add_one, hc]; rfl
      have hlt := lastD_lt hs (HW.out.takeU i)
      have ho := trs_snoc (l.take i) c s
      have hst := lastD_snoc s (l.take i) c
      rw [← ht] at ho hst
      have hcu := c.toNat_lt
      obtain ⟨x, hx⟩ : ∃ x, lastD s (l.take i) = x := ⟨_, rfl⟩
      rw [hx] at hlt hv ho
      obtain ⟨d, hd⟩ : ∃ d, dgt c = d := ⟨_, rfl⟩
      have HD := Lib.hid (fun W => digit_any c W (by omega))
      simp only [hd] at HD
      rw [hd] at hc2 ho hst
      have HF := Lib.hid (fun W hh => transF_any b x d W hlt hc2 hh)
      obtain ⟨t, htt⟩ : ∃ t, (x + d) % 2 = t := ⟨_, rfl⟩
      have ht2 : t < 2 := by omega
      rw [htt] at ho
      simp only [htt] at HF
      have hix : ∀ w, (Instr.index 9 (.string ⟨#[48, 49, 50, 51, 52, 53, 54, 55, 56, 57, 97, 98, 99, 100, 101, 102]⟩) (.int .i64 (t : Int))).run Tryz.prog w = .ok (.int .u8 ((lt t).toNat : Int)) w :=
        run_at_bytes lets t (lt t) (by rw [List.getElem?_eq_getElem (show t < 16 by omega), lt_at (show t < 16 by omega)]) (t : Int) rfl
      obtain ⟨y, hy⟩ : ∃ y, lt t = y := ⟨_, rfl⟩
      rw [hy] at hix ho
      have hyl := y.toNat_lt
      have hne : b ≠ w.heap.size := by omega
      have hrn : BRow ((wr.setCell ⟨b, 0, none⟩ (.int .i64 (d : Int))).setCell ⟨w.heap.size, i, none⟩ (.int .u8 (y.toNat : Int))) w.heap.size (trs s (l.take (i + 1)) ++ l.drop (i + 1)) := by
        have h1 := (hr.other (.int .i64 (d : Int)) (a := ⟨b, 0, none⟩) hne).set (i := i) y
        rw [hdrop, set_mid hul, ← ho] at h1
        exact h1
      have hvn : LVar ((wr.setCell ⟨b, 0, none⟩ (.int .i64 (d : Int))).setCell ⟨w.heap.size, i, none⟩ (.int .u8 (y.toNat : Int))) b (lastD s (l.take (i + 1))) := by
        rw [hst]
        exact (hv.set d).other _ hne
      have hbn : Below b w ((wr.setCell ⟨b, 0, none⟩ (.int .i64 (d : Int))).setCell ⟨w.heap.size, i, none⟩ (.int .u8 (y.toNat : Int))) := (hb.setCell (Nat.le_refl _) _).setCell (by show b ≤ w.heap.size; omega) _
      have k3 : (wr.setCell ⟨b, 0, none⟩ (.int .i64 (d : Int))).cell? ⟨w.heap.size, i, none⟩ = some (.int .u8 (c.toNat : Int)) := by rw [World.cell?_setCell_far _ _ _ _ hne]; exact k1
      have HV := Lib.hid hv
      have HVN := Lib.hid hvn
      have HRN := Lib.hid hrn
      clear hc hul hdrop hr hx hd htt hy hv hvn hrn ho hst ht HW
      go_wp2_with (first
        | (go_at_call 28; (with_reducible refine (HD.out _).mono ?_); rintro e W1 ⟨rfl, hW⟩; (rw [hW]); (clear hW))
        | (go_at_call 22; (with_reducible refine (HF.out _ HV.out).mono ?_); rintro e W2 ⟨rfl, hW⟩; (rw [hW]); (clear hW)))
      go_roundg q
      case measure => omega
      case rel => exact ⟨i + 1, by omega, by go_num, HVN.out, HRN.out, hbn⟩
/-- What Levels and Transitions return. -/
def levR (s : Int) (l : List UInt8) : List UInt8 × Int := if chkV s l = 0 then (levs s.toNat l, 0) else ([], chkV s l)
def trsR (s : Int) (l : List UInt8) : List UInt8 × Int := if chkV s l = 0 then (trs s.toNat l, 0) else ([], chkV s l)
def TxOut (w : World) (r : List UInt8 × Int) (e : Ending) (w' : World) : Prop := e = .returned (.tuple #[.string ⟨r.1.toArray⟩, .int .i64 r.2]) ∧ Below w.heap.size w w'
set_option maxRecDepth 100000 in
set_option maxHeartbeats 3200000 in
theorem levels_any (s : Int) (l : List UInt8) (w : World) (hl : l.length ≤ 1000 ∨ (65536 < l.length ∧ l.length ≤ 9223372036854775807)) :
    Calls Tryz.prog 7 #[.int .i64 s, .string ⟨l.toArray⟩] w (TxOut w (levR s l)) := by
  have HC := Lib.hid (fun W => checkLevels_any s l W (by omega))
  by_cases h0 : chkV s l = 0
  · obtain ⟨hl2, hW, n, rfl, hn⟩ := chkV_zero h0
    have HX := Lib.hid (show levR n l = (levs n l, 0) by unfold levR; rw [if_pos h0, Int.toNat_natCast])
    rw [HX.out]
    simp only [h0] at HC
    have HR := Lib.hid (fun b W hv => replace_lev l n b W hn (by omega) hW hv)
    obtain ⟨R, hR⟩ : ∃ R, levs n l = R := ⟨_, rfl⟩
    simp only [hR] at HR
    rw [hR]
    clear hW hl h0 HX hR
    go_enter Tryz.func7, Tryz.ntmps7
    go_wp2_with (first
      | (go_at_call 19; (with_reducible refine (HC.out _).mono ?_); rintro e W1 ⟨rfl, b1⟩)
      | (go_at_call 20; (with_reducible refine (HR.out _ _ (LVar.new _ n)).mono ?_); rintro e W2 ⟨rfl, b2⟩))
    have hb : Below w.heap.size w W2 := (b1.alloc b1.size _).trans (b2.mono b1.size)
    exact bodyPost_ret (v := .tuple #[.string ⟨R.toArray⟩, .int .i64 0]) (by simp [results, Tryz.results7, go_sem]) rfl ⟨rfl, hb⟩
  · obtain ⟨c, hc⟩ : ∃ c, chkV s l = c := ⟨_, rfl⟩
    have HX := Lib.hid (show levR s l = ([], c) by unfold levR; rw [if_neg h0, hc])
    rw [HX.out]
    simp only [hc] at HC
    rw [hc] at h0
    have h1 : (c == 0) = false := by rw [beq_eq_false_iff_ne]; exact h0
    clear hc h0
    go_enter Tryz.func7, Tryz.ntmps7
    go_wp2_with (go_at_call 19; (with_reducible refine (HC.out _).mono ?_); rintro e W1 ⟨rfl, b1⟩)
    exact bodyPost_ret (v := .tuple #[.string ⟨#[]⟩, .int .i64 c]) (by simp [results, Tryz.results7, go_sem]) rfl ⟨rfl, b1⟩
set_option maxRecDepth 100000 in
set_option maxHeartbeats 3200000 in
theorem transitions_any (s : Int) (l : List UInt8) (w : World) (hl : l.length ≤ 1000 ∨ (65536 < l.length ∧ l.length ≤ 9223372036854775807)) :
    Calls Tryz.prog 8 #[.int .i64 s, .string ⟨l.toArray⟩] w (TxOut w (trsR s l)) := by
  have HC := Lib.hid (fun W => checkLevels_any s l W (by omega))
  by_cases h0 : chkV s l = 0
  · obtain ⟨hl2, hW, n, rfl, hn⟩ := chkV_zero h0
    have HX := Lib.hid (show trsR n l = (trs n l, 0) by unfold trsR; rw [if_pos h0, Int.toNat_natCast])
    rw [HX.out]
    simp only [h0] at HC
    have HR := Lib.hid (fun b W hv => replace_trs l n b W hn (by omega) hW hv)
    obtain ⟨R, hR⟩ : ∃ R, trs n l = R := ⟨_, rfl⟩
    simp only [hR] at HR
    rw [hR]
    clear hW hl h0 HX hR
    go_enter Tryz.func8, Tryz.ntmps8
    go_wp2_with (first
      | (go_at_call 19; (with_reducible refine (HC.out _).mono ?_); rintro e W1 ⟨rfl, b1⟩)
      | (go_at_call 20; (with_reducible refine (HR.out _ _ (LVar.new _ n)).mono ?_); rintro e W2 ⟨rfl, b2⟩))
    have hb : Below w.heap.size w W2 := (b1.alloc b1.size _).trans (b2.mono b1.size)
    exact bodyPost_ret (v := .tuple #[.string ⟨R.toArray⟩, .int .i64 0]) (by simp [results, Tryz.results8, go_sem]) rfl ⟨rfl, hb⟩
  · obtain ⟨c, hc⟩ : ∃ c, chkV s l = c := ⟨_, rfl⟩
    have HX := Lib.hid (show trsR s l = ([], c) by unfold trsR; rw [if_neg h0, hc])
    rw [HX.out]
    simp only [hc] at HC
    rw [hc] at h0
    have h1 : (c == 0) = false := by rw [beq_eq_false_iff_ne]; exact h0
    clear hc h0
    go_enter Tryz.func8, Tryz.ntmps8
    go_wp2_with (go_at_call 19; (with_reducible refine (HC.out _).mono ?_); rintro e W1 ⟨rfl, b1⟩)
    exact bodyPost_ret (v := .tuple #[.string ⟨#[]⟩, .int .i64 c]) (by simp [results, Tryz.results8, go_sem]) rfl ⟨rfl, b1⟩
end Go.Proofs.YtokpfbbhkmlclaaGreatDoor
