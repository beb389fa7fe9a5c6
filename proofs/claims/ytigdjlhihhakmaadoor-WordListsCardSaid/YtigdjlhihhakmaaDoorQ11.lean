/- What word.digit, word.least, word.successor and word.Next return. Condition: a string's length. What integer.Of returns: the integer. No condition: any int. What word.Next and, for words of at most 15 letters, word.Rank return. Condition: a string's length. -/
import Derived.Test.YtigdjlhihhakmaaDoorQ10
import Derived.Deep.RegionHeld3
import Derived.Test.YtigdjlhihhakmaaDoorQ09
import Derived.Lib.ConvBytes

namespace Go.Proofs.YtigdjlhihhakmaaDoor
open Go.RowKit

theorem index_of : ∀ (l : List UInt8) (c : UInt8), c ∈ l → Lib.indexByte l c = (l.idxOf c : Int)
  | [], _, h => by cases h
  | b :: l, c, h => by
    unfold Lib.indexByte
    rw [List.idxOf_cons]
    cases e : b == c with
    | true => simp
    | false =>
      have h2 : c ∈ l := by
        rcases List.mem_cons.1 h with h3 | h3
        · subst h3; simp at e
        · exact h3
      rw [index_of l c h2]
      have : ((l.idxOf c : Int) == -1) = false := by rw [beq_eq_false_iff_ne]; omega
      simp [this]
theorem repeat_zeros (n : Nat) : Lib.repeatL [48] n = List.replicate n 48 := by
  induction n with
  | zero => rfl
  | succ n ih => show [48] ++ Lib.repeatL [48] n = _; rw [ih]; rfl
theorem digit_any (c : UInt8) (w : World) (hc : dgt c < 16) : Calls Tryd.prog 75 #[.int .u8 (c.toNat : Int)] w fun e w' => e = .returned (.int .i64 (dgt c : Int)) ∧ w' = w := by
  have hm : c ∈ lets := by have := (mem_lets (q := 16) (Nat.le_refl _) c).2 hc; exact List.mem_of_mem_take this
  have HI := Lib.hid (show Lib.indexByte lb.data.toList ((c.toNat : Int).toNat).toUInt8 = (dgt c : Int) by
    rw [Int.toNat_natCast, show c.toNat.toUInt8 = c from by simp]
    exact index_of lets c hm)
  go_enter Tryd.func75, Tryd.ntmps75
  go_wp2_with (go_at_call 101; refine (Tryd.strings_IndexByte _ _ _).mono ?_; rintro e W1 ⟨rfl, rfl⟩; (rw [HI.out]))
  go_ret
  exact ⟨rfl, rfl⟩
theorem least_any (n : Nat) (w : World) (hn : n ≤ 1000000) : Calls Tryd.prog 44 #[.int .i64 (n : Int)] w fun e w' => e = .returned (.string ⟨(List.replicate n 48).toArray⟩) ∧ Below w.heap.size w w' := by
  have HR := Lib.hid (repeat_zeros n)
  have hcut : ∀ w, (Instr.slice 9 (.string ⟨#[48, 49, 50, 51, 52, 53, 54, 55, 56, 57, 97, 98, 99, 100, 101, 102]⟩) none (some (.int .i64 1)) none).run Tryd.prog w = .ok (.string ⟨#[48]⟩) w := run_take_at lets [48] 1 1 rfl (by decide) rfl
  go_enter Tryd.func44, Tryd.ntmps44
  go_wp2_with (go_at_call 41; refine (Tryd.strings_Repeat ⟨#[48]⟩ n _ (by omega) (by show 1 * n ≤ _; omega)).mono ?_; rintro e W1 ⟨rfl, hb⟩; (rw [show (⟨#[48]⟩ : ByteArray).data.toList = [48] from rfl, HR.out]))
  go_ret
  exact ⟨rfl, hb⟩
theorem nxt_nil {q : Nat} {l : List UInt8} (h : keptOf q l = []) : nxt q l = none := by
  unfold nxt
  split
  · rfl
  · next h2 => rw [h] at h2; cases h2
theorem nxt_snoc {q : Nat} {l u : List UInt8} {d : UInt8} (h : keptOf q l = u ++ [d]) : nxt q l = some (u ++ [lt (dgt d + 1)] ++ List.replicate (l.length - (u.length + 1)) 48) := by
  unfold nxt
  split
  · next h2 => rw [h] at h2; simp at h2
  · next c k h2 =>
    rw [h] at h2
    have e1 : (c :: k).dropLast = u := by rw [← h2, List.dropLast_concat]
    have e2 : (c :: k).getLast (by simp) = d := by simp only [← h2, List.getLast_concat]
    have e3 : k.length = u.length := by have := congrArg List.length h2; simp at this; omega
    rw [e1, e2, e3]
/-- What successor returns. -/
def SucOut (w : World) (r : Option (List UInt8)) (e : Ending) (w' : World) : Prop :=
  e = .returned (.tuple #[.string ⟨(r.getD []).toArray⟩, .bool r.isSome]) ∧ Below w.heap.size w w'
set_option linter.unusedSimpArgs false
set_option maxRecDepth 100000 in
set_option maxHeartbeats 1600000 in
theorem successor_any (q : Nat) (l : List UInt8) (w : World) (q1 : 1 ≤ q) (q2 : q ≤ 16) (hl : l.length ≤ 65536) (hW : Wof q l) :
    Calls Tryd.prog 45 #[.int .i64 (q : Int), .string ⟨l.toArray⟩] w (SucOut w (nxt q l)) := by
  have HK := Lib.hid (show Lib.trimRightS l [lt (q - 1)] = keptOf q l by rw [Lib.trimRightS_one]; rfl)
  have hqm : (q : Int) - 1 = ((q - 1 : Nat) : Int) := by omega
  have hcut : ∀ w, (Instr.slice 9 (.string ⟨#[48, 49, 50, 51, 52, 53, 54, 55, 56, 57, 97, 98, 99, 100, 101, 102]⟩) (some (.int .i64 ((q : Int) - 1))) (some (.int .i64 (q : Int))) none).run Tryd.prog w = .ok (.string ⟨[lt (q - 1)].toArray⟩) w :=
    run_cut_at lets [lt (q - 1)] (q - 1) q _ _ hqm rfl (by omega) (by show q ≤ 16; omega) (by
      have h1 : q - 1 < lets.length := by show q - 1 < 16; omega
      rw [show q - (q - 1) = 1 by omega, List.drop_eq_getElem_cons h1, List.take_succ_cons, List.take_zero, lt_at h1])
  have hmem : ∀ b ∈ [lt (q - 1)], b ∈ lets := fun b hb => by
    rw [List.mem_singleton] at hb
    have h1 : q - 1 < lets.length := by show q - 1 < 16; omega
    rw [hb, lt_at h1]
    exact List.getElem_mem h1
  have HM := Lib.hid hmem
  clear hmem
  obtain ⟨z, hz⟩ : ∃ z, lt (q - 1) = z := ⟨_, rfl⟩
  rw [hz] at HK hcut HM
  have HZ := Lib.hid hz
  clear hz hqm
  have hTR := fun W => trimRs_any l [z] W (by omega) HM.out (by simp)
  rw [HK.out] at hTR
  have HTR := Lib.hid hTR
  clear hTR
  have hkl := kept_len q l
  have hsp := Lib.hid (kept_split q l)
  cases hk : keptOf q l with
  | nil =>
    have HN := Lib.hid (nxt_nil hk)
    rw [hk] at HTR hkl
    clear hk
    go_enter Tryd.func45, Tryd.ntmps45
    go_wp2_with (go_at_call 74; with_reducible refine (HTR.out _).mono ?_; rintro e W1 ⟨rfl, hb⟩)
    exact bodyPost_ret (v := .tuple #[.string ⟨#[]⟩, .bool false]) (by simp [results, Tryd.results45, go_sem]) rfl ⟨by rw [HN.out]; rfl, hb⟩
  | cons c k =>
    obtain ⟨u, hu⟩ : ∃ u, (c :: k).dropLast = u := ⟨_, rfl⟩
    obtain ⟨d, hd⟩ : ∃ d, (c :: k).getLast (by simp) = d := ⟨_, rfl⟩
    have hcd : keptOf q l = u ++ [d] := by rw [hk, ← hu, ← hd]; exact (List.dropLast_concat_getLast _).symm
    have hul : u.length = k.length := by rw [← hu, List.length_dropLast]; rfl
    have HN := Lib.hid (nxt_snoc hcd)
    have hne := kept_last hcd
    have hdq : dgt d < q := by
      have h1 := hsp.out
      rw [hcd] at h1
      rw [h1, Wof.append, Wof.append, Wof.single] at hW
      exact hW.1.2
    have hd1 : dgt d + 1 < q := by
      have : dgt d ≠ q - 1 := fun e => hne (by rw [← e, lt_dgt (by omega)])
      omega
    rw [hcd, List.length_append, List.length_singleton] at hkl
    rw [hcd] at HTR
    obtain ⟨g, Hg⟩ : ∃ g : Nat, Hid (dgt d = g) := ⟨_, Lib.hid rfl⟩
    rw [Hg.out] at HN hd1 hdq
    have hix := run_at_bytes (u ++ [d]) u.length d (by rw [List.getElem?_append_right (Nat.le_refl _), Nat.sub_self]; rfl) (u.length : Int) rfl
    have hcut2 := run_take_at (u ++ [d]) u u.length (u.length : Int) rfl (by rw [List.length_append]; omega) (by rw [List.take_left])
    have hcut3 : ∀ w, (Instr.slice 9 (.string ⟨#[48, 49, 50, 51, 52, 53, 54, 55, 56, 57, 97, 98, 99, 100, 101, 102]⟩) (some (.int .i64 ((g : Int) + 1))) (some (.int .i64 ((g : Int) + 1 + 1))) none).run Tryd.prog w = .ok (.string ⟨[lt (g + 1)].toArray⟩) w :=
      run_cut_at lets [lt (g + 1)] (g + 1) (g + 2) _ _ (by omega) (by omega) (by omega) (by show g + 2 ≤ 16; omega) (by
        have h1 : g + 1 < lets.length := by show g + 1 < 16; omega
        rw [show g + 2 - (g + 1) = 1 by omega, List.drop_eq_getElem_cons h1, List.take_succ_cons, List.take_zero, lt_at h1])
    obtain ⟨m, Hm⟩ : ∃ m : Nat, Hid (l.length - (u.length + 1) = m) := ⟨_, Lib.hid rfl⟩
    have hml : (l.length : Int) - ((u.length : Int) + 1) = (m : Int) := by have := Hm.out; omega
    have hme : (u ++ [d] == []) = false := by rw [beq_eq_false_iff_ne]; simp
    have hKl : (u ++ [d]).length = u.length + 1 := by simp
    have hmm : m ≤ 1000000 := by omega
    rw [Hm.out] at HN
    obtain ⟨y, hy⟩ : ∃ y, lt (g + 1) = y := ⟨_, rfl⟩
    rw [hy] at HN hcut3
    clear hy
    clear hW hne hk hu hd hcd hul
    generalize hKK : u ++ [d] = K at *
    clear hKK
    go_enter Tryd.func45, Tryd.ntmps45
    go_wp2_with (first | (go_at_call 74; with_reducible refine (HTR.out _).mono ?_; rintro e W1 ⟨rfl, hb⟩) | (go_at_call 75; refine (digit_any d _ (by rw [Hg.out]; omega)).mono ?_; rintro e W2 ⟨rfl, rfl⟩; (rw [Hg.out])))
    have hw1 : IntKind.i64.wrap ((g : Int) + 1 + 1) = (g : Int) + 1 + 1 := by rw [IntKind.wrap_i64]; omega
    have hw2 : IntKind.i64.wrap ((l.length : Int) - ((u.length : Int) + 1)) = (m : Int) := by rw [IntKind.wrap_i64]; omega
    have hw3 : IntKind.i64.wrap ((l.length : Int) - (K.length : Int)) = (m : Int) := by rw [IntKind.wrap_i64]; omega
    have hw4 : IntKind.i64.wrap (m : Int) = (m : Int) := by rw [IntKind.wrap_i64]; omega
    obtain ⟨V, hV⟩ : ∃ V, u ++ [y] = V := ⟨_, rfl⟩
    obtain ⟨Z, hZ⟩ : ∃ Z, List.replicate m (48 : UInt8) = Z := ⟨_, rfl⟩
    obtain ⟨T, hT⟩ : ∃ T, V ++ Z = T := ⟨_, rfl⟩
    have HZZ := Lib.hid hZ
    have hs1 : ∀ w, (Op.stringOp .add ⟨u.toArray⟩ ⟨#[y]⟩).run Tryd.prog w = .ok (.string ⟨V.toArray⟩) w := fun w => by
      rw [← hV]; exact run_string_add_lists w u [y] (by omega) (by simp)
    have hVl : V.length = u.length + 1 := by rw [← hV]; simp
    have hZl : Z.length = m := by rw [← hZ]; simp
    have hs2 : ∀ w, (Op.stringOp .add ⟨V.toArray⟩ ⟨Z.toArray⟩).run Tryd.prog w = .ok (.string ⟨T.toArray⟩) w := fun w => by
      rw [← hT]; exact run_string_add_lists w V Z (by omega) (by omega)
    rw [hV, hZ, hT] at HN
    clear hV hZ hT hVl hZl
    go_region_held3 (fun _ => True) (trivial) (first | (go_at_call 44; (with_reducible refine (least_any m _ hmm).mono ?_); rintro e W3 ⟨rfl, hb3⟩; (rw [HZZ.out])))
    go_wp2
    exact bodyPost_ret (v := .tuple #[.string ⟨T.toArray⟩, .bool true]) (by simp [results, Tryd.results45, go_sem]) rfl ⟨by rw [HN.out]; rfl, below_more hb.drew (Nat.le_refl _) hb3⟩
end Go.Proofs.YtigdjlhihhakmaaDoor

namespace Go.Proofs.YtigdjlhihhakmaaDoor
open Go.RowKit

def two (m : Nat) : Nat → Nat := fun i => if i = 0 then m % 4294967296 else if i = 1 then m / 4294967296 else 0
theorem two_val (m : Nat) : val (two m) 2 = m := by simp [val, two]; omega
theorem two_dig (m : Nat) (h : m < 18446744073709551616) : Dig (two m) 2 := fun i hi => by
  rcases (show i = 0 ∨ i = 1 by omega) with rfl | rfl <;> simp [two] <;> omega

theorem two_rd (w : World) (o : Obj) (t : TypeId) (d0 d1 : Int) (m : Nat) (h0 : d0 = ((m % 4294967296 : Nat) : Int)) (h1 : d1 = ((m / 4294967296 : Nat) : Int)) :
    Rd ((w.alloc o).alloc (.cells #[.int .u32 d0, .int .u32 d1] t)) (some ⟨w.heap.size + 1, 0, none⟩) 2 (two m) := by
  refine ⟨w.heap.size + 1, 0, fun _ => rfl, fun i hi => ?_⟩
  subst h0 h1
  rcases (show i = 0 ∨ i = 1 by omega) with rfl | rfl <;> simp [go_sem, two]
theorem u64_negwrap (z : Int) (h0 : -9223372036854775808 ≤ z) (hz : z < 0) : IntKind.u64.wrap (-IntKind.u64.wrap z) = ((z.natAbs : Nat) : Int) := by
  rw [IntKind.wrap_u64, IntKind.wrap_u64]
  omega

set_option maxRecDepth 100000 in
set_option maxHeartbeats 800000 in
theorem iof_any (z : Int) (w : World) (h0 : -9223372036854775808 ≤ z) (h1 : z ≤ 9223372036854775807) :
    Calls Tryd.prog 34 #[.int .i64 z] w (IntOut w z) := by
  have hm : z.natAbs < 18446744073709551616 := by omega
  have Hm : Hid (z.natAbs < 18446744073709551616) := hm
  have hr := (ResCell.new w 43)
  have hb := below1 w (.cells #[.bool false, .string ⟨#[]⟩] 43)
  have dg2 := two_dig z.natAbs hm
  clear hm
  by_cases hz : z < 0
  · have hw := u64_negwrap z h0 hz
    have Hw : Hid (IntKind.u64.wrap (-IntKind.u64.wrap z) = ((z.natAbs : Nat) : Int)) := hw
    have e1 : IntKind.u64.wrap (-IntKind.u64.wrap z) % 4294967296 = ((z.natAbs % 4294967296 : Nat) : Int) := by rw [hw, Int.natCast_emod]; rfl
    have e2 : IntKind.u64.wrap (-IntKind.u64.wrap z) / 4294967296 % 4294967296 = ((z.natAbs / 4294967296 : Nat) : Int) := by
      rw [hw]; have := Hm.out; omega
    have hrd := two_rd w (.cells #[.bool false, .string ⟨#[]⟩] 43) 85 _ _ z.natAbs e1 e2
    have hS : Hid (z = if true = true then -(z.natAbs : Int) else (z.natAbs : Int)) := by show z = _; rw [if_pos rfl]; omega
    clear hw e1 e2
    go_enter Tryd.func34, Tryd.ntmps34
    go_wp2_with fail
    refine (trim_any _ 2 2 (two z.natAbs) _ (Nat.le_refl _) (by omega) hrd).mono ?_
    rintro e W ⟨rfl, rfl⟩
    obtain ⟨A3, n3, c3, he, hi, hbb⟩ := nat_out hrd (Below.refl _ _) dg2 (by omega) (two_val z.natAbs)
    injection he with he
    injection he with x1 x2 x3
    subst x1 x2 x3
    go_wp2_with fail
    refine (signed_any true _ _ _ z.natAbs _ hi (by have := tln_le (two z.natAbs) 2; omega)).mono ?_
    rintro e W4 ⟨rfl, b4⟩
    rw [ivN_eq true _ z hS.out]
    have hb2 := hb.alloc (by rw [World.size_alloc]; omega) (.cells #[.int .u32 (IntKind.u64.wrap (-IntKind.u64.wrap z) % 4294967296), .int .u32 (IntKind.u64.wrap (-IntKind.u64.wrap z) / 4294967296 % 4294967296)] 85)
    obtain ⟨r1, r2, r3, r4⟩ := (hr.keep (below1 _ _)).keep b4
    go_wp2
    exact bodyPost_ret (v := .agg #[.bool (sg z), .string (mg z)]) (by simp [results, Tryd.results34, go_sem, r1, r2]) rfl ⟨rfl, below_more2 hb2 (Nat.le_refl _) b4 (Nat.le_refl _) (Nat.le_refl _)⟩
  · have e1 : z % 4294967296 = ((z.natAbs % 4294967296 : Nat) : Int) := by omega
    have e2 : z / 4294967296 = ((z.natAbs / 4294967296 : Nat) : Int) := by omega
    have hrd := two_rd w (.cells #[.bool false, .string ⟨#[]⟩] 43) 85 _ _ z.natAbs e1 e2
    have hS : Hid (z = if false = true then -(z.natAbs : Int) else (z.natAbs : Int)) := by show z = _; rw [if_neg (by simp)]; omega
    clear e1 e2
    go_enter Tryd.func34, Tryd.ntmps34
    go_wp2_with fail
    refine (trim_any _ 2 2 (two z.natAbs) _ (Nat.le_refl _) (by omega) hrd).mono ?_
    rintro e W ⟨rfl, rfl⟩
    obtain ⟨A3, n3, c3, he, hi, hbb⟩ := nat_out hrd (Below.refl _ _) dg2 (by omega) (two_val z.natAbs)
    injection he with he
    injection he with x1 x2 x3
    subst x1 x2 x3
    go_wp2_with fail
    refine (signed_any false _ _ _ z.natAbs _ hi (by have := tln_le (two z.natAbs) 2; omega)).mono ?_
    rintro e W4 ⟨rfl, b4⟩
    rw [ivN_eq false _ z hS.out]
    have hb2 := hb.alloc (by rw [World.size_alloc]; omega) (.cells #[.int .u32 (z % 4294967296), .int .u32 (z / 4294967296)] 85)
    obtain ⟨r1, r2, r3, r4⟩ := (hr.keep (below1 _ _)).keep b4
    go_wp2
    exact bodyPost_ret (v := .agg #[.bool (sg z), .string (mg z)]) (by simp [results, Tryd.results34, go_sem, r1, r2]) rfl ⟨rfl, below_more2 hb2 (Nat.le_refl _) b4 (Nat.le_refl _) (Nat.le_refl _)⟩
end Go.Proofs.YtigdjlhihhakmaaDoor

namespace Go.Proofs.YtigdjlhihhakmaaDoor
open Go.RowKit

/-- The next word, or the error. -/
def nextW (q : Int) (l : List UInt8) : List UInt8 × Int :=
  if chk q l = 0 then (match nxt q.toNat l with | some v => (v, 0) | none => if l.length = 65536 then ([], 4) else (List.replicate (l.length + 1) 48, 0)) else ([], chk q l)
def TxOut (w : World) (r : List UInt8 × Int) (e : Ending) (w' : World) : Prop := e = .returned (.tuple #[.string ⟨r.1.toArray⟩, .int .i64 r.2]) ∧ Below w.heap.size w w'
theorem chk_zero {q : Int} {l : List UInt8} (h : chk q l = 0) : ∃ m : Nat, q = (m : Int) ∧ 1 ≤ m ∧ m ≤ 16 ∧ l.length ≤ 65536 ∧ Wof m l := by
  unfold chk at h
  split at h
  · next h1 =>
    split at h
    · next h2 =>
      split at h
      · next h3 => exact ⟨q.toNat, by omega, by omega, by omega, h2, h3⟩
      · cases h
    · cases h
  · cases h
theorem chk_of {m : Nat} {l : List UInt8} (h1 : 1 ≤ m) (h2 : m ≤ 16) (h3 : l.length ≤ 65536) (h4 : Wof m l) : chk (m : Int) l = 0 := by
  unfold chk
  rw [if_pos ⟨by omega, by omega⟩, if_pos h3, Int.toNat_natCast, if_pos h4]
theorem nextW_some {m : Nat} {l v : List UInt8} (h0 : chk (m : Int) l = 0) (h : nxt m l = some v) : nextW (m : Int) l = (v, 0) := by unfold nextW; rw [if_pos h0, Int.toNat_natCast, h]
theorem nextW_none {m : Nat} {l : List UInt8} (h0 : chk (m : Int) l = 0) (h : nxt m l = none) : nextW (m : Int) l = if l.length = 65536 then ([], 4) else (List.replicate (l.length + 1) 48, 0) := by unfold nextW; rw [if_pos h0, Int.toNat_natCast, h]
set_option maxRecDepth 100000 in
set_option maxHeartbeats 1600000 in
theorem next_any (q : Int) (l : List UInt8) (w : World) (hl : l.length ≤ 9223372036854775807) :
    Calls Tryd.prog 15 #[.int .i64 q, .string ⟨l.toArray⟩] w (TxOut w (nextW q l)) := by
  by_cases h0 : chk q l = 0
  · obtain ⟨m, rfl, m1, m2, hl2, hW⟩ := chk_zero h0
    have H0 := Lib.hid h0
    have HW := Lib.hid hW
    have HS := Lib.hid (successor_any m l)
    obtain ⟨r, Hr⟩ : ∃ r, Hid (nxt m l = r) := ⟨_, Lib.hid rfl⟩
    clear h0 hW
    cases r with
    | some v =>
      have HX := Lib.hid (nextW_some H0.out Hr.out)
      go_enter Tryd.func15, Tryd.ntmps15
      go_wp2_with (first | (go_at_call 17; (with_reducible refine (check_any _ l _ hl).mono ?_); rintro e W1 ⟨rfl, hb⟩; (rw [H0.out])) | (go_at_call 45; (with_reducible refine (HS.out _ m1 m2 hl2 HW.out).mono ?_); rintro e W2 ⟨rfl, hb2⟩; (rw [Hr.out]); (dsimp only [Option.getD, Option.isSome])))
      exact bodyPost_ret (v := .tuple #[.string ⟨v.toArray⟩, .int .i64 0]) (by simp [results, Tryd.results15, go_sem]) rfl ⟨by rw [HX.out], below_more hb (Nat.le_refl _) hb2⟩
    | none =>
      have HX := Lib.hid (nextW_none H0.out Hr.out)
      by_cases h5 : l.length = 65536
      · have h6 : (l.length : Int) = 65536 := by omega
        have HX2 := Lib.hid (show nextW m l = ([], 4) by rw [HX.out]; exact if_pos h5)
        clear h5
        go_enter Tryd.func15, Tryd.ntmps15
        go_wp2_with (first | (go_at_call 17; (with_reducible refine (check_any _ l _ hl).mono ?_); rintro e W1 ⟨rfl, hb⟩; (rw [H0.out])) | (go_at_call 45; (with_reducible refine (HS.out _ m1 m2 hl2 HW.out).mono ?_); rintro e W2 ⟨rfl, hb2⟩; (rw [Hr.out]); (dsimp only [Option.getD, Option.isSome])))
        exact bodyPost_ret (v := .tuple #[.string ⟨#[]⟩, .int .i64 4]) (by simp [results, Tryd.results15, go_sem]) rfl ⟨by rw [HX2.out], below_more hb (Nat.le_refl _) hb2⟩
      · have h6 : ((l.length : Int) == 65536) = false := by rw [beq_eq_false_iff_ne]; omega
        have HX2 := Lib.hid (show nextW m l = (List.replicate (l.length + 1) 48, 0) by rw [HX.out]; exact if_neg h5)
        have hL : ∀ W, Calls Tryd.prog 44 #[.int .i64 ((l.length : Int) + 1)] W fun e w' => e = .returned (.string ⟨(List.replicate (l.length + 1) 48).toArray⟩) ∧ Below W.heap.size W w' := fun W => least_any (l.length + 1) W (by omega)
        have HL := Lib.hid hL
        clear hL
        obtain ⟨Z, hZ⟩ : ∃ Z, List.replicate (l.length + 1) (48 : UInt8) = Z := ⟨_, rfl⟩
        rw [hZ] at HX2
        simp only [hZ] at HL
        clear hZ
        clear h5
        go_enter Tryd.func15, Tryd.ntmps15
        go_wp2_with (first | (go_at_call 17; (with_reducible refine (check_any _ l _ hl).mono ?_); rintro e W1 ⟨rfl, hb⟩; (rw [H0.out])) | (go_at_call 45; (with_reducible refine (HS.out _ m1 m2 hl2 HW.out).mono ?_); rintro e W2 ⟨rfl, hb2⟩; (rw [Hr.out]); (dsimp only [Option.getD, Option.isSome])) | (go_at_call 44; (with_reducible refine (HL.out _).mono ?_); rintro e W3 ⟨rfl, hb3⟩))
        exact bodyPost_ret (v := .tuple #[.string ⟨Z.toArray⟩, .int .i64 0]) (by simp [results, Tryd.results15, go_sem]) rfl ⟨by rw [HX2.out], below_more (below_more hb (Nat.le_refl _) hb2) (Nat.le_refl _) hb3⟩
  · obtain ⟨c, hc⟩ : ∃ c, chk q l = c := ⟨_, rfl⟩
    have HX := Lib.hid (show nextW q l = ([], c) by unfold nextW; rw [if_neg h0, hc])
    have HC := Lib.hid hc
    rw [hc] at h0
    have h1 : (c == 0) = false := by rw [beq_eq_false_iff_ne]; exact h0
    clear hc h0
    go_enter Tryd.func15, Tryd.ntmps15
    go_wp2_with (go_at_call 17; (with_reducible refine (check_any _ l _ hl).mono ?_); rintro e W1 ⟨rfl, hb⟩; (rw [HC.out]))
    exact bodyPost_ret (v := .tuple #[.string ⟨#[]⟩, .int .i64 c]) (by simp [results, Tryd.results15, go_sem]) rfl ⟨by rw [HX.out], hb⟩

/-! A word's rank. -/
theorem bytes_below (w : World) (e : TypeId) (s : ByteArray) : Below w.heap.size w (Lib.bytesWorld w e s) :=
  ⟨rfl, rfl, rfl, by rw [Lib.bytesWorld_size]; omega, fun k hk => Lib.bytesWorld_at_old w e s k hk⟩
theorem pow15 {q n : Nat} (q2 : q ≤ 16) (hn : n ≤ 15) : q ^ n ≤ 1152921504606846976 :=
  Nat.le_trans (Nat.pow_le_pow_left q2 n) (Nat.le_trans (Nat.pow_le_pow_right (by omega) hn) (by decide))
theorem Wof.take {q : Nat} {l : List UInt8} (h : Wof q l) (n : Nat) : Wof q (l.take n) := fun c hc => h c (List.mem_of_mem_take hc)
set_option maxRecDepth 100000 in
set_option maxHeartbeats 1600000 in
theorem shortRank_any (q : Nat) (l : List UInt8) (w : World) (q1 : 1 ≤ q) (q2 : q ≤ 16) (hl : l.length ≤ 15) (hW : Wof q l) :
    Calls Tryd.prog 86 #[.int .i64 (q : Int), .string ⟨l.toArray⟩] w fun e w' => e = .returned (.int .i64 (rk q l : Int)) ∧ Below w.heap.size w w' := by
  have HW := Lib.hid hW
  clear hW
  have hcv := fun W => Lib.run_convert_string_bytes (P := Tryd.prog) W 9 70 5 ⟨l.toArray⟩ Tryd.underlying9 Tryd.underlying70 Tryd.underlying5
  go_enter Tryd.func86, Tryd.ntmps86
  go_wp2_with fail
  have hb0 := bytes_below w 5 ⟨l.toArray⟩
  have hc0 : ∀ j c, l[j]? = some c → (Lib.bytesWorld w 5 ⟨l.toArray⟩).cell? ⟨w.heap.size, j, none⟩ = some (.int .u8 (c.toNat : Int)) := fun j c hj => by
    have hjl : j < l.length := by
      rcases Nat.lt_or_ge j l.length with h | h
      · exact h
      · rw [List.getElem?_eq_none h] at hj; cases hj
    rw [Lib.bytesWorld_cell _ _ _ _ hjl]
    have : (⟨l.toArray⟩ : ByteArray).data.toList.getD j 0 = c := by show l.getD j 0 = c; rw [List.getD_eq_getElem?_getD, hj]; rfl
    rw [this]
  have HC := Lib.hid hc0
  clear hcv hc0
  generalize Lib.bytesWorld w 5 ⟨l.toArray⟩ = W0 at *
  go_loopg [5, 11] l.length (fun g s5 s11 wx => wx = W0 ∧ ∃ i a : Nat, i + g = l.length ∧ s11 = .int .i64 (i : Int) ∧ s5 = .int .i64 (a : Int) ∧ Hid (rk q (l.take i) = a))
  case atStart => exact ⟨rfl, 0, 0, by omega, rfl, rfl, rfl⟩
  case round =>
    obtain ⟨rfl, i, a, hi, rfl, rfl, Ha⟩ := hrel
    rcases gk with _ | g
    · obtain rfl : i = l.length := by omega
      have HR := Lib.hid (show rk q l = a by have := Ha.out; rwa [List.take_length] at this)
      clear Ha
      go_wp2
      go_ret
      exact ⟨by rw [HR.out]; rfl, hb0⟩
    · obtain ⟨c, hc⟩ : ∃ c, l[i]? = some c := ⟨_, List.getElem?_eq_getElem (by omega)⟩
      have hcell := HC.out i c hc
      have hcq : dgt c < q := HW.out c (List.mem_of_getElem? hc)
      have hb2 := rk_lt (HW.out.take (i + 1))
      have hp := pow15 (n := (l.take (i + 1)).length) q2 (by rw [List.length_take]; omega)
      have hs : rk q (l.take (i + 1)) = a * q + dgt c := by rw [List.take_add_one, hc, Option.toList, rk_snoc, Ha.out]
      rw [hs] at hb2
      obtain ⟨t, Ht⟩ : ∃ t, Hid (a * q = t) := ⟨_, Lib.hid rfl⟩
      obtain ⟨d, Hd⟩ : ∃ d, Hid (dgt c = d) := ⟨_, Lib.hid rfl⟩
      rw [Ht.out, Hd.out] at hs hb2
      rw [Hd.out] at hcq
      have Hs := Lib.hid hs
      have HD := Lib.hid (fun W => digit_any c W (by rw [Hd.out]; omega))
      have htb : t + d < 1152921504606846976 := by omega
      have hmul : (a : Int) * (q : Int) = (t : Int) := by rw [← Ht.out, Int.natCast_mul]
      have hc' := c.toNat_lt
      clear hc hs hb2 hp
      go_wp2_with (go_at_call 75; (with_reducible refine (HD.out _).mono ?_); rintro e W1 ⟨rfl, rfl⟩; (rw [Hd.out]))
      go_roundg g
      case measure => omega
      case rel => exact ⟨rfl, i + 1, t + d, by omega, by go_num, by go_num, Hs⟩
end Go.Proofs.YtigdjlhihhakmaaDoor
