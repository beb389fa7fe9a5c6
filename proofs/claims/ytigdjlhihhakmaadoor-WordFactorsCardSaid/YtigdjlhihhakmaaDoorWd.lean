/- What word.digit, word.least, word.successor and word.Next return. Condition: a string's length. -/
import Derived.Test.YtigdjlhihhakmaaDoorWc
import Derived.Deep.RegionHeld3
namespace Go.Proofs.YtigdjlhihhakmaaDoor
open Go.RowKit

theorem index_of : ∀ (l : List UInt8) (c : UInt8), c ∈ l → Lib.indexByte l c = (l.idxOf c : Int)
  | [], _, h => by cases h
  | b :: l, c, h => by
    unfold Lib.indexByte
    rw [List.idxOf_cons]
    cases e : b == c with
    | true => simp
    | false =>
      have h2 : c ∈ l := by
        rcases List.mem_cons.1 h with h3 | h3
        · subst h3; simp at e
        · exact h3
      rw [index_of l c h2]
      have : ((l.idxOf c : Int) == -1) = false := by rw [beq_eq_false_iff_ne]; omega
      simp [this]
theorem repeat_zeros (n : Nat) : Lib.repeatL [48] n = List.replicate n 48 := by
  induction n with
  | zero => rfl
  | succ n ih => show [48] ++ Lib.repeatL [48] n = _; rw [ih]; rfl
theorem digit_any (c : UInt8) (w : World) (hc : dgt c < 16) : Calls Tryd.prog 75 #[.int .u8 (c.toNat : Int)] w fun e w' => e = .returned (.int .i64 (dgt c : Int)) ∧ w' = w := by
  have hm : c ∈ lets := by have := (mem_lets (q := 16) (Nat.le_refl _) c).2 hc; exact List.mem_of_mem_take this
  have HI := Lib.hid (show Lib.indexByte lb.data.toList ((c.toNat : Int).toNat).toUInt8 = (dgt c : Int) by
    rw [Int.toNat_natCast, show c.toNat.toUInt8 = c from by simp]
    exact index_of lets c hm)
  go_enter Tryd.func75, Tryd.ntmps75
  go_wp2_with (go_at_call 101; refine (Tryd.strings_IndexByte _ _ _).mono ?_; rintro e W1 ⟨rfl, rfl⟩; (rw [HI.out]))
  go_ret
  exact ⟨rfl, rfl⟩
theorem least_any (n : Nat) (w : World) (hn : n ≤ 1000000) : Calls Tryd.prog 44 #[.int .i64 (n : Int)] w fun e w' => e = .returned (.string ⟨(List.replicate n 48).toArray⟩) ∧ Below w.heap.size w w' := by
  have HR := Lib.hid (repeat_zeros n)
  have hcut : ∀ w, (Instr.slice 9 (.string ⟨#[48, 49, 50, 51, 52, 53, 54, 55, 56, 57, 97, 98, 99, 100, 101, 102]⟩) none (some (.int .i64 1)) none).run Tryd.prog w = .ok (.string ⟨#[48]⟩) w := run_take_at lets [48] 1 1 rfl (by decide) rfl
  go_enter Tryd.func44, Tryd.ntmps44
  go_wp2_with (go_at_call 41; refine (Tryd.strings_Repeat ⟨#[48]⟩ n _ (by omega) (by show 1 * n ≤ _; omega)).mono ?_; rintro e W1 ⟨rfl, hb⟩; (rw [show (⟨#[48]⟩ : ByteArray).data.toList = [48] from rfl, HR.out]))
  go_ret
  exact ⟨rfl, hb⟩
theorem nxt_nil {q : Nat} {l : List UInt8} (h : keptOf q l = []) : nxt q l = none := by
  unfold nxt
  split
  · rfl
  · next h2 => rw [h] at h2; cases h2
theorem nxt_snoc {q : Nat} {l u : List UInt8} {d : UInt8} (h : keptOf q l = u ++ [d]) : nxt q l = some (u ++ [lt (dgt d + 1)] ++ List.replicate (l.length - (u.length + 1)) 48) := by
  unfold nxt
  split
  · next h2 => rw [h] at h2; simp at h2
  · next c k h2 =>
    rw [h] at h2
    have e1 : (c :: k).dropLast = u := by rw [← h2, List.dropLast_concat]
    have e2 : (c :: k).getLast (by simp) = d := by simp only [← h2, List.getLast_concat]
    have e3 : k.length = u.length := by have := congrArg List.length h2; simp at this; omega
    rw [e1, e2, e3]
/-- What successor returns. -/
def SucOut (w : World) (r : Option (List UInt8)) (e : Ending) (w' : World) : Prop :=
  e = .returned (.tuple #[.string ⟨(r.getD []).toArray⟩, .bool r.isSome]) ∧ Below w.heap.size w w'
set_option linter.unusedSimpArgs false
set_option maxRecDepth 100000 in
set_option maxHeartbeats 1600000 in
theorem successor_any (q : Nat) (l : List UInt8) (w : World) (q1 : 1 ≤ q) (q2 : q ≤ 16) (hl : l.length ≤ 65536) (hW : Wof q l) :
    Calls Tryd.prog 45 #[.int .i64 (q : Int), .string ⟨l.toArray⟩] w (SucOut w (nxt q l)) := by
  have HK := Lib.hid (show Lib.trimRightS l [lt (q - 1)] = keptOf q l by rw [Lib.trimRightS_one]; rfl)
  have hqm : (q : Int) - 1 = ((q - 1 : Nat) : Int) := by omega
  have hcut : ∀ w, (Instr.slice 9 (.string ⟨#[48, 49, 50, 51, 52, 53, 54, 55, 56, 57, 97, 98, 99, 100, 101, 102]⟩) (some (.int .i64 ((q : Int) - 1))) (some (.int .i64 (q : Int))) none).run Tryd.prog w = .ok (.string ⟨[lt (q - 1)].toArray⟩) w :=
    run_cut_at lets [lt (q - 1)] (q - 1) q _ _ hqm rfl (by omega) (by show q ≤ 16; omega) (by
      have h1 : q - 1 < lets.length := by show q - 1 < 16; omega
      rw [show q - (q - 1) = 1 by omega, List.drop_eq_getElem_cons h1, List.take_succ_cons, List.take_zero, lt_at h1])
  have hmem : ∀ b ∈ [lt (q - 1)], b ∈ lets := fun b hb => by
    rw [List.mem_singleton] at hb
    have h1 : q - 1 < lets.length := by show q - 1 < 16; omega
    rw [hb, lt_at h1]
    exact List.getElem_mem h1
  have HM := Lib.hid hmem
  clear hmem
  obtain ⟨z, hz⟩ : ∃ z, lt (q - 1) = z := ⟨_, rfl⟩
  rw [hz] at HK hcut HM
  have HZ := Lib.hid hz
  clear hz hqm
  have hTR := fun W => trimRs_any l [z] W (by omega) HM.out (by simp)
  rw [HK.out] at hTR
  have HTR := Lib.hid hTR
  clear hTR
  have hkl := kept_len q l
  have hsp := Lib.hid (kept_split q l)
  cases hk : keptOf q l with
  | nil =>
    have HN := Lib.hid (nxt_nil hk)
    rw [hk] at HTR hkl
    clear hk
    go_enter Tryd.func45, Tryd.ntmps45
    go_wp2_with (go_at_call 74; with_reducible refine (HTR.out _).mono ?_; rintro e W1 ⟨rfl, hb⟩)
    exact bodyPost_ret (v := .tuple #[.string ⟨#[]⟩, .bool false]) (by simp [results, Tryd.results45, go_sem]) rfl ⟨by rw [HN.out]; rfl, hb⟩
  | cons c k =>
    obtain ⟨u, hu⟩ : ∃ u, (c :: k).dropLast = u := ⟨_, rfl⟩
    obtain ⟨d, hd⟩ : ∃ d, (c :: k).getLast (by simp) = d := ⟨_, rfl⟩
    have hcd : keptOf q l = u ++ [d] := by rw [hk, ← hu, ← hd]; exact (List.dropLast_concat_getLast _).symm
    have hul : u.length = k.length := by rw [← hu, List.length_dropLast]; rfl
    have HN := Lib.hid (nxt_snoc hcd)
    have hne := kept_last hcd
    have hdq : dgt d < q := by
      have h1 := hsp.out
      rw [hcd] at h1
      rw [h1, Wof.append, Wof.append, Wof.single] at hW
      exact hW.1.2
    have hd1 : dgt d + 1 < q := by
      have : dgt d ≠ q - 1 := fun e => hne (by rw [← e, lt_dgt (by omega)])
      omega
    rw [hcd, List.length_append, List.length_singleton] at hkl
    rw [hcd] at HTR
    obtain ⟨g, Hg⟩ : ∃ g : Nat, Hid (dgt d = g) := ⟨_, Lib.hid rfl⟩
    rw [Hg.out] at HN hd1 hdq
    have hix := run_at_bytes (u ++ [d]) u.length d (by rw [List.getElem?_append_right (Nat.le_refl _), Nat.sub_self]; rfl) (u.length : Int) rfl
    have hcut2 := run_take_at (u ++ [d]) u u.length (u.length : Int) rfl (by rw [List.length_append]; omega) (by rw [List.take_left])
    have hcut3 : ∀ w, (Instr.slice 9 (.string ⟨#[48, 49, 50, 51, 52, 53, 54, 55, 56, 57, 97, 98, 99, 100, 101, 102]⟩) (some (.int .i64 ((g : Int) + 1))) (some (.int .i64 ((g : Int) + 1 + 1))) none).run Tryd.prog w = .ok (.string ⟨[lt (g + 1)].toArray⟩) w :=
      run_cut_at lets [lt (g + 1)] (g + 1) (g + 2) _ _ (by omega) (by omega) (by omega) (by show g + 2 ≤ 16; omega) (by
        have h1 : g + 1 < lets.length := by show g + 1 < 16; omega
        rw [show g + 2 - (g + 1) = 1 by omega, List.drop_eq_getElem_cons h1, List.take_succ_cons, List.take_zero, lt_at h1])
    obtain ⟨m, Hm⟩ : ∃ m : Nat, Hid (l.length - (u.length + 1) = m) := ⟨_, Lib.hid rfl⟩
    have hml : (l.length : Int) - ((u.length : Int) + 1) = (m : Int) := by have := Hm.out; omega
    have hme : (u ++ [d] == []) = false := by rw [beq_eq_false_iff_ne]; simp
    have hKl : (u ++ [d]).length = u.length + 1 := by simp
    have hmm : m ≤ 1000000 := by omega
    rw [Hm.out] at HN
    obtain ⟨y, hy⟩ : ∃ y, lt (g + 1) = y := ⟨_, rfl⟩
    rw [hy] at HN hcut3
    clear hy
    clear hW hne hk hu hd hcd hul
    generalize hKK : u ++ [d] = K at *
    clear hKK
    go_enter Tryd.func45, Tryd.ntmps45
    go_wp2_with (first | (go_at_call 74; with_reducible refine (HTR.out _).mono ?_; rintro e W1 ⟨rfl, hb⟩) | (go_at_call 75; refine (digit_any d _ (by rw [Hg.out]; omega)).mono ?_; rintro e W2 ⟨rfl, rfl⟩; (rw [Hg.out])))
    have hw1 : IntKind.i64.wrap ((g : Int) + 1 + 1) = (g : Int) + 1 + 1 := by rw [IntKind.wrap_i64]; omega
    have hw2 : IntKind.i64.wrap ((l.length : Int) - ((u.length : Int) + 1)) = (m : Int) := by rw [IntKind.wrap_i64]; omega
    have hw3 : IntKind.i64.wrap ((l.length : Int) - (K.length : Int)) = (m : Int) := by rw [IntKind.wrap_i64]; omega
    have hw4 : IntKind.i64.wrap (m : Int) = (m : Int) := by rw [IntKind.wrap_i64]; omega
    obtain ⟨V, hV⟩ : ∃ V, u ++ [y] = V := ⟨_, rfl⟩
    obtain ⟨Z, hZ⟩ : ∃ Z, List.replicate m (48 : UInt8) = Z := ⟨_, rfl⟩
    obtain ⟨T, hT⟩ : ∃ T, V ++ Z = T := ⟨_, rfl⟩
    have HZZ := Lib.hid hZ
    have hs1 : ∀ w, (Op.stringOp .add ⟨u.toArray⟩ ⟨#[y]⟩).run Tryd.prog w = .ok (.string ⟨V.toArray⟩) w := fun w => by
      rw [← hV]; exact run_string_add_lists w u [y] (by omega) (by simp)
    have hVl : V.length = u.length + 1 := by rw [← hV]; simp
    have hZl : Z.length = m := by rw [← hZ]; simp
    have hs2 : ∀ w, (Op.stringOp .add ⟨V.toArray⟩ ⟨Z.toArray⟩).run Tryd.prog w = .ok (.string ⟨T.toArray⟩) w := fun w => by
      rw [← hT]; exact run_string_add_lists w V Z (by omega) (by omega)
    rw [hV, hZ, hT] at HN
    clear hV hZ hT hVl hZl
    go_region_held3 (fun _ => True) (trivial) (first | (go_at_call 44; (with_reducible refine (least_any m _ hmm).mono ?_); rintro e W3 ⟨rfl, hb3⟩; (rw [HZZ.out])))
    go_wp2
    exact bodyPost_ret (v := .tuple #[.string ⟨T.toArray⟩, .bool true]) (by simp [results, Tryd.results45, go_sem]) rfl ⟨by rw [HN.out]; rfl, below_more hb.drew (Nat.le_refl _) hb3⟩
end Go.Proofs.YtigdjlhihhakmaaDoor
