/- What word.Border, word.Period and word.Root return. Condition: at most 10^6 bytes. -/
import Derived.Test.YtigdjlhihhakmaaDoorWy
import Derived.Deep.QuietTactic
import Derived.Lib.MinMax
import Derived.BigQuiet
namespace Go.Proofs.YtigdjlhihhakmaaDoor
open Go.RowKit

theorem run_cut_at (l g : List UInt8) (a b : Nat) (za zb : Int) (hz : za = (a : Int)) (hy : zb = (b : Int)) (h1 : a ≤ b) (h2 : b ≤ l.length) (hg : (l.drop a).take (b - a) = g) (w : World) :
    (Instr.slice 9 (.string ⟨l.toArray⟩) (some (.int .i64 za)) (some (.int .i64 zb)) none).run Tryd.prog w = .ok (.string ⟨g.toArray⟩) w := by
  subst hz; subst hy
  rw [run_slice_string w 9 ⟨l.toArray⟩ .i64 .i64 a b Tryd.underlying9 (by omega) (by omega) (by simp [ByteArray.size]; omega), Int.toNat_natCast, Int.toNat_natCast, ByteArray.extract_mk, hg]
theorem run_take_at (l g : List UInt8) (k : Nat) (z : Int) (hz : z = (k : Int)) (h2 : k ≤ l.length) (hg : l.take k = g) (w : World) :
    (Instr.slice 9 (.string ⟨l.toArray⟩) none (some (.int .i64 z)) none).run Tryd.prog w = .ok (.string ⟨g.toArray⟩) w := by
  subst hz
  rw [run_slice_string_h w 9 ⟨l.toArray⟩ Tryd.underlying9 .i64 (k : Int) (by omega) (by simp [ByteArray.size]; omega), Int.toNat_natCast, ByteArray.extract_mk, List.drop_zero, Nat.sub_zero, hg]
theorem run_drop_at (l g : List UInt8) (k : Nat) (z : Int) (hz : z = (k : Int)) (h2 : k ≤ l.length) (hg : l.drop k = g) (w : World) :
    (Instr.slice 9 (.string ⟨l.toArray⟩) (some (.int .i64 z)) none none).run Tryd.prog w = .ok (.string ⟨g.toArray⟩) w := by
  subst hz
  rw [run_slice_string_l w 9 ⟨l.toArray⟩ Tryd.underlying9 .i64 (k : Int) (by omega) (by simp [ByteArray.size]; omega), Int.toNat_natCast, ByteArray.extract_mk, show (⟨l.toArray⟩ : ByteArray).size = l.length from rfl, List.take_of_length_le (by rw [List.length_drop]; omega), hg]
theorem tab_whole (l : List UInt8) : max 0 (tab l l.length) = (bord l : Int) := by
  unfold tab
  split
  · next h => rw [List.eq_nil_of_length_eq_zero h]; rfl
  · rw [List.take_length]; omega

theorem tab_cell {W : World} {g n : Nat} {l : List UInt8} (h : TabAt W (some ⟨g, 0, none⟩) n l) {i : Nat} (hi : i < n) : W.cell? ⟨g, i, none⟩ = some (.int .i64 (tab l i)) := by
  obtain ⟨b, off, hA, hc⟩ := h
  have e := hA (by omega)
  injection e with e
  injection e with e1 e2
  subst e1 e2
  have := hc i hi
  rwa [Nat.zero_add] at this

set_option maxRecDepth 100000 in
set_option maxHeartbeats 1600000 in
theorem border_any (l : List UInt8) (w : World) (hl : l.length ≤ 1000000) :
    Calls Tryd.prog 25 #[.string ⟨l.toArray⟩] w fun e w' => e = .returned (.int .i64 (bord l : Int)) ∧ Below w.heap.size w w' := by
  have hm := Lib.hid (tab_whole l)
  go_enter Tryd.func25, Tryd.ntmps25
  go_wp2_with (go_at_call 52; refine (borders_any l _ hl).mono ?_; rintro e W1 ⟨g, bw, bt, c, rfl, x0, x1, hT, hb⟩; (have hcell := tab_cell hT (Nat.lt_succ_self l.length)); (clear hT x0 x1))
  go_wp2
  go_ret
  exact ⟨by show Ending.returned (.int .i64 (max 0 (tab l l.length))) = _; rw [hm.out], hb⟩

set_option maxRecDepth 100000 in
set_option maxHeartbeats 1600000 in
theorem period_any (l : List UInt8) (w : World) (hl : l.length ≤ 1000000) :
    Calls Tryd.prog 27 #[.string ⟨l.toArray⟩] w fun e w' => e = .returned (.int .i64 (per l : Int)) ∧ Below w.heap.size w w' := by
  have hle := bord_le l
  obtain ⟨p, Hp⟩ : ∃ p : Nat, Hid (per l = p) := ⟨_, Lib.hid rfl⟩
  obtain ⟨b, Hb⟩ : ∃ b : Nat, Hid (bord l = b) := ⟨_, Lib.hid rfl⟩
  have hpb : (l.length : Int) - (b : Int) = (p : Int) := by
    rw [← Hp.out, ← Hb.out]; unfold per; omega
  have HP := Lib.hid hpb
  rw [Hb.out] at hle
  rw [Hp.out]
  clear hpb
  go_enter Tryd.func27, Tryd.ntmps27
  go_wp2_with (go_at_call 25; refine (border_any l _ hl).mono ?_; rintro e W1 ⟨rfl, hb⟩; (rw [Hb.out]))
  go_ret
  exact ⟨by show Ending.returned (.int .i64 ((l.length : Int) - (b : Int))) = _; rw [HP.out], hb⟩

theorem root_empty (w : World) : Calls Tryd.prog 20 #[.string ⟨#[]⟩] w fun e w' => e = .returned (.tuple #[.string ⟨#[]⟩, .int .i64 0]) ∧ w' = w := by
  go_enter Tryd.func20, Tryd.ntmps20
  go_wp2
  exact bodyPost_ret (v := .tuple #[.string ⟨#[]⟩, .int .i64 0]) (by simp [results, Tryd.results20, go_sem]) rfl ⟨rfl, rfl⟩

set_option maxRecDepth 100000 in
set_option maxHeartbeats 1600000 in
theorem root_some (l : List UInt8) (w : World) (hl : l.length ≤ 1000000) (h0 : l ≠ []) :
    Calls Tryd.prog 20 #[.string ⟨l.toArray⟩] w fun e w' => e = .returned (.tuple #[.string ⟨(rootL l).toArray⟩, .int .i64 (rootN l : Int)]) ∧ Below w.heap.size w w' := by
  have hp := per_pos h0
  have hle := per_le l
  have hne : (l == []) = false := by rw [beq_eq_false_iff_ne]; exact h0
  have hpos := List.length_pos_iff.2 h0
  obtain ⟨p, Hp⟩ : ∃ p : Nat, Hid (per l = p) := ⟨_, Lib.hid rfl⟩
  obtain ⟨n, hn⟩ : ∃ n : Nat, l.length = n := ⟨_, rfl⟩
  have Hn := Lib.hid hn
  have hR : rlen l = if n % p = 0 then p else n := by unfold rlen; rw [hn, Hp.out]
  rw [Hp.out] at hp hle
  rw [hn] at hl hle hpos
  have Hr := Lib.hid hR
  have hdm := Nat.div_add_mod n p
  have hq : Int.tdiv (n : Int) (p : Int) = ((n / p : Nat) : Int) := by rw [Int.tdiv_eq_ediv_of_nonneg (by omega)]; rfl
  have hr : Int.tmod (n : Int) (p : Int) = ((n % p : Nat) : Int) := by rw [Int.tmod_eq_emod_of_nonneg (by omega)]; rfl
  have hrl := Nat.mod_lt n hp
  have hql := Nat.div_le_self n p
  obtain ⟨q, Hq⟩ : ∃ q : Nat, Hid (n / p = q) := ⟨_, Lib.hid rfl⟩
  obtain ⟨r, HR⟩ : ∃ r : Nat, Hid (n % p = r) := ⟨_, Lib.hid rfl⟩
  rw [Hq.out] at hq hql
  rw [HR.out] at hr hrl
  have hm0 : ¬ (p : Int) = 0 := by omega
  have hls : (⟨l.toArray⟩ : ByteArray).size = n := by rw [← hn]; rfl
  have hL : (if n % p = 0 then p else n) = rlen l := Hr.out.symm
  clear hdm hn h0 hR
  by_cases hr0 : r = 0
  · have HRL := Lib.hid (show rlen l = p by rw [Hr.out, HR.out, if_pos hr0])
    have HC := Lib.hid (show l.take p = rootL l by unfold rootL; rw [HRL.out])
    have HN := Lib.hid (show q = rootN l by unfold rootN; rw [HRL.out, Hn.out, Hq.out])
    have hcut := run_take_at l (l.take p) p (p : Int) rfl (by rw [Hn.out]; exact hle) rfl
    clear hL
    subst hr0
    go_enter Tryd.func20, Tryd.ntmps20
    go_wp2_with (go_at_call 27; refine (period_any l _ (by rw [Hn.out]; exact hl)).mono ?_; rintro e W1 ⟨rfl, hb⟩; (rw [Hp.out]))
    go_quiet (fail)
    go_wp2
    exact bodyPost_ret (v := .tuple #[.string ⟨(l.take p).toArray⟩, .int .i64 (q : Int)]) (by simp [results, Tryd.results20, go_sem]) rfl ⟨by rw [HC.out, HN.out], ⟨hb.os, hb.tape, hb.output, hb.size, hb.block⟩⟩
  · have HRL := Lib.hid (show rlen l = n by rw [Hr.out, HR.out, if_neg hr0])
    have HC := Lib.hid (show l = rootL l by unfold rootL; rw [HRL.out, ← Hn.out, List.take_length])
    have HN := Lib.hid (show 1 = rootN l by unfold rootN; rw [HRL.out, Hn.out, Nat.div_self hpos])
    clear hL
    go_enter Tryd.func20, Tryd.ntmps20
    go_wp2_with (go_at_call 27; refine (period_any l _ (by rw [Hn.out]; exact hl)).mono ?_; rintro e W1 ⟨rfl, hb⟩; (rw [Hp.out]))
    exact bodyPost_ret (v := .tuple #[.string ⟨l.toArray⟩, .int .i64 1]) (by simp [results, Tryd.results20, go_sem]) rfl ⟨by rw [← HC.out, ← HN.out]; rfl, hb⟩
end Go.Proofs.YtigdjlhihhakmaaDoor
