/- What natural.value returns at the one digit 7: the integer 7, which is grooveref01.Of(7). No condition but that the digit can be read. What natural.plus returns where both numbers have at most one digit, and so has their sum. What slices.Repeat of one integer that is -1 returns. Condition: at most 64. -/
import Derived.Test.YthhbbiafffpknaaDoorQ15
import Derived.Test.YthhbbiafffpknaaDoorQ16
import Derived.Test.YthhbbiafffpknaaDoorQ02
import Derived.RangeFuncBox
import Derived.Laws.Externs
import Derived.Test.YthhbbiafffpknaaDoorQ11

namespace Go.Proofs.YthhbbiafffpknaaDoor
open Go.RowKit Go.Shelf
attribute [local go_sem] Oper.semAt_some
set_option linter.unusedSimpArgs false
set_option linter.unusedVariables false

def KtD (n₀ B : Nat) (W W1 : World) : Prop := Below n₀ W W1 ∧ W1.heap[B]? = W.heap[B]?
theorem KtD.trans {n₀ B : Nat} {X Y Z : World} (h : KtD n₀ B X Y) (k : KtD n₀ B Y Z) : KtD n₀ B X Z := ⟨h.1.trans k.1, k.2.trans h.2⟩
theorem KtD.of_below {n₀ B : Nat} {W W1 : World} (h : Below W.heap.size W W1) (h0 : n₀ ≤ W.heap.size) (h1 : B < W.heap.size) : KtD n₀ B W W1 := ⟨h.mono h0, h.block _ h1⟩
theorem KtD.turn {n₀ B : Nat} {w : World} (hn : n₀ ≤ w.heap.size) (hB : B < w.heap.size) (W : World) (l : Nat) (o o' : Obj) (hl : w.heap.size ≤ l) (h : W.heap[l]? = some o) (h1 : o.isCells = false) (h2 : o.isWalk = false) : KtD n₀ B W (W.putObj l o') :=
  ⟨⟨rfl, rfl, rfl, by simp, fun k hk => World.putObj_heap_other (by omega)⟩, World.putObj_heap_other (by omega)⟩
theorem back_any (a : Option Addr) (k c : Nat) (w : World) :
    Calls Tryd.prog 51 #[.slice a k c] w fun e w' => e = .returned (.func (.func 61) #[] #[.pointer (some ⟨w.heap.size, 0, none⟩)]) ∧ w' = w.alloc (.cells #[.slice a k c] 62) := by
  go_enter Tryd.func51, Tryd.ntmps51
  go_wp2
  go_ret
  exact ⟨rfl, rfl⟩
set_option maxRecDepth 100000 in
set_option maxHeartbeats 3200000 in
theorem back1_in (n l B q o c d : Nat) (w0 : World) (J Jx : List Nat → World → Prop) (hn : 1 ≤ n) (W : World) (hJ : AbidesFrom W.heap.size J)
    (hY : ∀ (pre : List Nat) (x : Nat) (W1 : World), J pre W1 → pre.length < 1 → YieldAt Fence.wide (n - 1) Tryd.prog l #[.int .i64 0, u64v x] W1 fun e W' =>
      (e = .returned (.bool true) ∧ J (pre ++ [x]) W' ∧ KtD w0.heap.size B W1 W') ∨ (e = .returned (.bool false) ∧ Jx (pre ++ [x]) W'))
    (hcell : w0.cell? ⟨q, o, none⟩ = some (u64v d)) (hW0 : Below w0.heap.size w0 W) (hBn : B < W.heap.size) (hg : W.cell? ⟨B, 0, none⟩ = some (.slice (some ⟨q, o, none⟩) 1 c)) (h0 : J [] W) :
    CallsIn Fence.wide n Tryd.prog 61 #[.func (.yield l) #[] #[], .pointer (some ⟨B, 0, none⟩)] W fun e W' => (∃ u, e = .returned u) ∧
      ((∃ ys : List Nat, ys = [d] ∧ J ys W') ∨ (∃ pre, True ∧ Jx pre W')) := by
  have hmx : Tryd.prog.follows .mixedOrders = true := by kernel_rfl
  have HY := Lib.hid hY
  have HG := Lib.hid hg
  have HW0 := Lib.hid hW0
  have HC := Lib.hid hcell
  have g1 := hg
  clear hY hJ hg hW0 hcell
  refine callsIn_of_wp Tryd.func61 rfl trivial ?_ rfl
  simp only [Tryd.ntmps61, List.size_toArray, List.length_cons, List.length_nil, Nat.reduceAdd, Nat.reduceSub, Array.replicate_succ, Array.replicate_zero, List.push_toArray, List.append_toArray, List.nil_append, List.cons_append]
  gi_wp2
  gi_loopw [3] (fun s3 wr => (s3 = .int .i64 0 ∧ J [] wr ∧ wr = W) ∨ (s3 = .int .i64 (-1) ∧ J [d] wr)) (fun s3 _ => match s3 with | .int _ z => (z + 1).toNat | _ => 0)
  case atStart => exact .inl ⟨rfl, h0, rfl⟩
  case round =>
    clear h0
    rcases hrel with ⟨rfl, hJ0, rfl⟩ | ⟨rfl, hJ1⟩
    · have c1 := cell_keep HC.out HW0.out
      obtain ⟨fn, tmps, assign, body, hy, hR⟩ := HY.out [] d wr hJ0 (by simp)
      clear hJ0
      gi_wp2
      refine hR.mono ?_
      rintro e W3 (⟨rfl, hJ3, hk3⟩ | ⟨rfl, hJx3⟩)
      · gi_wp2
        go_roundw
        case rel => exact .inr ⟨rfl, hJ3⟩
        case measure => decide
      · gi_wp2
        refine bodyPost_ret (results_none rfl _ _ _) rfl ?_
        exact ⟨⟨_, rfl⟩, .inr ⟨_, trivial, hJx3⟩⟩
    · gi_wp2
      go_end0
      exact ⟨⟨_, rfl⟩, .inl ⟨[d], rfl, hJ1⟩⟩
theorem back_stops (n B q o c d : Nat) (w0 w : World) (hn : 1 ≤ n) (hcell : w0.cell? ⟨q, o, none⟩ = some (u64v d)) (hW0 : Below w0.heap.size w0 w) (hBn : B < w.heap.size) (hg : w.cell? ⟨B, 0, none⟩ = some (.slice (some ⟨q, o, none⟩) 1 c)) :
    SeqStopsK Fence.wide n Tryd.prog 61 #[.pointer (some ⟨B, 0, none⟩)] (fun x : Nat => #[.int .i64 0, u64v x]) (KtD w0.heap.size B) (fun ys => ys = [d]) (fun _ => True) 1 w :=
  fun l J Jx W hW hJ hJx hY h0 => by
    have hs2 := hW.size
    exact back1_in n l B q o c d w0 J Jx hn W hJ hY hcell (hW0.trans (hW.mono hW0.size)) (by omega) (cell_keep hg hW) h0
/-! ### The trimmed bytes -/
def byts (l : List Int) : List Value := l.map (Value.int .u8)
theorem byts_snoc (l : List Int) (x : Int) : byts (l ++ [x]) = byts l ++ [.int .u8 x] := by unfold byts; rw [List.map_append]; rfl
def BytRd (W : World) (a : Option Addr) (off n c : Nat) (l : List Int) : Prop := n = l.length ∧ ∃ g, a = some ⟨g, off, none⟩ ∧ ∀ i x, l[i]? = some x → W.cell? ⟨g, off + i, none⟩ = some (.int .u8 x)
def lead : List Int → Nat
  | [] => 0
  | x :: r => if x = 0 then lead r + 1 else 0
set_option maxRecDepth 100000 in
set_option maxHeartbeats 1600000 in
theorem trimByte_any (g : Nat) (c : Nat) (l : List Int) (w : World) (hl : l.length ≤ 1000) (hc : l.length ≤ c) (hcell : ∀ i x, l[i]? = some x → w.cell? ⟨g, i, none⟩ = some (.int .u8 x)) (k : Nat) (hk : k < l.length) (h0 : ∀ i x, i < k → l[i]? = some x → x = 0) (h1 : ∀ x, l[k]? = some x → x ≠ 0) :
    Calls Tryd.prog 62 #[.slice (some ⟨g, 0, none⟩) l.length c, .int .u8 0] w fun e w' => e = .returned (.slice (some ⟨g, k, none⟩) (l.length - k) (c - k)) ∧ w' = w := by
  have HC := Lib.hid hcell
  have H0 := Lib.hid h0
  have H1 := Lib.hid h1
  obtain ⟨n, hn⟩ : ∃ n, l.length = n := ⟨_, rfl⟩
  have HN := Lib.hid hn
  rw [hn] at hl hc hk ⊢
  clear hcell h0 h1 hn
  go_enter Tryd.func62, Tryd.ntmps62
  go_wp2_with fail
  go_loopg [0] k (fun q s0 wx => ∃ i : Nat, i + q = k ∧ s0 = .slice (some ⟨g, i, none⟩) (n - i) (c - i) ∧ wx = w)
  case atStart => exact ⟨0, by omega, by rfl, rfl⟩
  case round =>
    obtain ⟨i, hik, rfl, rfl⟩ := hrel
    obtain ⟨x, hx⟩ : ∃ x, l[i]? = some x := ⟨_, List.getElem?_eq_getElem (by have := HN.out; omega)⟩
    have cx := HC.out i x hx
    obtain ⟨m, hm⟩ : ∃ m, n - i = m + 1 := ⟨n - i - 1, by omega⟩
    obtain ⟨cc, hcc⟩ : ∃ cc, c - i = cc + 1 := ⟨c - i - 1, by omega⟩
    have d1 : decide ((0 : Int) < ((n - i : Nat) : Int)) = true := decide_eq_true (by omega)
    have d3 : (0 : Int) < ((n - i : Nat) : Int) := by omega
    rcases gk with _ | q
    · obtain rfl : i = k := by omega
      have hxn := H1.out x hx
      have d2 : (x == 0) = false := by rw [beq_eq_false_iff_ne]; exact hxn
      have d4 : (((n - i : Nat) : Int) == 0) = false := by rw [beq_eq_false_iff_ne]; omega
      have d5 : 0 < n - i := by omega
      clear hx hxn hm hcc
      go_wp2_with fail
      go_ret
      exact ⟨rfl, rfl⟩
    · obtain rfl := H0.out i x (by omega) hx
      have d5 : 0 < n - i := by omega
      have d6 : 1 ≤ n - i := by omega
      have d7 : (1 : Int) ≤ ((n - i : Nat) : Int) := by omega
      have d8 : n - i ≤ c - i := by omega
      clear hx hm hcc
      go_wp2_with fail
      go_roundg q
      case measure => omega
      case rel => exact ⟨i + 1, by omega, by simp; omega, rfl⟩
set_option maxRecDepth 100000 in
theorem trimLeft_any (g : Nat) (c : Nat) (l : List Int) (w : World) (hl : l.length ≤ 1000) (hc : l.length ≤ c) (hcell : ∀ i x, l[i]? = some x → w.cell? ⟨g, i, none⟩ = some (.int .u8 x)) (k : Nat) (hk : k < l.length) (h0 : ∀ i x, i < k → l[i]? = some x → x = 0) (h1 : ∀ x, l[k]? = some x → x ≠ 0) :
    Calls Tryd.prog 52 #[.slice (some ⟨g, 0, none⟩) l.length c, .string ⟨#[0]⟩] w fun e w' => e = .returned (.slice (some ⟨g, k, none⟩) (l.length - k) (c - k)) ∧ w' = w := by
  have HT := Lib.hid (trimByte_any g c l w hl hc hcell k hk h0 h1)
  obtain ⟨n, hn⟩ : ∃ n, l.length = n := ⟨_, rfl⟩
  rw [hn] at hl hc hk HT ⊢
  clear hcell h0 h1 hn
  have d1 : ((n : Int) == 0) = false := by rw [beq_eq_false_iff_ne]; omega
  go_enter Tryd.func52, Tryd.ntmps52
  go_wp2_with (go_at_call 62; (refine HT.out.mono ?_); rintro e W1 ⟨rfl, rfl⟩)
  go_ret
  exact ⟨rfl, rfl⟩
/-- The first j bytes of a digit. -/
def BL (d j : Nat) : List Int := (List.range j).map fun (i : Nat) => ((d : Int) / 2 ^ ((56 - 8 * (i : Int)).toNat)) % 256
theorem BL_succ (d j : Nat) : BL d (j + 1) = BL d j ++ [((d : Int) / 2 ^ ((56 - 8 * (j : Int)).toNat)) % 256] := by unfold BL; rw [List.range_succ, List.map_append]; rfl
theorem BL_len (d j : Nat) : (BL d j).length = j := by unfold BL; rw [List.length_map, List.length_range]
def BLs (pre : List Nat) : List Int := pre.flatMap fun d => BL d 8
theorem BLs_len : ∀ (pre : List Nat), (BLs pre).length = 8 * pre.length
  | [] => rfl
  | d :: r => by show (BL d 8 ++ BLs r).length = _; rw [List.length_append, BL_len, BLs_len r, List.length_cons]; omega
theorem BLs_snoc (pre : List Nat) (d : Nat) : BLs (pre ++ [d]) = BLs pre ++ BL d 8 := by unfold BLs; rw [List.flatMap_append]; simp
theorem BLs_one (x : Nat) : BLs ([] ++ [x]) = BL x 8 := by unfold BLs; simp
theorem BLs_seven : BLs [7] = [0, 0, 0, 0, 0, 0, 0, 7] := by decide
theorem Tryd.infoU8 : (Tryd.prog.info? 5).map (fun i => (i.zero, i.size, i.bytes)) = some (some (.int .u8 0), 1, 1) := by kernel_rfl
theorem wrap_u8v (z : Int) : IntKind.u8.wrap z = z % 256 := by simp [IntKind.wrap, IntKind.signed, IntKind.bits]
/-- The result's variable. -/
def RB (X : World) (p : Nat) : Prop := X.heap[p]? = some (.cells #[.bool false, .string ⟨#[]⟩] 40 (0, 0))
structure VI (w : World) (k : Nat) (l : List Int) (X : World) : Prop where
  row : ∃ u, Boxed X (w.heap.size + 1) 89 u ∧ X.ownsRow w.heap.size 5 1 u k (byts l)
  res : RB X w.heap.size
  bl : Below w.heap.size w X
  sz : w.heap.size + 3 ≤ X.heap.size
  bx : ∃ v, Boxed X (w.heap.size + 1 + 1) 62 v
theorem VI.own {w X Y : World} {k : Nat} {l : List Int} {row : Option Nat} (h : VI w k l X) (hg : X.grownBy Y row) (hr : ∀ r, row = some r → w.heap.size ≤ r ∧ ∃ o, X.heap[r]? = some o ∧ o.isCells = false) : VI w k l Y := by
  obtain ⟨u, h1, h2⟩ := h.row
  have hne : ∀ {p : Nat} {c : Array Value} {t : TypeId} {fr : Nat × Nat}, X.heap[p]? = some (.cells c t fr) → some p ≠ row := fun {p c t fr} hp e => by
    obtain ⟨_, o, h3, h4⟩ := hr p e.symm
    rw [hp] at h3
    injection h3 with h3
    subst h3
    cases h4
  refine ⟨⟨u, h1.kept hg (hne h1), h2.kept hg ?_⟩, (hg.block _ (Array.getElem?_eq_some_iff.1 h.res).1 (hne h.res)).trans h.res, h.bl.grown hg h.bl.size (fun r e => (hr r e).1), Nat.le_trans h.sz hg.size, (let ⟨vb, hb⟩ := h.bx; ⟨vb, hb.kept hg (hne hb)⟩)⟩
  cases hu : u.ownBlock with
  | none => exact .inl rfl
  | some g =>
    obtain ⟨c, fr, h5⟩ := row_cells h2 hu
    exact .inr (hne h5)
theorem app_keep {wr W4 : World} {A e s k p : Nat} {v : Value} {xs : List Value} {o : Obj} {c : Array Value} {t : TypeId} {fr : Nat × Nat} (hp : wr.heap[p]? = some (.cells c t fr)) (hr : wr.ownsRow A e s v k xs) (hte : t ≠ e) (hg : (wr.alloc o).grownBy W4 v.ownBlock) : W4.heap[p]? = wr.heap[p]? := by
  have hl : p < wr.heap.size := (Array.getElem?_eq_some_iff.1 hp).1
  refine (hg.block p (by rw [World.size_alloc]; omega) (fun h => ?_)).trans (Below.heap_alloc _ _ _ hl)
  obtain ⟨c2, fr2, h7⟩ := row_cells hr h.symm
  rw [hp] at h7
  injection h7 with h7
  injection h7 with _ h7 _
  exact hte h7
def RS7 (p : Nat) (u : Value) (W : World) : Prop := W.cell? ⟨p, 0, none⟩ = some u
theorem conv_seven (W : World) (g cap : Nat) (h : W.cell? ⟨g, 7, none⟩ = some (.int .u8 7)) : (convert 89 9 (.slice (some ⟨g, 7, none⟩) 1 cap)).run Tryd.prog W = .ok (.string ⟨#[7]⟩) W := by
  have h2 := run_convert_bytes_back (P := Tryd.prog) W 89 9 5 ⟨g, 7, none⟩ cap [7] Tryd.underlying89 Tryd.underlying5 Tryd.underlying9 (fun j hj => by
    have : j < 1 := hj
    obtain rfl : j = 0 := by omega
    exact h)
  exact h2
set_option maxRecDepth 100000 in
set_option maxHeartbeats 6400000 in
theorem value7_any (q o c : Nat) (w : World) (hcell : w.cell? ⟨q, o, none⟩ = some (u64v 7)) :
    Calls Tryd.prog 30 #[.slice (some ⟨q, o, none⟩) 1 c] w fun e w' => e = .returned (.agg #[.bool false, .string ⟨#[7]⟩]) ∧ Below w.heap.size w w' := by
  obtain ⟨i0, hi, hz0, hz1, hz2⟩ := info_parts Tryd.infoU8
  have hmx : Tryd.prog.follows .mixedOrders = true := by kernel_rfl
  have HBK := Lib.hid (fun W => back_any (some ⟨q, o, none⟩) 1 c W)
  have HC := Lib.hid hcell
  clear hcell
  obtain ⟨d, hd⟩ : ∃ d, d = 7 := ⟨_, rfl⟩
  rw [← hd] at HC
  refine (callsIn_wide (n := 8)).1 ?_
  refine callsIn_of_wp_marks Tryd.func30 rfl trivial ?_ rfl
  simp only [Tryd.ntmps30, List.size_toArray, List.length_cons, List.length_nil, Nat.reduceAdd, Nat.reduceSub, Array.replicate_succ, Array.replicate_zero, List.push_toArray, List.append_toArray, List.nil_append, List.cons_append]
  gi_wp2_with (refine ⟨trivial, ?_⟩; gi_at_call 51; (with_reducible refine (callsIn_wide.2 (HBK.out _)).mono ?_); rintro e W5 ⟨rfl, hW5⟩)
  subst hW5
  obtain ⟨W5, hW5⟩ : ∃ W5, (((w.alloc (.cells #[.bool false, .string ⟨#[]⟩] 40)).alloc (.cells #[.slice none 0 0] 89)).alloc (.cells #[.slice (some ⟨q, o, none⟩) 1 c] 62)) = W5 := ⟨_, rfl⟩
  have z5 : W5.heap.size = w.heap.size + 3 := by rw [← hW5, World.size_alloc, World.size_alloc, World.size_alloc]
  have V5 := Lib.hid (show VI w 0 [] W5 by
    rw [← hW5]
    have y1 := Boxed.new (w.alloc (.cells #[.bool false, .string ⟨#[]⟩] 40)) 89 (.slice none 0 0)
    rw [World.size_alloc] at y1
    refine ⟨⟨_, y1.alloc _, World.ownsRow_nil _ _ _ _⟩, ?_, below_more (below_more (below1 w _) (Nat.le_refl _) (below1 _ _)) (Nat.le_refl _) (below1 _ _), by rw [World.size_alloc, World.size_alloc, World.size_alloc]; omega, _, by have y2 := Boxed.new ((w.alloc (.cells #[.bool false, .string ⟨#[]⟩] 40)).alloc (.cells #[.slice none 0 0] 89)) 62 (.slice (some ⟨q, o, none⟩) 1 c); rw [World.size_alloc, World.size_alloc] at y2; exact y2⟩
    unfold RB
    rw [Below.heap_alloc _ _ _ (by rw [World.size_alloc, World.size_alloc]; omega), Below.heap_alloc _ _ _ (by rw [World.size_alloc]; omega)]
    exact heap_alloc_new w _)
  have C5 := Lib.hid (show W5.cell? ⟨w.heap.size + 1 + 1, 0, none⟩ = some (.slice (some ⟨q, o, none⟩) 1 c) by
    rw [← hW5]
    have y1 := (Boxed.new ((w.alloc (.cells #[.bool false, .string ⟨#[]⟩] 40)).alloc (.cells #[.slice none 0 0] 89)) 62 (.slice (some ⟨q, o, none⟩) 1 c)).cell
    rw [World.size_alloc, World.size_alloc] at y1
    exact y1)
  rw [hW5]
  clear hW5
  refine wpIn_rangeFunc_ownH rfl (by omega) (gf := 61) (lb := #[.pointer (some ⟨w.heap.size + 1 + 1, 0, none⟩)]) rfl trivial (enters_of Tryd.func61 (by kernel_rfl) rfl)
    (back_stops _ (w.heap.size + 1 + 1) q o c d w W5 (by omega) HC.out V5.out.bl (by omega) C5.out) (fun h h' => h.trans h') (KtD.turn (by omega) (by omega)) (Below.refl _ _) (fun _ => rfl)
    (fun pre X => VI w (BLs pre).length (BLs pre) X)
    (fun _ _ _ => False)
    (fun pre X Y row hs hg hr => hs.own hg (fun r e => ⟨by have := (hr r e).1; omega, (hr r e).2⟩))
    (fun _ _ _ _ _ hs _ _ => hs)
    V5.out
    (fun x a' X => a' = { tmps := #[.slice (some ⟨q, o, none⟩) 1 c, undef, .pointer (some ⟨w.heap.size, 0, none⟩), .pointer (some ⟨w.heap.size + 1, 0, none⟩), undef, u64v x, undef, .slice (some ⟨q, o, none⟩) 1 c, .func (.func 61) #[] #[.pointer (some ⟨w.heap.size + 1 + 1, 0, none⟩)], .int .i64 0, u64v x, undef, undef, undef, undef, undef, undef, undef, undef, undef, undef, undef, undef, undef, undef, undef], defers := [] })
    (fun x a' _ X Y row hs hg hr => hs)
    ?assign ?body ?done ?stop
  case assign =>
    rintro l pre x X K hX hK'
    have HKK := Lib.hid hK'
    have HX := Lib.hid hX
    have hsz := hX.sz
    clear hK' hX
    gi_wp2
    exact HKK.out _ _ ((KeepsOthers.refl _).from _) ⟨Below.refl _ _, rfl⟩ HX.out rfl
  case body =>
    rintro l pre x a' X hl ⟨r, hr⟩ hX rfl hlt
    have HX := Lib.hid hX
    have hpre : pre = [] := List.length_eq_zero_iff.1 (by omega)
    subst hpre
    have hsz := HX.out.sz
    have V0 := Lib.hid (show VI w 0 (BL x 0) X from HX.out)
    clear hX hr HX V5 C5
    gi_wp2
    obtain ⟨Xo, hXo⟩ : ∃ Xo, Xo = X := ⟨_, rfl⟩
    have K0 := Lib.hid (show KeepsOthers Xo X by rw [hXo]; exact KeepsOthers.refl _)
    have T0 := Lib.hid (show KtD w.heap.size (w.heap.size + 1 + 1) Xo X by rw [hXo]; exact ⟨Below.refl _ _, rfl⟩)
    have hso : w.heap.size + 3 ≤ Xo.heap.size := by rw [hXo]; exact hsz
    rw [← hXo]
    clear hsz
    rw [hXo]
    clear hl
    gi_loopw [6] (fun s6 wr => ∃ j : Nat, s6 = .int .i64 (56 - 8 * (j : Int)) ∧ j ≤ 8 ∧ Hid (VI w j (BL x j) wr) ∧ Hid (KeepsOthers Xo wr) ∧ Hid (KtD w.heap.size (w.heap.size + 1 + 1) Xo wr)) (fun s6 _ => match s6 with | .int _ z => (z + 8).toNat | _ => 0)
    case atStart => exact ⟨0, rfl, by omega, V0, K0, T0⟩
    case round =>
      clear V0 K0 T0
      obtain ⟨j, rfl, hj, V, K, T⟩ := hrel
      rcases Nat.lt_or_ge j 8 with hj8 | hj8
      · obtain ⟨sh, hsh⟩ : ∃ sh : Nat, (56 - 8 * (j : Int)) = (sh : Int) := ⟨(56 - 8 * (j : Int)).toNat, by omega⟩
        rw [hsh]
        have hsb : sh ≤ 56 := by omega
        have d1 : decide ((0 : Int) ≤ (sh : Int)) = true := decide_eq_true (by omega)
        have d0 : (0 : Int) ≤ (sh : Int) := by omega
        obtain ⟨u, hu1, hu2⟩ := V.out.row
        obtain ⟨a9, c9, rfl⟩ := own_slice hu2
        have HSH := Lib.hid hsh
        have hsz := V.out.sz
        have HU := Lib.hid hu1
        have hR0 : RS7 (w.heap.size + 1) (.slice a9 j c9) wr.drew := hu1.cell
        have hRA : ∀ ob, RS7 (w.heap.size + 1) (.slice a9 j c9) (wr.alloc ob).drew := fun ob => cell_keep hu1.cell (below1 wr ob).drew
        clear hu1 hsh
        gi_wp2
        refine regionT_in_round (T := T2 7 7 (RS7 (w.heap.size + 1) (.slice a9 j c9)) (RS7 (w.heap.size + 1) (.slice a9 j c9))) (by kernel_rfl) (by kernel_rfl) (by rintro ⟨_, _, h⟩; exact h) ?_
        have hR := hR0
        refine take1 (i := 0) (v := ?_) rfl (by kernel_rfl) (by kernel_rfl) (by kernel_rfl) (by kernel_rfl) (by kernel_rfl) (by decide) (by decide) (fun _ _ _ h => h) (Or.inl ⟨by rfl, ?_⟩) hR hR ?_
        rotate_left
        · intro w hSw
          (try unfold RS7 at hSw)
          go_simp
          all_goals with_reducible rfl
        (try simp only [Act.put, List.setIfInBounds_toArray, List.set_cons_zero, List.set_cons_succ])
        refine take1 (i := 1) (v := ?_) rfl (by kernel_rfl) (by kernel_rfl) (by kernel_rfl) (by kernel_rfl) (by kernel_rfl) (by decide) (by decide) (fun _ _ _ h => h) (Or.inl ⟨by rfl, ?_⟩) hR hR ?_
        rotate_left
        · intro w hSw
          (try unfold RS7 at hSw)
          go_simp
          all_goals with_reducible rfl
        (try simp only [Act.put, List.setIfInBounds_toArray, List.set_cons_zero, List.set_cons_succ])
        refine take1 (i := 2) (v := ?_) rfl (by kernel_rfl) (by kernel_rfl) (by kernel_rfl) (by kernel_rfl) (by kernel_rfl) (by decide) (by decide) (fun _ _ _ h => h) (Or.inl ⟨by rfl, ?_⟩) hR hR ?_
        rotate_left
        · intro w hSw
          (try unfold RS7 at hSw)
          go_simp
          all_goals with_reducible rfl
        (try simp only [Act.put, List.setIfInBounds_toArray, List.set_cons_zero, List.set_cons_succ])
        refine take1 (i := 3) (v := ?_) rfl (by kernel_rfl) (by kernel_rfl) (by kernel_rfl) (by kernel_rfl) (by kernel_rfl) (by decide) (by decide) (fun _ _ _ h => h) (Or.inl ⟨by rfl, ?_⟩) hR hR ?_
        rotate_left
        · intro w hSw
          (try unfold RS7 at hSw)
          go_simp
          all_goals with_reducible rfl
        (try simp only [Act.put, List.setIfInBounds_toArray, List.set_cons_zero, List.set_cons_succ])
        refine take1 (i := 4) (v := ?_) rfl (by kernel_rfl) (by kernel_rfl) (by kernel_rfl) (by kernel_rfl) (by kernel_rfl) (by decide) (by decide) (fun _ _ _ h => h) (Or.inl ⟨by rfl, ?_⟩) hR hR ?_
        rotate_left
        · intro w hSw
          (try unfold RS7 at hSw)
          go_simp
          all_goals with_reducible rfl
        (try simp only [Act.put, List.setIfInBounds_toArray, List.set_cons_zero, List.set_cons_succ])
        refine stepT (i := 5) (by kernel_rfl) rfl (fun K hK => ?_)
        go_simp
        refine hK.out _ _ ⟨fun _ => (hRA (.cells #[.int .u8 (IntKind.u8.wrap ((x : Int) / 2 ^ sh))] 5)), fun _ => (hRA (.cells #[.int .u8 (IntKind.u8.wrap ((x : Int) / 2 ^ sh))] 5))⟩ ?_
        clear hK K hR
        have hR := (hRA (.cells #[.int .u8 (IntKind.u8.wrap ((x : Int) / 2 ^ sh))] 5))
        (try simp only [Act.put, List.setIfInBounds_toArray, List.set_cons_zero, List.set_cons_succ])
        refine stepT (i := 6) (by kernel_rfl) rfl (fun K hK => ?_)
        refine step_append_lies _ (by rfl) (.tmp 15) (.tmp 20) 89 (by rfl) w.heap.size 5 i0 (.int .u8 0) 1 1 Tryd.underlying89 hi hz0 hz1 hz2 rfl (by decide) (.slice a9 j c9) j (byts (BL x j)) (by rfl) (hu2.alloc _) ⟨wr.heap.size, 0, none⟩ 1 1 [.int .u8 (IntKind.u8.wrap ((x : Int) / 2 ^ sh))] (by rfl) (by rfl) (cell_one_new _ _ _) (by intro u hu; simp at hu; subst hu; rfl) (by decide) (by unfold maxLen; omega) (by omega) (by show w.heap.size ≤ (wr.alloc _).heap.size; rw [World.size_alloc]; omega) _ rfl ?_
        intro g9 d9 W4 r1 r2 r3 r4
        have r2' : (wr.alloc (.cells #[.int .u8 (IntKind.u8.wrap ((x : Int) / 2 ^ sh))] 5)).grownBy W4 (Value.slice a9 j c9).ownBlock := ⟨r2.os, r2.tape, r2.output, r2.size, r2.block⟩
        obtain ⟨k1, k2, k3, k4, k5⟩ := Boxed.appended (n₀ := w.heap.size) (B := w.heap.size + 1) (t := 89) HU.out (by decide) hu2 (by omega) (by omega) r1 r2'
        have f4 := k1.frozen
        have hR4 : RS7 (w.heap.size + 1) (.slice a9 j c9) W4 := k1.cell
        have c4 := k1.cell
        refine hK.out _ _ ⟨fun _ => hR4, fun _ => hR4⟩ ?_
        clear hK K hR
        have hR := hR4
        (try simp only [Act.put, List.setIfInBounds_toArray, List.set_cons_zero, List.set_cons_succ])
        refine stepT (i := 7) (by kernel_rfl) rfl (fun K hK => ?_)
        go_simp
        refine hK.out _ _ ⟨fun h => absurd h (by decide), fun h => absurd h (by decide)⟩ ?_
        clear hK K
        (try simp only [Act.put, List.setIfInBounds_toArray, List.set_cons_zero, List.set_cons_succ])
        refine doneT (by kernel_rfl) ?_ _
        gi_wp2
        go_roundw
        case rel =>
          have hk1 := app_keep V.out.res hu2 (by decide) r2'
          obtain ⟨vb, hvb⟩ := V.out.bx
          have hk2 := app_keep hvb hu2 (by decide) r2'
          have hk3 := (Below.heap_setCell W4 ⟨w.heap.size + 1, 0, none⟩ (.slice (some ⟨g9, 0, none⟩) (j + 1) d9) w.heap.size (by show w.heap.size ≠ w.heap.size + 1; omega)).trans hk1
          have hk4 := (Below.heap_setCell W4 ⟨w.heap.size + 1, 0, none⟩ (.slice (some ⟨g9, 0, none⟩) (j + 1) d9) (w.heap.size + 1 + 1) (by show w.heap.size + 1 + 1 ≠ w.heap.size + 1; omega)).trans hk2
          refine ⟨j + 1, by rw [show (56 : Int) - 8 * ((j + 1 : Nat) : Int) = (sh : Int) - 8 by have := HSH.out; omega], by omega, Lib.hid ⟨⟨_, k2, ?_⟩, hk3.trans V.out.res, V.out.bl.trans k5, by have := k5.size; omega, vb, hk4.trans hvb⟩, Lib.hid (K.out.trans k4), Lib.hid (T.out.trans ⟨k5, hk4⟩)⟩
          rw [BL_succ, byts_snoc, show (56 - 8 * (j : Int)).toNat = sh by have := HSH.out; omega, ← wrap_u8v]
          exact k3
        case measure => simp; omega
      · obtain rfl : j = 8 := by omega
        have HB1 := Lib.hid (show VI w (BLs ([] ++ [x])).length (BLs ([] ++ [x])) wr by rw [BLs_one, BL_len]; exact V.out)
        gi_wp2
        exact ⟨by rw [← hXo]; exact K.out.from _, by rw [← hXo]; exact T.out, HB1.out⟩
  case done =>
    rintro D xs X hD rfl hX hDX
    rw [hd, BLs_seven] at hX
    obtain ⟨u, hu1, hu2⟩ := hX.row
    obtain ⟨g, c9, rfl, hcc⟩ : ∃ g c9, u = .slice (some ⟨g, 0, none⟩) 8 c9 ∧ 8 ≤ c9 := by
      rcases hu2.2 with ⟨_, h⟩ | ⟨g, cap, cur, h1, _, _, h4, _⟩
      · cases h
      · exact ⟨g, cap, h1, h4⟩
    have HCE : ∀ i x, ([0, 0, 0, 0, 0, 0, 0, 7] : List Int)[i]? = some x → X.cell? ⟨g, i, none⟩ = some (.int .u8 x) := fun i x hx => by
      have hi : i < 8 := (List.getElem?_eq_some_iff.1 hx).1
      rw [World.ownsRow.cellAt hu2 i (by simpa using hi)]
      unfold byts
      rw [List.getElem?_map, hx]; rfl
    have HTL := Lib.hid (trimLeft_any g c9 [0, 0, 0, 0, 0, 0, 0, 7] X (by decide) (by simpa using hcc) HCE 7 (by decide) (fun i x hi hx => by
      have hi2 : i = 0 ∨ i = 1 ∨ i = 2 ∨ i = 3 ∨ i = 4 ∨ i = 5 ∨ i = 6 := by omega
      rcases hi2 with rfl | rfl | rfl | rfl | rfl | rfl | rfl <;> (simp at hx; omega)) (fun x hx => by simp at hx; omega))
    have hcv := conv_seven X g (c9 - 7) (HCE 7 7 rfl)
    have x3 := hu1.cell
    have r1 : X.cell? ⟨w.heap.size, 0, none⟩ = some (.bool false) := by simp [World.cell?, show X.heap[w.heap.size]? = _ from hX.res]
    have r2 : X.cell? ⟨w.heap.size, 1, none⟩ = some (.string ⟨#[]⟩) := by simp [World.cell?, show X.heap[w.heap.size]? = _ from hX.res]
    have r3 : X.frozen? ⟨w.heap.size, 0, none⟩ = false := by simp [World.frozen?, show X.heap[w.heap.size]? = _ from hX.res]
    have r4 : X.frozen? ⟨w.heap.size, 1, none⟩ = false := by simp [World.frozen?, show X.heap[w.heap.size]? = _ from hX.res]
    have HX := Lib.hid hX
    have IX := Lib.hid hDX
    clear hX hDX HCE hu1 hu2 hcc
    gi_wp2_with (refine ⟨trivial, ?_⟩; gi_at_call 52; (refine (callsIn_wide.2 HTL.out).mono ?_); rintro e W6 ⟨rfl, hW6⟩; (subst hW6))
    have IX2 := ((KeepsOthers.setCell W6 ⟨w.heap.size, 0, none⟩ (.bool false)).trans (KeepsOthers.setCell _ ⟨w.heap.size, 1, none⟩ (.string ⟨#[7]⟩))).same D _ IX.out rfl
    refine ⟨by simp, .inl ⟨_, _, rfl, run_takeDeferred IX2, ?_⟩⟩
    have e1 : ∀ (k : Nat) (y : Value), (((W6.setCell ⟨w.heap.size, 0, none⟩ (.bool false)).setCell ⟨w.heap.size, 1, none⟩ (.string ⟨#[7]⟩)).cell? ⟨w.heap.size, k, none⟩ = some y) → (((W6.setCell ⟨w.heap.size, 0, none⟩ (.bool false)).setCell ⟨w.heap.size, 1, none⟩ (.string ⟨#[7]⟩)).putObj D (.deferred none)).cell? ⟨w.heap.size, k, none⟩ = some y := fun k y h => by
      have hne : w.heap.size ≠ D := fun e => by
        have h5 := HX.out.res
        unfold RB at h5
        rw [e, IX.out] at h5
        simp at h5
      rw [World.cell?_of_block (w := (W6.setCell ⟨w.heap.size, 0, none⟩ (.bool false)).setCell ⟨w.heap.size, 1, none⟩ (.string ⟨#[7]⟩)) (a := ⟨w.heap.size, k, none⟩) (World.putObj_heap_other hne)]
      exact h
    have q1 := e1 0 (.bool false) (by simp [go_sem, r1, r2])
    have q2 := e1 1 (.string ⟨#[7]⟩) (by simp [go_sem, r1, r2])
    refine ⟨.agg #[.bool false, .string ⟨#[7]⟩], by simp [results, Tryd.results30, go_sem, q1, q2], rfl, ?_⟩
    have hD2 : w.heap.size ≤ D := by omega
    exact below_put9 ((HX.out.bl.setCell (p := ⟨w.heap.size, 0, none⟩) (Nat.le_refl _) _).setCell (p := ⟨w.heap.size, 1, none⟩) (Nat.le_refl _) _) D hD2 _
  case stop =>
    rintro D cc pre X _ _ h _
    exact h.elim

theorem conv_seven1 (W : World) (g : Nat) (h : W.cell? ⟨g, 0, none⟩ = some (.int .u8 7)) : (convert 89 9 (.slice (some ⟨g, 0, none⟩) 1 1)).run Tryd.prog W = .ok (.string ⟨#[7]⟩) W := by
  have h2 := run_convert_bytes_back (P := Tryd.prog) W 89 9 5 ⟨g, 0, none⟩ 1 [7] Tryd.underlying89 Tryd.underlying5 Tryd.underlying9 (fun j hj => by
    have : j < 1 := hj
    obtain rfl : j = 0 := by omega
    exact h)
  exact h2
set_option maxRecDepth 100000 in
theorem mag7_any (w : World) : Calls Tryd.prog 31 #[.int .i64 7] w fun e w' => e = .returned (.string ⟨#[7]⟩) ∧ Below w.heap.size w w' := by
  have hcv := conv_seven1 (w.alloc (.cells #[.int .u8 7] 5)) w.heap.size (by simp [go_sem])
  go_enter Tryd.func31, Tryd.ntmps31
  go_wp2_with fail
  go_ret
  exact ⟨rfl, below1 w _⟩
set_option maxRecDepth 100000 in
theorem of7_any (w : World) : Calls Tryd.prog 17 #[.int .i64 7] w fun e w' => e = .returned (.agg #[.bool false, .string ⟨#[7]⟩]) ∧ Below w.heap.size w w' := by
  have HM := Lib.hid (mag7_any (w.alloc (.cells #[.bool false, .string ⟨#[]⟩] 40)))
  have hr := heap_alloc_new w (.cells #[.bool false, .string ⟨#[]⟩] 40)
  have HR := Lib.hid hr
  clear hr
  go_enter Tryd.func17, Tryd.ntmps17
  go_wp2_with (go_at_call 31; (with_reducible refine HM.out.mono ?_); rintro e W6 ⟨rfl, b6⟩; (have h6 := (b6.block w.heap.size (by rw [World.size_alloc]; omega)).trans HR.out); (have r1 : W6.cell? ⟨w.heap.size, 0, none⟩ = some (.bool false) := by simp [World.cell?, h6]); (have r2 : W6.cell? ⟨w.heap.size, 1, none⟩ = some (.string ⟨#[]⟩) := by simp [World.cell?, h6]); (have r3 : W6.frozen? ⟨w.heap.size, 0, none⟩ = false := by simp [World.frozen?, h6]); (have r4 : W6.frozen? ⟨w.heap.size, 1, none⟩ = false := by simp [World.frozen?, h6]); (have HB6 := Lib.hid (below_more (below1 w (.cells #[.bool false, .string ⟨#[]⟩] 40)) (Nat.le_refl _) b6)); (clear b6 h6))
  refine bodyPost_ret (v := .agg #[.bool false, .string ⟨#[7]⟩]) (by simp [results, Tryd.results17, go_sem, r1, r2]) rfl ?_
  exact ⟨rfl, (HB6.out.setCell (p := ⟨w.heap.size, 0, none⟩) (Nat.le_refl _) _).setCell (p := ⟨w.heap.size, 1, none⟩) (Nat.le_refl _) _⟩
end Go.Proofs.YthhbbiafffpknaaDoor

namespace Go.Proofs.YthhbbiafffpknaaDoor
open Go.RowKit
set_option linter.unusedSimpArgs false
set_option linter.unusedVariables false

theorem add64_eq (x y : Nat) (h : x + y < 18446744073709551616) (w : World) : (callFunc 60 #[.int .u64 (x : Int), .int .u64 (y : Int), .int .u64 0]).run Tryd.prog w = .ok (.value (.tuple #[.int .u64 ((x + y : Nat) : Int), .int .u64 0])) w := by
  rw [run_callFunc_extern Tryd.func60 (by kernel_rfl) (by kernel_rfl) (by kernel_rfl) (e := add64Entry) (by kernel_rfl)]
  rw [run_add64 (x : Int) (y : Int) 0 (by omega) (by omega) (by omega) (by omega)]
  simp only [Result.andThen]
  rw [show ((x : Int) + (y : Int) + 0) % 18446744073709551616 = ((x + y : Nat) : Int) by omega, show ((x : Int) + (y : Int) + 0) / 18446744073709551616 = 0 by omega]
theorem Tryd.infoU64 : (Tryd.prog.info? 47).map (fun i => (i.zero, i.size, i.bytes)) = some (some (.int .u64 0), 1, 8) := by kernel_rfl
/-- A digit's row. -/
def Dig (W : World) (A : Nat) (g : Nat) (c x : Nat) : Prop := W.ownsRow A 47 1 (.slice (some ⟨g, 0, none⟩) 1 c) 1 [u64v x]
theorem Dig.cell {W : World} {A g c x : Nat} (h : Dig W A g c x) : W.cell? ⟨g, 0, none⟩ = some (u64v x) := World.ownsRow.cellAt h 0 (by decide)
theorem Dig.frozen {W : World} {A g c x : Nat} (h : Dig W A g c x) : W.frozen? ⟨g, 0, none⟩ = false := by
  rcases h.2 with ⟨_, h⟩ | ⟨g2, cap, cur, h1, _, h3, _⟩
  · cases h
  · injection h1 with h1
    injection h1 with h1
    injection h1 with h1
    subst h1
    simp [World.frozen?, h3]
theorem Dig.set {W : World} {A g c x : Nat} (h : Dig W A g c x) (y : Nat) : Dig (W.setCell ⟨g, 0, none⟩ (u64v y)) A g c y := by
  refine ⟨rfl, ?_⟩
  rcases h.2 with ⟨_, h⟩ | ⟨g2, cap, cur, h1, h2, h3, h4, h5, h6, h7⟩
  · cases h
  · injection h1 with h1 _ h1c
    injection h1 with h1
    injection h1 with h1
    subst h1
    subst h1c
    refine .inr ⟨g, c, cur.setIfInBounds 0 (u64v y), rfl, h2, ?_, h4, h5, by simpa using h6, ?_⟩
    · obtain ⟨hlt, hk⟩ := Array.getElem?_eq_some_iff.1 h3
      unfold World.setCell
      simp [Array.getElem?_modify, Array.getElem?_eq_getElem hlt, hk]
    · have hs : 0 < cur.size := by rw [h6]; omega
      obtain ⟨l, hl⟩ : ∃ l, cur.toList = l := ⟨_, rfl⟩
      rw [Array.toList_setIfInBounds, hl]
      cases l with
      | nil => have : cur.toList.length = 0 := by rw [hl]; rfl
               simp at this; simp [this] at hs
      | cons a r => rfl
set_option maxRecDepth 100000 in
set_option maxHeartbeats 1600000 in
theorem plus_two (A g c q o c2 x y : Nat) (w : World) (hd : Dig w A g c x) (hc : w.cell? ⟨q, o, none⟩ = some (u64v y)) (hxy : x + y < 18446744073709551616) :
    Calls Tryd.prog 50 #[.slice (some ⟨g, 0, none⟩) 1 c, .slice (some ⟨q, o, none⟩) 1 c2] w fun e w' => e = .returned (.slice (some ⟨g, 0, none⟩) 1 c) ∧ w' = w.setCell ⟨g, 0, none⟩ (u64v (x + y)) := by
  have hA := add64_eq x y hxy
  have x1 := hd.cell
  have x2 := hd.frozen
  clear hd
  go_enter Tryd.func50, Tryd.ntmps50
  go_wp2
  refine wp_loop_rounds 1 ?_
  rw [rounds_succ]
  go_wp2
  refine wp_loop_rounds 2 ?_
  rw [rounds_succ]
  go_wp2
  rw [rounds_succ]
  go_wp2
  refine wp_loop_rounds 1 ?_
  rw [rounds_succ]
  go_wp2
  go_ret
  exact ⟨rfl, rfl⟩
set_option maxRecDepth 100000 in
set_option maxHeartbeats 1600000 in
theorem plus_new (q o c2 y : Nat) (w : World) (hc : w.cell? ⟨q, o, none⟩ = some (u64v y)) (hy : y < 18446744073709551616) :
    Calls Tryd.prog 50 #[.slice none 0 0, .slice (some ⟨q, o, none⟩) 1 c2] w fun e w' => ∃ g c, e = .returned (.slice (some ⟨g, 0, none⟩) 1 c) ∧ Dig w' w.heap.size g c y ∧ Below w.heap.size w w' := by
  obtain ⟨i0, hi, hz0, hz1, hz2⟩ := info_parts Tryd.infoU64
  have hA := add64_eq 0 y (by omega)
  rw [Nat.zero_add] at hA
  have hA0 : ∀ W, (callFunc 60 #[.int .u64 0, .int .u64 (y : Int), .int .u64 0]).run Tryd.prog W = .ok (.value (.tuple #[.int .u64 (y : Int), .int .u64 0])) W := hA
  clear hA
  have hnil : w.ownsRow w.heap.size 47 1 (.slice none 0 0) 0 [] := World.ownsRow_nil _ _ _ _
  have HCC := Lib.hid hc
  clear hc
  go_enter Tryd.func50, Tryd.ntmps50
  go_wp2
  refine wp_loop_rounds 2 ?_
  rw [rounds_succ]
  go_wp2_with (at_builtin; refine wpList_append_own_at _ rfl _ _ 62 rfl w.heap.size 47 i0 (.int .u64 0) 1 8 Tryd.underlying62 hi hz0 hz1 hz2 rfl (by decide) _ _ _ rfl (hnil.alloc _) ⟨w.heap.size, 0, none⟩ 1 1 [.int .u64 0] rfl rfl (cell_one_new _ _ _) (by intro u hu; simp at hu; subst hu; rfl) (by unfold maxLen; omega) (by omega) (by rw [World.size_alloc]; omega) ?_; intro v' w4 hown4 hgrow4 hnil4 hloc4; (obtain ⟨g4, cap4, rfl, -, -⟩ := hown4.form (Nat.succ_pos _)); (have HD := Lib.hid (show Dig w4 w.heap.size g4 cap4 0 from hown4)); (have B4 := Lib.hid (((Below.refl w.heap.size w).alloc (Nat.le_refl _) _).grown hgrow4 (by rw [World.size_alloc]; omega) (fun k e => by cases e))); (have x1 : w4.cell? ⟨g4, 0, none⟩ = some (.int .u64 0) := HD.out.cell); (have x2 := HD.out.frozen); (have hc := cell_keep HCC.out B4.out))
  rw [rounds_succ]
  go_wp2
  refine wp_loop_rounds 2 ?_
  rw [rounds_succ]
  go_wp2
  rw [rounds_succ]
  go_wp2
  refine wp_loop_rounds 1 ?_
  rw [rounds_succ]
  go_wp2
  go_ret
  exact ⟨g4, cap4, rfl, HD.out.set y, B4.out.setCell (by show w.heap.size ≤ g4; exact (World.ownsRow.lt HD.out g4 rfl).1) _⟩
set_option maxRecDepth 100000 in
theorem plus_none (a : Option Addr) (n c : Nat) (w : World) : Calls Tryd.prog 50 #[.slice a n c, .slice none 0 0] w fun e w' => e = .returned (.slice a n c) ∧ w' = w := by
  have d1 : ¬ ((n : Int) < 0) := by omega
  go_enter Tryd.func50, Tryd.ntmps50
  go_wp2
  refine wp_loop_rounds 1 ?_
  rw [rounds_succ]
  go_wp2
  refine wp_loop_rounds 1 ?_
  rw [rounds_succ]
  go_wp2
  refine wp_loop_rounds 1 ?_
  rw [rounds_succ]
  go_wp2
  go_ret
  exact ⟨rfl, rfl⟩
end Go.Proofs.YthhbbiafffpknaaDoor

namespace Go.Proofs.YthhbbiafffpknaaDoor
open Go.RowKit
set_option linter.unusedSimpArgs false
set_option linter.unusedVariables false

theorem rowIs_rep {t : TypeId} {g n : Nat} (v : Value) : ∀ (m o : Nat) (W : World) (F : Nat → Value), W.rowIs g t n F → (W.setCells g o (List.replicate m v)).rowIs g t n (fun i => if o ≤ i ∧ i < o + m then v else F i)
  | 0, o, W, F, h => World.rowIs.congr h (fun i _ => by rw [if_neg (by omega)])
  | m + 1, o, W, F, h => by
    rw [List.replicate_succ]
    refine World.rowIs.congr (rowIs_rep v m (o + 1) _ _ (World.rowIs.set h o v)) (fun i _ => ?_)
    by_cases h1 : i = o
    · subst h1
      rw [if_neg (by omega), if_pos rfl, if_pos (by omega)]
    · by_cases h2 : o + 1 ≤ i ∧ i < o + 1 + m
      · rw [if_pos h2, if_pos (by omega)]
      · rw [if_neg h2, if_neg h1, if_neg (by omega)]
structure CI (w : World) (R n k : Nat) (W : World) : Prop where
  b : Below w.heap.size w W
  r : IRow W R n (fun j => if j < k then -1 else 0)
theorem infoInts : (Tryd.prog.info? 3).map (·.size) = some 1 := by kernel_rfl
theorem sizeInt : ∀ w, (Go.sizeOf 3).run Tryd.prog w = .ok 1 w := fun w => by kernel_rfl
set_option maxRecDepth 100000 in
theorem copy_ints {w W : World} {R n k : Nat} (h : CI w R n k W) (hR : w.heap.size ≤ R) (hk : k ≤ n) (a : Addr) (sLen cap : Nat) (ty : TypeId) (m : Nat) (hm : m = Nat.min sLen (n - k)) (hc : ∀ j, j < m → W.cell? (a.add j) = some (.int .i64 (-1))) :
    ∃ W', (Builtin.copy_ #[25, 25] ty #[.slice (some ⟨R, k, none⟩) (n - k) (n - k), .slice (some a) sLen cap]).run Tryd.prog W = .ok (.int .i64 (m : Int)) W' ∧ CI w R n (k + m) W' := by
  have hm2 : m ≤ n - k := by rw [hm]; exact Nat.min_le_right _ _
  have hr := run_copy_cells (P := Tryd.prog) W 25 25 ty 3 R k (n - k) (n - k) a sLen cap (List.replicate m (.int .i64 (-1))) Tryd.underlying25 infoInts (by rw [List.length_replicate]; exact hm)
    (fun j u hj => by
      have hj2 : j < m := by have := (List.getElem?_eq_some_iff.1 hj).1; rwa [List.length_replicate] at this
      rw [List.getElem?_replicate, if_pos hj2] at hj
      injection hj with hj
      subst hj
      exact hc j hj2)
    (fun j hj => by rw [List.length_replicate] at hj; rw [h.r.cell (by omega)]; rfl) (fun j hj => by rw [List.length_replicate] at hj; exact h.r.frozen _)
    (fun u hu => by rw [List.eq_of_mem_replicate hu]; rfl)
  rw [List.length_replicate] at hr
  refine ⟨_, hr, ?_⟩
  refine ⟨Lib.below_setCells R hR _ _ h.b, World.rowIs.congr (rowIs_rep _ m k W _ h.r) (fun i _ => ?_)⟩
  by_cases h1 : k ≤ i ∧ i < k + m
  · rw [if_pos h1]
    dsimp only
    rw [if_pos (by omega)]
  · rw [if_neg h1]
    dsimp only
    by_cases h2 : i < k
    · rw [if_pos h2, if_pos (by omega)]
    · rw [if_neg h2, if_neg (by omega)]
theorem CI.drew {w W : World} {R n k : Nat} (h : CI w R n k W) : CI w R n k W.drew := ⟨h.b.drew, h.r⟩
end Go.Proofs.YthhbbiafffpknaaDoor
