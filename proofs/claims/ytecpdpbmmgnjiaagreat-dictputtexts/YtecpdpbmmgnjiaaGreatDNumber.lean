/-
  dict's number of whole numbers: the keys, sorted, and their codes put into the map.
-/
import Derived.Test.YtecpdpbmmgnjiaaGreatDLots
import Derived.Test.YtecpdpbmmgnjiaaGreatDSort
import Derived.Deep.RegionHeld3
namespace Go.Proofs.YtecpdpbmmgnjiaaGreat
open Go.ChangeShapes Go.WideShapes Go.ChangeAt Go.RowKit Cu

/-- append within a region that draws: its run is known. -/
theorem oper_app {a : Act} {w : World} {K : Act → World → Prop} {Q : Exit → Act → World → Prop} {d : Option Nat} {s x : Operand} {t ty : TypeId} {pos : String} {aft : Array Edge} {gd : Option (Nat × Bool)}
    {v u v' : Value} {w' : World} (hs : a.eval s = v) (hx : a.eval x = u)
    (hr : (Builtin.append_ #[t, t] ty #[v, u]).run Tryz.prog w = .ok v' w') (h : K (a.put d v') w') :
    Oper.wp Tryz.prog { dst := d, op := .call { callee := .builtin .append, args := #[s, x], argTypes := #[t, t] }, type := ty, pos := pos, after := aft, guard := gd } a w K Q := by
  unfold Oper.wp execOp
  simp only [resolve, invoke, builtin, Sem.run_bind, Sem.run_pure, Result.andThen_ok, List.map_toArray, List.map_cons, List.map_nil, hs, hx, hr]
  exact h
theorem sorted_unique : ∀ {l m : List Int}, l.Perm m → l.Pairwise (· ≤ ·) → m.Pairwise (· ≤ ·) → l = m
  | [], m, hp, _, _ => by rw [List.nil_perm] at hp; exact hp.symm
  | x :: l, [], hp, _, _ => by rw [List.perm_nil] at hp; exact hp
  | x :: l, y :: m, hp, h1, h2 => by
    rw [List.pairwise_cons] at h1 h2
    have hx : x ∈ y :: m := hp.mem_iff.1 List.mem_cons_self
    have hy : y ∈ x :: l := hp.mem_iff.2 List.mem_cons_self
    have e : x = y := by
      rcases List.mem_cons.1 hx with e | hx
      · exact e
      · rcases List.mem_cons.1 hy with e | hy
        · exact e.symm
        · have a1 := h2.1 x hx
          have a2 := h1.1 y hy
          omega
    subst e
    rw [sorted_unique (List.Perm.cons_inv hp) h1.2 h2.2]
theorem sortI_eq {l m : List Int} (h : l.Perm m) : sortI l = sortI m := sorted_unique ((sortI_perm l).trans (h.trans (sortI_perm m).symm)) (sortI_rise l) (sortI_rise m)
theorem perm_same {l m : List Int} (h1 : l.Nodup) (h2 : m.Nodup) (h : ∀ x, x ∈ l ↔ x ∈ m) : l.Perm m := (List.perm_ext_iff_of_nodup h1 h2).2 h
/-- The codes behind i rounds: each key of the first i has its number. -/
def codeTo (K : List Int) (i : Nat) : Int → Nat := fun x => if x ∈ K.take i then K.idxOf x else 0
theorem codeTo_zero (K : List Int) : codeTo K 0 = zeroF := by funext x; simp [codeTo, zeroF]
theorem codeTo_next {K : List Int} (hn : K.Nodup) {i : Nat} {x : Int} (hx : K[i]? = some x) : updF (codeTo K i) x i = codeTo K (i + 1) := by
  have hi := (List.getElem?_eq_some_iff.1 hx).1
  have hxe : K[i] = x := (List.getElem?_eq_some_iff.1 hx).2
  funext y
  unfold updF codeTo
  rw [List.take_add_one, hx]
  by_cases hy : y = x
  · subst hy
    rw [if_pos rfl, if_pos (by simp), ← hxe, hn.idxOf_getElem]
  · rw [if_neg hy]
    simp [hy]
theorem codeTo_all (K : List Int) : ∀ x ∈ K, codeTo K K.length x = K.idxOf x := fun x hx => by unfold codeTo; rw [List.take_length, if_pos hx]
theorem Lots.far {w w' : World} {ob mb g : Nat} {ks : List Int} {f : Int → Nat} (h : Lots w ob mb ks f) (hg : w.grownBy w' (some g)) (h1 : g ≠ ob) (h2 : g ≠ mb) : Lots w' ob mb ks f := by
  have hk : w'.heap[ob]? = w.heap[ob]? := hg.block ob h.lt (fun e => h1 (by injection e with e; exact e.symm))
  exact ⟨⟨(World.cell?_of_block hk).trans h.cells.1, (World.cell?_of_block hk).trans h.cells.2⟩, h.ne, Nat.lt_of_lt_of_le h.lt hg.size, h.map.kept (hg.block mb h.map.blt (fun e => h2 (by injection e with e; exact e.symm)))⟩
theorem same_kl (x y : Int) : (kl x).sameKey (kl y) = decide (x = y) := by simp [Lit.sameKey]
theorem make_keys (w : World) (n : Nat) (hn : n * 8 ≤ 140737488355328) : (Instr.makeSlice 30 (.int .i64 0) (.int .i64 (n : Int))).run Tryz.prog w = .ok (.slice (some ⟨w.heap.size, 0, none⟩) 0 n) (w.alloc (.cells (madeCells #[.int .i64 0] n) 2)) := by
  obtain ⟨i0, hi, hz0, hz1, hz2⟩ := info_parts infoI64
  have hmk := run_make (P := Tryz.prog) w 30 2 i0 (.int .i64 0) Tryz.underlying30 hi hz0 .i64 .i64 0 (n : Int) (by omega) (by omega) (by rw [hz2]; omega) (by omega)
  rw [hz1, show (n : Int).toNat * 1 = n by omega, show (n : Int).toNat = n by omega, show (0 : Int).toNat = 0 from rfl, show (Value.int .i64 0).cells = #[Value.int .i64 0] from rfl] at hmk
  exact hmk
theorem keys_made (w : World) (n : Nat) (hn : n ≤ maxLen) : OwnI (w.alloc (.cells (madeCells #[.int .i64 0] n) 2)) w.heap.size (.slice (some ⟨w.heap.size, 0, none⟩) 0 n) [] := by
  refine ⟨by simp [ivals], .inr ⟨w.heap.size, n, _, rfl, Nat.le_refl _, heap_alloc_new w _, Nat.zero_le _, hn, by rw [size_madeCells]; simp, by simp [ivals]⟩⟩
set_option maxRecDepth 20000 in
set_option maxHeartbeats 8000000 in
theorem numberD_any (ob mb : Nat) (ks : List Int) (w : World) (h : Lots w ob mb ks zeroF) (hl : ks.length ≤ 4294967296) :
    Calls Tryz.prog 22 #[.pointer (some ⟨ob, 0, none⟩)] w fun e w' => ∃ g c, e = .returned (.slice (some ⟨g, 0, none⟩) ks.length c) ∧ w'.ownsRow w.heap.size 2 1 (.slice (some ⟨g, 0, none⟩) ks.length c) (ivals (sortI ks)).length (ivals (sortI ks)) ∧ Lots w' ob mb ks (codeTo (sortI ks) ks.length) ∧ w.grownBy w' (some mb) := by
  have HH := hid h
  have d0 : Below w.heap.size w w.drew := below_drewN (Below.refl _ _) 1
  have HCN := hid (count_any ob mb ks zeroF w.drew (h.later d0) (by omega))
  have hc1 : w.drew.cell? ⟨ob, 1, none⟩ = some (.slice none 0 0) := h.cells.2
  obtain ⟨n, hn⟩ : ∃ n, ks.length = n := ⟨_, rfl⟩
  have HN := hid hn
  have hn40 : n ≤ 4294967296 := by rw [← hn]; exact hl
  have hmk := make_keys w.drew.drew n (by omega)
  have ho := keys_made w.drew.drew n (by simp only [maxLen]; omega)
  have hb1 := below_up d0 (below_up (below_drewN (Below.refl _ w.drew) 1) (below_new w.drew.drew (.cells (madeCells #[.int .i64 0] n) 2)))
  obtain ⟨w1, hw1⟩ : ∃ w1, w.drew.drew.alloc (.cells (madeCells #[.int .i64 0] n) 2) = w1 := ⟨_, rfl⟩
  rw [hw1] at hmk ho hb1
  obtain ⟨g0, hg0⟩ : ∃ g0, w.drew.drew.heap.size = g0 := ⟨_, rfl⟩
  have hg0e : w.heap.size = g0 := hg0
  rw [hg0] at hmk ho
  have hap : (Builtin.append_ #[30, 30] 30 #[.slice (some ⟨g0, 0, none⟩) 0 n, .slice none 0 0]).run Tryz.prog w1 = .ok (.slice (some ⟨g0, 0, none⟩) 0 n) w1 := by
    obtain ⟨i0, hi0, _⟩ := info_parts infoI64
    exact run_append_owned_none (P := Tryz.prog) w1 g0 30 30 2 i0 1 Tryz.underlying30 hi0 _ 0 _ ho
  have O1 := hid ho
  have B1 := hid hb1
  have RM := hid hmk
  have RA := hid hap
  rw [hn] at HCN ⊢
  clear h ho hb1 hw1 hg0 hmk hap hn
  go_enter Tryz.func22, Tryz.ntmps22
  go_wp2_with fail
  refine wp_region_noPanic ?_
  refine wp_region_held_drew (S := fun V => V.cell? ⟨ob, 1, none⟩ = some (.slice none 0 0)) (by kernel_rfl) (hc1) (fun hHeld0 => ?_)
  refine wpAnyH_take (i := 0) (oi := { dst := some 7, op := Op.move (Operand.tmp 0), type := 78, pos := "lots.go:46", after := #[], guard := none }) (v := ?_) rfl (by kernel_rfl) (by kernel_rfl) (by kernel_rfl) (fun _ _ _ h => h) (Or.inl ⟨by rfl, ?_⟩) (by assumption) ?_
  rotate_left
  · intro W hSw
    try dsimp only at hSw
    go_simp
    try with_reducible rfl
  try simp only [Act.put, List.setIfInBounds_toArray, List.set_cons_zero, List.set_cons_succ]
  refine wpAnyH_take (i := 3) (oi := { dst := some 10, op := Op.move (Operand.tmp 0), type := 78, pos := "lots.go:46", after := #[], guard := none }) (v := ?_) rfl (by kernel_rfl) (by kernel_rfl) (by kernel_rfl) (fun _ _ _ h => h) (Or.inl ⟨by rfl, ?_⟩) (by assumption) ?_
  rotate_left
  · intro W hSw
    try dsimp only at hSw
    go_simp
    try with_reducible rfl
  try simp only [Act.put, List.setIfInBounds_toArray, List.set_cons_zero, List.set_cons_succ]
  refine wpAnyH_take (i := 4) (oi := { dst := some 11, op := Op.nilCheck (Operand.tmp 10), type := 0, pos := "lots.go:46", after := #[{ on := 3, ground := Ground.data }], guard := none }) (v := ?_) rfl (by kernel_rfl) (by kernel_rfl) (by kernel_rfl) (fun _ _ _ h => h) (Or.inl ⟨by rfl, ?_⟩) (by assumption) ?_
  rotate_left
  · intro W hSw
    try dsimp only at hSw
    go_simp
    try with_reducible rfl
  try simp only [Act.put, List.setIfInBounds_toArray, List.set_cons_zero, List.set_cons_succ]
  refine wpAnyH_take (i := 5) (oi := { dst := some 12, op := Op.fieldAddr 50 (Operand.tmp 11) 1, type := 0, pos := "lots.go:46", after := #[{ on := 4, ground := Ground.data }], guard := none }) (v := ?_) rfl (by kernel_rfl) (by kernel_rfl) (by kernel_rfl) (fun _ _ _ h => h) (Or.inl ⟨by rfl, ?_⟩) (by assumption) ?_
  rotate_left
  · intro W hSw
    try dsimp only at hSw
    go_simp
    try with_reducible rfl
  try simp only [Act.put, List.setIfInBounds_toArray, List.set_cons_zero, List.set_cons_succ]
  refine wpAnyH_take (i := 6) (oi := { dst := some 13, op := Op.load 30 (Operand.tmp 12), type := 30, pos := "lots.go:46", after := #[{ on := 5, ground := Ground.data }], guard := none }) (v := ?_) rfl (by kernel_rfl) (by kernel_rfl) (by kernel_rfl) (fun _ _ _ h => h) (Or.inl ⟨by rfl, ?_⟩) (by assumption) ?_
  rotate_left
  · intro W hSw
    try dsimp only at hSw
    go_simp
    try with_reducible rfl
  try simp only [Act.put, List.setIfInBounds_toArray, List.set_cons_zero, List.set_cons_succ]
  refine wpAnyH_ready (rs := [1]) (by kernel_rfl) (by simp) ?_
  refine AllReadyH.cons (o := { dst := some 8, op := Op.call { callee := Callee.value (Operand.func 46), args := #[Operand.tmp 7], argTypes := #[78] }, type := 3, pos := "lots.go:46", after := #[{ on := 0, ground := Ground.data }], guard := none }) rfl (fun K hK => ?_) AllReadyH.nil
  rw [if_pos (by rfl)]
  go_simp
  refine HCN.out.mono ?_
  rintro e w0 ⟨rfl, hw0⟩
  subst w0
  refine hK.out _ _ (hc1) (fun hHeld1 => ?_)
  clear hK K hHeld0
  try simp only [Act.put, List.setIfInBounds_toArray, List.set_cons_zero, List.set_cons_succ]
  have hmk := RM.out
  refine wpAnyH_ready (rs := [2]) (by kernel_rfl) (by simp) ?_
  refine AllReadyH.cons (o := { dst := some 9, op := Op.makeSlice 30 (Operand.const (Value.int IntKind.i64 0)) (Operand.tmp 8), type := 30, pos := "lots.go:46", after := #[{ on := 1, ground := Ground.data }], guard := none }) rfl (fun K hK => ?_) AllReadyH.nil
  rw [if_pos (by rfl)]
  go_simp
  refine hK.out _ _ ((HH.out.later B1.out).cells.2) (fun hHeld2 => ?_)
  clear hK K hHeld1
  try simp only [Act.put, List.setIfInBounds_toArray, List.set_cons_zero, List.set_cons_succ]
  clear hmk
  refine wpAnyH_ready (rs := [7]) (by kernel_rfl) (by simp) ?_
  refine AllReadyH.cons (o := { dst := some 14, op := Op.call { callee := Callee.builtin Builtin.append, args := #[Operand.tmp 9, Operand.tmp 13], argTypes := #[30, 30] }, type := 30, pos := "lots.go:46", after := #[{ on := 2, ground := Ground.data }, { on := 6, ground := Ground.data }, { on := 1, ground := Ground.chain }], guard := none }) rfl (fun K hK => ?_) AllReadyH.nil
  rw [if_pos (by rfl)]
  refine oper_app (by rfl) (by rfl) RA.out ?_
  refine hK.out _ _ ((HH.out.later B1.out).cells.2) (fun hHeld3 => ?_)
  clear hK K hHeld2
  try simp only [Act.put, List.setIfInBounds_toArray, List.set_cons_zero, List.set_cons_succ]
  refine wpAnyH_take (i := 8) (oi := { dst := some 3, op := Op.assign (Operand.tmp 14), type := 30, pos := "lots.go:46", after := #[{ on := 7, ground := Ground.data }, { on := 7, ground := Ground.chain }, { on := 0, ground := Ground.phase }, { on := 1, ground := Ground.phase }, { on := 2, ground := Ground.phase }, { on := 3, ground := Ground.phase }, { on := 4, ground := Ground.phase }, { on := 5, ground := Ground.phase }, { on := 6, ground := Ground.phase }, { on := 7, ground := Ground.phase }], guard := none }) (v := ?_) rfl (by kernel_rfl) (by kernel_rfl) (by kernel_rfl) (fun _ _ _ h => h) (Or.inl ⟨by rfl, ?_⟩) (by assumption) ?_
  rotate_left
  · intro W hSw
    try dsimp only at hSw
    go_simp
    try with_reducible rfl
  try simp only [Act.put, List.setIfInBounds_toArray, List.set_cons_zero, List.set_cons_succ]
  refine wpAnyH_done (by kernel_rfl) ?_ _
  refine NoPanic.normal ?_
  clear hHeld3
  clear RM RA hc1 HCN
  obtain ⟨D, hD1, hD2, hD3, hD4⟩ := (HH.out.later B1.out).map.own
  obtain ⟨c0, _⟩ := (HH.out.later B1.out).cells
  have HDD := hid (And.intro hD2 (And.intro hD3 hD4))
  rw [HN.out] at hD1
  have HD1 := hid hD1
  clear hD1 hD2 hD3 hD4
  go_wp2_with (first | (at_range; refine wpList_range_own _ rfl _ 48 rfl 2 58 keyed Tryz.underlying48 _ mb n D rfl HD1.out ?_; intro w2 hrg2 hg2 hs2) | go_in)
  go_frame
  have HRG := hid hrg2
  have G2 : Hid (w.grownBy w2 (some mb)) := by
    have h1 : w.grownBy w1 (some mb) := ⟨B1.out.os, B1.out.tape, B1.out.output, B1.out.size, fun k hk _ => B1.out.block k hk⟩
    exact h1.andThen hg2 (fun j hj => by cases hj)
  have O2 : Hid (w2.ownsRow w.heap.size 2 1 (.slice (some ⟨g0, 0, none⟩) 0 n) (ivals []).length (ivals [])) := by
    have h1 : OwnI w2 g0 (.slice (some ⟨g0, 0, none⟩) 0 n) [] := O1.out.kept fun g hg => hg2.block g (O1.out.lt g hg).2 (by simp)
    rw [hg0e]
    exact h1
  obtain ⟨r, hr⟩ : ∃ r, w1.heap.size = r := ⟨_, rfl⟩
  have hwr0 : w.heap.size ≤ r := by rw [← hr]; exact B1.out.size
  have hmbw : mb < w.heap.size := HH.out.map.blt
  rw [hr] at HRG ⊢
  clear hrg2 hg2 hs2 c0 O1 hr
  go_loopw [3] (fun v wr => ∃ (kk : List Int) (g c : Nat) (left : Lit → Bool) (cnt : Nat), v = .slice (some ⟨g, 0, none⟩) kk.length c ∧ kk.length + cnt ≤ n ∧ Hid (wr.ownsRow w.heap.size 2 1 (.slice (some ⟨g, 0, none⟩) kk.length c) (ivals kk).length (ivals kk) ∧ wr.ranges Tryz.prog 2 (plainElem Tryz.prog 58) mb r n D left cnt ∧ kk.Nodup ∧ (∀ x, x ∈ kk ↔ (x ∈ ks ∧ left (kl x) = false)) ∧ (∀ x, left (kl x) = true → x ∈ ks) ∧ w.grownBy wr (some mb))) (fun _ wr => wr.rangeLeft mb r)
  case atStart => exact ⟨[], g0, n, _, _, rfl, by rw [HDD.out.2.2, HN.out]; simp, O2.out, HRG.out, List.nodup_nil, fun x => by rw [HDD.out.1 x]; simp, fun x hx => by rw [HDD.out.1 x] at hx; simpa using hx, G2.out⟩
  case round =>
    clear O2 HRG G2
    obtain ⟨kk, g, c, left, cnt, rfl, hkc, HQ⟩ := hrel
    have hrg := HQ.out.2.1
    have hgne : g ≠ r ∧ w.heap.size ≤ g := by
      rcases HQ.out.1.2 with ⟨h0, _⟩ | ⟨g', cap, cur, hv, hb, hg, _⟩
      · cases h0
      · simp only [Value.slice.injEq, Option.some.injEq, Addr.mk.injEq, and_true] at hv
        obtain ⟨rfl, _⟩ := hv
        obtain ⟨es, clock, since, seen, c0, _, _, _, _, hr, _⟩ := hrg
        refine ⟨fun e => ?_, hb⟩
        rw [e, hr] at hg
        cases hg
    go_wp2_with (first | (at_next; refine wpList_next_ranges_ii _ rfl _ rfl 2 58 .i64 .u32 keyed Tryz.underlying2 Tryz.underlying58 mb r n _ _ _ rfl hrg ?_ ?_) | go_in)
    · intro hc0 hl0
      have HPM : Hid (kk.Perm ks) := perm_same HQ.out.2.2.1 HH.out.map.nodup (fun x => by rw [HQ.out.2.2.2.1 x, hl0 (kl x)]; simp)
      have hkl : kk.length = n := by rw [HPM.out.length_eq, HN.out]
      have hM : MapK wr mb ks zeroF := by
        refine ⟨⟨D, ?_, HDD.out⟩, HH.out.map.nodup, HH.out.map.in64, HH.out.map.lt⟩
        rw [HN.out]
        exact hrg.owns
      have HL := hid (HH.out.turn HQ.out.2.2.2.2.2 hM)
      have HG := hid HQ.out.2.2.2.2.2
      have HR := hid HQ.out.1
      have HSO := sort_any g c kk w.heap.size wr HR.out (by rw [hkl]; omega)
      rw [sortI_eq HPM.out, hkl] at HSO
      have HSO' := hid HSO
      rw [hkl]
      clear HSO HR hM HQ hrg hl0 hc0 hkl HPM HDD HD1
      go_wp2_with fail
      refine HSO'.out.mono ?_
      rintro e w5 ⟨rfl, ho5, hg5⟩
      have hgob : g ≠ ob := by have := HH.out.lt; omega
      have hgmb : g ≠ mb := by omega
      have HL5 := hid (HL.out.far hg5 hgob hgmb)
      have HG5 := hid (HG.out.andThen hg5 (fun j hj => by injection hj with hj; left; omega))
      have HR5 := hid ho5
      clear ho5 hg5 HSO' HL HG
      have HND : Hid ((sortI ks).Nodup) := (sortI_perm ks).nodup_iff.2 HH.out.map.nodup
      have HKL : Hid ((sortI ks).length = n) := by show _ = _; rw [sortI_len, HN.out]
      rw [show zeroF = codeTo (sortI ks) 0 from (codeTo_zero _).symm] at HL5
      generalize hK : sortI ks = K at *
      have HKM : Hid (∀ x, x ∈ K → x ∈ ks) := fun x hx => by rw [← hK] at hx; exact (sortI_mem ks x).1 hx
      have HKE := hid hK
      clear hK
      go_wp2_with fail
      go_loopw [32] (fun y ws => ∃ i : Nat, i ≤ n ∧ y = .int .i64 (i : Int) ∧ Hid (ws.ownsRow w.heap.size 2 1 (.slice (some ⟨g, 0, none⟩) n c) (ivals K).length (ivals K) ∧ Lots ws ob mb ks (codeTo K i) ∧ w.grownBy ws (some mb))) (fun y _ => n - (intOf y).toNat)
      case atStart => exact ⟨0, Nat.zero_le _, rfl, HR5.out, HL5.out, HG5.out⟩
      case round =>
        clear HR5 HL5 HG5
        obtain ⟨i, hi, rfl, HQ⟩ := hrel
        by_cases hlt : i < n
        · have hii : (i : Int) < (n : Int) := by omega
          have hKi : i < K.length := by rw [HKL.out]; exact hlt
          have hs : K[i]? = some K[i] := List.getElem?_eq_getElem hKi
          have hxk := HKM.out _ (List.getElem_mem hKi)
          have hiv : i < (ivals K).length := by unfold ivals; rw [List.length_map]; exact hKi
          obtain ⟨g', cg, hv, -, -, hce, -⟩ := row_store HQ.out.1 hiv
          simp only [Value.slice.injEq, Option.some.injEq, Addr.mk.injEq, and_true] at hv
          obtain ⟨rfl, -⟩ := hv
          have hcv : (ivals K)[i]? = some (.int .i64 K[i]) := by unfold ivals; rw [List.getElem?_map, hs]; rfl
          generalize K[i] = x at hs hxk hcv
          obtain ⟨c0, c1⟩ := HQ.out.2.1.cells
          obtain ⟨w6, hr6, hM6, hg6⟩ := HQ.out.2.1.map.put (HH.out.map.in64 x hxk) (v := i) (by omega) (by rw [HN.out]; simp only [maxLen]; omega)
          rw [if_pos hxk, codeTo_next HND.out hs] at hM6
          rw [(List.getElem?_eq_some_iff.1 hcv).2] at hce
          have HX : Hid (w6.ownsRow w.heap.size 2 1 (.slice (some ⟨g, 0, none⟩) n c) (ivals K).length (ivals K) ∧ Lots w6 ob mb ks (codeTo K (i + 1)) ∧ w.grownBy w6 (some mb)) := by
            refine ⟨row_kept HQ.out.1 (fun b hb => ?_), HQ.out.2.1.turn hg6 hM6, HQ.out.2.2.andThen hg6 (fun j hj => .inr hj)⟩
            simp [Value.ownBlock] at hb
            subst hb
            exact hg6.block g (World.ownsRow.lt HQ.out.1 g rfl).2 (fun e => hgmb (by injection e))
          have hw32 : IntKind.u32.wrap (i : Int) = (i : Int) := by rw [IntKind.wrap_u32]; omega
          have R6 := hid hr6
          clear hr6 hM6 hg6 HQ hcv hxk hs hiv hKi
          go_wp2_with fail
          rw [R6.out]
          clear R6
          go_wp2_with fail
          exact ⟨⟨i + 1, by omega, by go_num, HX⟩, by simp [intOf]; omega⟩
        · obtain rfl : n = i := by omega
          have HF := hid HQ.out
          clear HQ
          go_wp2_with fail
          go_ret
          rw [HKE.out]
          exact ⟨g, c, rfl, HF.out.1, HF.out.2.1, HF.out.2.2⟩
    · intro x cc w3 cnt3 hwx hwc hlx hat hrg3 hlt3 hg3 hs3 hen
      obtain ⟨q1, q2, q3, q4, q5, q6⟩ := HQ.out
      have h3 : w3.ownsRow w.heap.size 2 1 (.slice (some ⟨g, 0, none⟩) kk.length c) kk.length (ivals kk) := by
        have := row_kept q1 (w' := w3) (fun b hb => by
          simp [Value.ownBlock] at hb
          subst hb
          exact hg3.block g (World.ownsRow.lt q1 g rfl).2 (fun e => hgne.1 (by injection e)))
        have e : (ivals kk).length = kk.length := by unfold ivals; rw [List.length_map]
        rwa [e] at this
      obtain ⟨g4, c4, w4, hr4, ho4, hg4, _⟩ := run_oneV (t := 30) (ty := 30) Tryz.underlying30 infoI64 rfl h3 (by omega) (by omega) (Nat.le_trans q6.size hg3.size) (.int .i64 x) rfl
      have e4 : ivals kk ++ [.int .i64 x] = ivals (kk ++ [x]) := by simp [ivals]
      have e5 : (kk ++ [x]).length = kk.length + 1 := by simp
      have e6 : (ivals (kk ++ [x])).length = kk.length + 1 := by unfold ivals; rw [List.length_map, e5]
      have hrg4 := (hrg3.alloc (.cells #[.int .i64 x] 2)).kept hg4 (by simp [Value.ownBlock]; omega) (by simp [Value.ownBlock]; exact fun e => hgne.1 e.symm)
      have HX : Hid (w4.ownsRow w.heap.size 2 1 (.slice (some ⟨g4, 0, none⟩) (kk ++ [x]).length c4) (ivals (kk ++ [x])).length (ivals (kk ++ [x])) ∧ w4.ranges Tryz.prog 2 (plainElem Tryz.prog 58) mb r n D (fun z => left z && !z.sameKey (kl x)) cnt3 ∧ (kk ++ [x]).Nodup ∧ (∀ y, y ∈ kk ++ [x] ↔ (y ∈ ks ∧ (left (kl y) && !(kl y).sameKey (kl x)) = false)) ∧ (∀ y, (left (kl y) && !(kl y).sameKey (kl x)) = true → y ∈ ks) ∧ w.grownBy w4 (some mb)) := by
        have hxk : x ∉ kk := fun hx => by have := ((q4 x).1 hx).2; rw [hlx] at this; cases this
        refine ⟨by rw [e6, e5, ← e4]; exact ho4, hrg4, ?_, fun y => ?_, fun y hy => q5 y (by simp at hy; exact hy.1), ?_⟩
        · rw [List.nodup_append]
          exact ⟨q3, by simp, fun a ha b hb => by simp at hb; subst hb; exact fun e => hxk (e ▸ ha)⟩
        · rw [List.mem_append, q4 y, same_kl]
          by_cases hy : y = x
          · subst hy
            simp [q5 y hlx]
          · simp [hy]
        · have g1 := q6.andThen hg3 (fun j hj => by injection hj with hj; left; omega)
          have g2 := g1.andThen (World.grownBy_alloc w3 (.cells #[.int .i64 x] 2) none) (fun j hj => by cases hj)
          exact g2.andThen hg4 (fun j hj => by simp [Value.ownBlock] at hj; left; omega)
      have HME : Hid (wr.rangeLeft mb r = cnt ∧ w4.rangeLeft mb r = cnt3) := ⟨hrg.left_eq, hrg4.left_eq⟩
      have R4 := hid hr4
      clear hs3 hg3 hrg3 hr4 ho4 hg4 hrg4 h3 q1 q2 q3 q4 q5 q6 HQ hrg hat hwx hwc hlx e4 e6
      go_wp2_with (at_builtin; refine wpList_app (by rfl) (by rfl) R4.out ?_; clear R4)
      refine ⟨⟨kk ++ [x], g4, c4, _, cnt3, by rw [e5], by rw [e5]; omega, HX⟩, ?_⟩
      rw [HME.out.1, HME.out.2]
      exact hlt3
end Go.Proofs.YtecpdpbmmgnjiaaGreat

