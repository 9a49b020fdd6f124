import Derived.Test.YthgnibphhiaecaaGreatQEach
import Derived.Test.YthgnibphhiaecaaGreatQCoAll
import Derived.Test.YthgnibphhiaecaaGreatQTAll
/-
  Lots: what stands side by side; isJoin, otherJoin, turnsOne.
-/
namespace Go.Proofs.YthgnibphhiaecaaGreat
open Go.ChangeShapes Go.WideShapes Go.ChangeAt Go.RowKit Cu Vl
attribute [local go_sem] run_store_float

theorem isJoin_any (K : Int) (w : World) : Calls Tryz.prog 22 #[.int .i64 K] w fun e w' => e = .returned (.bool (joinB K)) ∧ w' = w := by
  by_cases h6 : K = 6
  · subst h6
    go_enter Tryz.func22, Tryz.ntmps22
    go_wp2_with fail
    go_ret
    exact ⟨rfl, rfl⟩
  · by_cases h7 : K = 7
    · subst h7
      go_enter Tryz.func22, Tryz.ntmps22
      go_wp2_with fail
      go_ret
      exact ⟨rfl, rfl⟩
    · have h6b : (K == 6) = false := by simpa using h6
      have h7b : (K == 7) = false := by simpa using h7
      have hj : joinB K = false := by simp [joinB, h6, h7]
      rw [hj]
      clear h6 h7 hj
      go_enter Tryz.func22, Tryz.ntmps22
      go_wp2_with fail
      go_ret
      exact ⟨rfl, rfl⟩
theorem otherJoin_any (K : Int) (w : World) : Calls Tryz.prog 39 #[.int .i64 K] w fun e w' => e = .returned (.int .i64 (otherJ K)) ∧ w' = w := by
  by_cases h6 : K = 6
  · subst h6
    go_enter Tryz.func39, Tryz.ntmps39
    go_wp2_with fail
    go_ret
    exact ⟨rfl, rfl⟩
  · have h6b : (K == 6) = false := by simpa using h6
    have hj : otherJ K = 6 := by unfold otherJ; rw [if_neg h6]
    rw [hj]
    clear h6 hj
    go_enter Tryz.func39, Tryz.ntmps39
    go_wp2_with fail
    go_ret
    exact ⟨rfl, rfl⟩
def oneB (p : Pr) : Bool := decide (p.K = 8) && decide (p.m = 1)
set_option maxRecDepth 4000 in
set_option maxHeartbeats 2000000 in
theorem turnsOne_any (p : Pr) (a : Option Addr) (d : Nat) (b : Option Addr) (e : Nat) (w : World) (hm : p.m ≤ 140737488355328) :
    Calls Tryz.prog 26 #[pv p a d b e] w fun r w' => r = .returned (.bool (oneB p)) ∧ Below w.heap.size w w' := by
  have HR : Hid (oneB p = (decide (p.K = 8) && decide (p.m = 1))) := rfl
  have B := hid (below_new w (.cells (pa p a d b e) 29))
  generalize oneB p = R at *
  obtain ⟨K, c, op, ⟨vK, vI, vb, vs⟩, l, m⟩ := p
  unfold pv
  unfold pa at *
  dsimp only at *
  have h8 : K = 8 ∨ ((K == 8) = false ∧ decide (K = 8) = false) := by by_cases h : K = 8; exact .inl h; exact .inr (by simpa using h)
  have h1 : m = 1 ∨ (((m : Int) == 1) = false ∧ decide (m = 1) = false) := by by_cases h : m = 1; exact .inl h; exact .inr (by simp; omega)
  clear hm
  rcases h8 with rfl | ⟨h8, g8⟩
  · rcases h1 with rfl | ⟨h1, g1⟩
    · go_enter Tryz.func26, Tryz.ntmps26
      go_wp2_with fail
      go_ret
      exact ⟨ret_bool (by rw [HR.out]; rfl), B.out⟩
    · go_enter Tryz.func26, Tryz.ntmps26
      go_wp2_with fail
      go_ret
      exact ⟨ret_bool (by rw [HR.out, g1]; rfl), B.out⟩
  · go_enter Tryz.func26, Tryz.ntmps26
    go_wp2_with fail
    go_ret
    exact ⟨ret_bool (by rw [HR.out, g8]; rfl), B.out⟩
/-! ### How many -/
def flat1 (K : Int) (q : Q) : List Q := if q.h.K = K then q.ks else [q]
theorem flatK_map (K : Int) (l : List Q) : flatK K l = l.flatMap (flat1 K) := rfl
theorem flat1_len : ∀ (q : Q) (t : Bool) (K : Int), (flat1 K (plQ t q)).length ≤ q.sz := by
  refine Q.ind fun h ks ih t K => ?_
  have hflat : ∀ (t : Bool) (K' : Int), (flatK K' (ks.map (plQ t))).length ≤ szL ks := fun t K' => by
    clear K
    induction ks with
    | nil => simp [flatK, szL]
    | cons k r ih2 =>
      rw [List.map_cons, flat_cons, List.length_append, szL]
      have h1 := ih k (by simp) t K'
      unfold flat1 at h1
      have h2 := ih2 (fun k hk => ih k (by simp [hk]))
      omega
  have hs : (Q.mk h ks).sz = szL ks + 1 := by rw [Q.sz]
  by_cases hj : joinB h.K = true
  · rw [plQ_join hj]
    generalize (if t = true then otherJ h.K else h.K) = K'
    unfold flat1
    by_cases e : (Q.mk (hdK K') (flatK K' (ks.map (plQ t)))).h.K = K
    · rw [if_pos e]
      have := hflat t K'
      show (flatK _ _).length ≤ _
      omega
    · rw [if_neg e]
      simp; omega
  · have hj' : joinB h.K = false := by simpa using hj
    by_cases h8 : h.K = 8 ∧ ks.length = 1
    · obtain ⟨h8, h1⟩ := h8
      obtain ⟨k, rfl⟩ := list1 h1
      rw [plQ_not h8]
      have := ih k (by simp) (!t) K
      simp only [szL] at hs
      omega
    · rw [plQ_else hj' h8]
      have h1 : ∀ q : Q, (q = .mk h ks ∨ q.ks.length ≤ 1) → (flat1 K q).length ≤ (Q.mk h ks).sz := fun q hq => by
        unfold flat1
        split
        · rcases hq with rfl | hq
          · have := szL_len ks; show ks.length ≤ _; omega
          · omega
        · simp; omega
      cases t
      · exact h1 _ (.inl rfl)
      · rw [if_neg (by decide)]
        split
        · exact h1 _ (.inr (by simp [Q.ks]))
        · exact h1 _ (.inr (by simp [Q.ks]))
theorem set_comm (w : World) {g g' : Nat} (h : g ≠ g') (i j : Nat) (u v : Value) : (w.setCell ⟨g, i, none⟩ u).setCell ⟨g', j, none⟩ v = (w.setCell ⟨g', j, none⟩ v).setCell ⟨g, i, none⟩ u := by
  have hheap : ((w.setCell ⟨g, i, none⟩ u).setCell ⟨g', j, none⟩ v).heap = ((w.setCell ⟨g', j, none⟩ v).setCell ⟨g, i, none⟩ u).heap := by
    apply Array.ext_getElem?
    intro k
    simp only [World.setCell, Array.getElem?_modify]
    by_cases h1 : g = k
    · subst h1
      have h2 : ¬ g' = g := fun e => h e.symm
      simp only [if_neg h2, if_true]
    · simp only [if_neg h1]
  show World.mk _ _ _ _ _ = World.mk _ _ _ _ _
  congr 1
theorem put9_comm (w : World) {g gl : Nat} (h : g ≠ gl) (o i : Nat) (t : T) (u : Value) : put9 (w.setCell ⟨gl, i, none⟩ u) g o t = (put9 w g o t).setCell ⟨gl, i, none⟩ u := by
  have h' : gl ≠ g := fun e => h e.symm
  unfold put9
  simp only [set_comm _ h' i]
/-- A lot. -/
structure LotI (w : World) (B gl : Nat) (K : Int) (v : Value) (ts : List T) : Prop where
  lot : Bx w gl #[.int .i64 K, v] 67
  fam : Fam w B [gl] v ts
theorem LotI.later {w w' : World} {B gl : Nat} {K : Int} {v : Value} {ts : List T} (h : LotI w B gl K v ts) (hb : Below w.heap.size w w') : LotI w' B gl K v ts := ⟨h.lot.later hb, h.fam.later hb⟩
theorem LotI.form {w : World} {B gl : Nat} {K : Int} {v : Value} {ts : List T} (h : LotI w B gl K v ts) : ∃ a c, v = .slice a ts.length c := by
  obtain ⟨a, c, e, _⟩ := h.fam.own.form tc_len
  exact ⟨a, c, e⟩
/-- One more, appended as zero and written over. -/
theorem LotI.push {w w' : World} {B gl : Nat} {K : Int} {v : Value} {ts : List T} {t : T} {g c : Nat} (h : LotI w B gl K v ts) (ht : NT w B t) (hd : t.blk.Nodup) (hn : ∀ b ∈ t.blk, b ∉ [gl] ++ (v.ownBlock.toList ++ blkL ts)) (hB : B ≤ gl)
    (ho : OwnL tc 9 w' B 29 (.slice (some ⟨g, 0, none⟩) (ts.length + 1) c) (ts ++ [zT])) (hg : w.grownBy w' v.ownBlock) (hb : v.ownBlock = some g ∨ g = w.heap.size) :
    g ≠ gl ∧ Bx w' gl #[.int .i64 K, v] 67 ∧ (∀ i, i < 9 → w'.frozen? ⟨g, ts.length * 9 + i, none⟩ = false) ∧ Bx (put9 w' g (ts.length * 9) t) gl #[.int .i64 K, v] 67 ∧ LotI ((put9 w' g (ts.length * 9) t).setCell ⟨gl, 1, none⟩ (.slice (some ⟨g, 0, none⟩) (ts.length + 1) c)) B gl K (.slice (some ⟨g, 0, none⟩) (ts.length + 1) c) (ts ++ [t]) ∧ (∀ b0, Below B b0 w → Below B b0 ((put9 w' g (ts.length * 9) t).setCell ⟨gl, 1, none⟩ (.slice (some ⟨g, 0, none⟩) (ts.length + 1) c))) := by
  have hl1 : (ts ++ [zT]).length = ts.length + 1 := by simp
  have ho' := ho
  rw [← hl1] at ho'
  obtain ⟨f1, hBg, o1⟩ := ho'.put9 (j := ts.length) (by omega) t
  have hset : (ts ++ [zT]).set ts.length t = ts ++ [t] := by
    rw [List.set_append, if_neg (by omega), Nat.sub_self]; rfl
  rw [hset, show (ts ++ [t]).length = ts.length + 1 by simp] at o1
  have hdj := List.nodup_append.1 h.fam.dj
  have hgl : g ≠ gl := by
    rcases hb with hb | hb
    · rintro rfl
      exact hdj.2.2 g (by simp) g (List.mem_append_left _ (by rw [hb]; simp)) rfl
    · have := h.lot.lt; omega
  have hgT : ∀ b ∈ t.blk, b ≠ g := fun b hbt => by
    rcases hb with hb | hb
    · rintro rfl
      exact hn b hbt (List.mem_append_right _ (List.mem_append_left _ (by rw [hb]; simp)))
    · have := (NT.lt t ht b hbt).2; omega
  have hgK : ∀ b ∈ blkL ts, b ≠ g := fun b hbk => by
    rcases hb with hb | hb
    · rintro rfl
      exact (List.nodup_append.1 hdj.2.1).2.2 b (by rw [hb]; simp) b hbk rfl
    · have := (h.fam.lt b (List.mem_append_right _ hbk)).2; omega
  have hlot' : Bx w' gl #[.int .i64 K, v] 67 := h.lot.kept (h.fam.stay hg (.inr (by simp)) h.lot.lt)
  have hlot : Bx (put9 w' g (ts.length * 9) t) gl #[.int .i64 K, v] 67 := hlot'.kept (put9_far (by omega))
  have hpush := h.fam.push ht hd hn (w' := w') (g := g) (c := c)
  refine ⟨hgl, hlot', f1, hlot, ⟨?_, ?_⟩, fun b0 hb0 => ?_⟩
  · have := bx_set (i := 1) hlot (.slice (some ⟨g, 0, none⟩) (ts.length + 1) c)
    simp only [List.setIfInBounds_toArray, List.set_cons_zero, List.set_cons_succ] at this
    exact this
  · have hfam : Fam (put9 w' g (ts.length * 9) t) B [gl] (.slice (some ⟨g, 0, none⟩) (ts.length + 1) c) (ts ++ [t]) := by
      refine ⟨o1, fun k hk => ?_, ?_, fun b hbE => ?_⟩
      · have hkk : NT w' B k ∧ ∀ b ∈ k.blk, b ≠ g := by
          rcases List.mem_append.1 hk with hk | hk
          · refine ⟨NT.kept k (fun b hbk => ?_) (h.fam.new k hk), fun b hbk => hgK b (blkL_mem.2 ⟨k, hk, hbk⟩)⟩
            have hm := blkL_mem.2 ⟨k, hk, hbk⟩
            exact hg.block b (h.fam.lt b (List.mem_append_right _ hm)).2 (fun e => (List.nodup_append.1 hdj.2.1).2.2 b (by rw [← e]; simp) b hm rfl)
          · obtain rfl : k = t := by simpa using hk
            exact ⟨NT.kept k (fun b hbk => hg.block b (NT.lt k ht b hbk).2 (fun e => hn b hbk (List.mem_append_right _ (List.mem_append_left _ (by rw [← e]; simp))))) ht, hgT⟩
        exact NT.kept k (fun b hbk => put9_far (hkk.2 b hbk)) hkk.1
      · show ([gl] ++ ([g] ++ blkL (ts ++ [t]))).Nodup
        rw [blkL_app]
        simp only [blkL, List.append_nil]
        rw [List.nodup_append]
        refine ⟨by simp, ?_, fun a ha b hb' e => ?_⟩
        · rw [List.nodup_append]
          refine ⟨by simp, ?_, fun a ha b hb' e => ?_⟩
          · rw [List.nodup_append]
            exact ⟨(List.nodup_append.1 hdj.2.1).2.1, hd, fun a ha b hb' e => hn b hb' (e ▸ List.mem_append_right _ (List.mem_append_right _ ha))⟩
          · simp at ha
            subst ha
            rcases List.mem_append.1 hb' with hb' | hb'
            · exact hgK b hb' e.symm
            · exact hgT b hb' e.symm
        · simp at ha
          subst ha
          subst e
          rcases List.mem_append.1 hb' with hb' | hb'
          · simp at hb'; exact hgl hb'.symm
          · rcases List.mem_append.1 hb' with hb' | hb'
            · exact hdj.2.2 a (by simp) a (List.mem_append_right _ hb') rfl
            · exact hn a hb' (List.mem_append_left _ (by simp))
      · rw [put9_size]; exact Nat.lt_of_lt_of_le (h.fam.le b hbE) hg.size
    exact hfam.far (.inr (by simp)) 1 _
  · have h1 : Below B b0 w' := hb0.grown hg (by have := h.lot.lt; omega) (fun j hj => (h.fam.own.lt j hj).1)
    exact (put9_below h1 hBg t).setCell (p := ⟨gl, 1, none⟩) hB _
end Go.Proofs.YthgnibphhiaecaaGreat
