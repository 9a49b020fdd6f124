/-
  chunk.read, chunk.Open, of the form of Ints by Runs. (Written by mkrd.py.)
-/
import Derived.Test.YtlidolocibfbgaaGreatDoorCBody
import Derived.Deep.RegionHeld3
namespace Go.Proofs.YtlidolocibfbgaaGreatDoor.Ck
open Go.ChangeShapes Go.WideShapes Go.ChangeAt Go.RowKit Rn Cu

/-- What reading the bytes B of a chunk of n rows by Runs finds: the lane, the runs. -/
structure Forms (B : List Nat) (n : Nat) (nb : Bool) (L : List Nat) (q : Nat) (R : List (Int × Int)) : Prop where
  ex : ∃ r1 r2 r3 r4 E, (Rd.mk B 0 0).fix 1 = (3, r1) ∧ r1.fix 1 = (0, r2) ∧ r2.uv.1 = q ∧ laneR r2 n = (L, r3) ∧ r3.e = 0 ∧ r3.bytes ((Rd.left r3 : Nat) : Int) = (E, r4) ∧ (∀ x ∈ E, x < 256) ∧ E.length + 20 ≤ 140737488355328 ∧ readT decI E ((n : Int) - (q : Int)) = (0, R) ∧ Rd.left r3 ≤ 140737488355328
  lt : ∀ c ∈ L, c < 256
  tail : Bt.Tail n (Pk.bitB (ofL L))
  cnt : Bt.cnt (Pk.bitB (ofL L)) n = q
  small : L.length ≤ 16777216
  nulls : q = 0 ∨ nb = true
  le : q ≤ n
theorem own_low {w : World} {B : Nat} {v : Value} {L : List Nat} (h : Own w B 5 .u8 v L.length (ofL L)) : ∃ a c, v = .slice a L.length c ∧ (a = none → L.length = 0 ∧ c = 0) ∧ Bytes w a L := by
  obtain ⟨a, c, e, _, _, hn⟩ := h.form
  subst e
  exact ⟨a, c, rfl, hn, h.nums⟩
theorem set_hit {g0 : Nat} {w w' : World} {d g n : Nat} {ws : List Nat} (h : Bt.NewSet w d g n ws) (hh : Hit g0 w w') (h1 : d ≠ g0) (h2 : g ≠ g0) : Bt.NewSet w' d g n ws :=
  ⟨(hh.block d (Array.getElem?_eq_some_iff.1 h.1).1 h1).trans h.1, (hh.block g (Array.getElem?_eq_some_iff.1 h.2).1 h2).trans h.2⟩
theorem set_later {w w' : World} {d g n : Nat} {ws : List Nat} (h : Bt.NewSet w d g n ws) (hb : Below w.heap.size w w') : Bt.NewSet w' d g n ws := set_hit (g0 := w.heap.size) h (hit_of_below hb) (Nat.ne_of_lt (Array.getElem?_eq_some_iff.1 h.1).1) (Nat.ne_of_lt (Array.getElem?_eq_some_iff.1 h.2).1)
theorem bxC_hit {g0 : Nat} {w w' : World} {g : Nat} {c : C} (h : BxC w g c) (hh : Hit g0 w w') (h1 : g ≠ g0) : BxC w' g c := (hh.block g (Array.getElem?_eq_some_iff.1 h).1 h1).trans h
theorem bxD_hit {g0 : Nat} {w w' : World} {g : Nat} {k wd : Int} (h : BxD w g k wd) (hh : Hit g0 w w') (h1 : g ≠ g0) : BxD w' g k wd := (hh.block g (Array.getElem?_eq_some_iff.1 h).1 h1).trans h
theorem below_hit {B g : Nat} {w0 w w' : World} (h : Below B w0 w) (hh : Hit g w w') (hg : B ≤ g) (hB : B ≤ w0.heap.size) : Below B w0 w' :=
  ⟨hh.os.trans h.os, hh.tape.trans h.tape, hh.output.trans h.output, Nat.le_trans h.size hh.size, fun k hk => (hh.block k (by have := h.size; omega) (by omega)).trans (h.block k hk)⟩
/-- A chunk's struct that is still empty. -/
def Zc : Obj := .cells #[.string { data := #[] }, .int .i64 0, .bool false, .int .i64 0, .int .i64 0, .pointer none, .nilIface] 30
theorem set_at {w : World} {g i : Nat} {cur : Array Value} {t : TypeId} (h : w.heap[g]? = some (.cells cur t (0, 0))) (v : Value) : (w.setCell ⟨g, i, none⟩ v).heap[g]? = some (.cells (cur.setIfInBounds i v) t (0, 0)) := by
  simp only [World.setCell, Array.getElem?_modify]
  rw [h]
  simp
def set7 (w : World) (g : Nat) (v0 v1 v2 v3 v4 v5 v6 : Value) : World := ((((((w.setCell ⟨g, 0, none⟩ v0).setCell ⟨g, 1, none⟩ v1).setCell ⟨g, 2, none⟩ v2).setCell ⟨g, 3, none⟩ v3).setCell ⟨g, 4, none⟩ v4).setCell ⟨g, 5, none⟩ v5).setCell ⟨g, 6, none⟩ v6
theorem set7_heap (w : World) (g : Nat) (v0 v1 v2 v3 v4 v5 v6 : Value) {j : Nat} (hj : j ≠ g) : (set7 w g v0 v1 v2 v3 v4 v5 v6).heap[j]? = w.heap[j]? := by
  unfold set7
  repeat rw [Below.heap_setCell _ _ _ _ hj]
theorem set7_below {B : Nat} {w0 w : World} (h : Below B w0 w) {g : Nat} (hg : B ≤ g) (v0 v1 v2 v3 v4 v5 v6 : Value) : Below B w0 (set7 w g v0 v1 v2 v3 v4 v5 v6) :=
  ((((((h.setCell (p := ⟨g, 0, none⟩) hg _).setCell (p := ⟨g, 1, none⟩) hg _).setCell (p := ⟨g, 2, none⟩) hg _).setCell (p := ⟨g, 3, none⟩) hg _).setCell (p := ⟨g, 4, none⟩) hg _).setCell (p := ⟨g, 5, none⟩) hg _).setCell (p := ⟨g, 6, none⟩) hg _
theorem set7_at {w : World} {g : Nat} (h : w.heap[g]? = some Zc) (v0 v1 v2 v3 v4 v5 v6 : Value) : (set7 w g v0 v1 v2 v3 v4 v5 v6).heap[g]? = some (.cells #[v0, v1, v2, v3, v4, v5, v6] 30 (0, 0)) := by
  unfold set7
  exact set_at (set_at (set_at (set_at (set_at (set_at (set_at h _) _) _) _) _) _) _
theorem zc_cells {w : World} {g : Nat} (h : w.heap[g]? = some Zc) : w.cell? ⟨g, 0, none⟩ = some (.string { data := #[] }) ∧ w.cell? ⟨g, 1, none⟩ = some (.int .i64 0) ∧ w.cell? ⟨g, 2, none⟩ = some (.bool false) ∧ w.cell? ⟨g, 3, none⟩ = some (.int .i64 0) ∧ w.cell? ⟨g, 4, none⟩ = some (.int .i64 0) ∧ w.cell? ⟨g, 5, none⟩ = some (.pointer none) ∧ w.cell? ⟨g, 6, none⟩ = some .nilIface ∧ ∀ j, w.frozen? ⟨g, j, none⟩ = false := by
  simp [World.cell?, World.frozen?, h, Zc]
theorem ch_cells {w : World} {g : Nat} {v0 v1 v2 v3 v4 v5 v6 : Value} (h : w.heap[g]? = some (.cells #[v0, v1, v2, v3, v4, v5, v6] 30 (0, 0))) : w.cell? ⟨g, 0, none⟩ = some v0 ∧ w.cell? ⟨g, 1, none⟩ = some v1 ∧ w.cell? ⟨g, 2, none⟩ = some v2 ∧ w.cell? ⟨g, 3, none⟩ = some v3 ∧ w.cell? ⟨g, 4, none⟩ = some v4 ∧ w.cell? ⟨g, 5, none⟩ = some v5 ∧ w.cell? ⟨g, 6, none⟩ = some v6 := by
  simp [World.cell?, h]
set_option maxRecDepth 4000 in
set_option maxHeartbeats 8000000 in
theorem read_runs (nm : ByteArray) (nb : Bool) (n : Nat) (hn : n ≤ 16777216) (a : Option Addr) (B : List Nat) (c : Nat) (w : World) (hA : Bytes w a B) (ha : a = none → B.length = 0 ∧ c = 0) (hl : ∀ x ∈ B, x < 256) (hBn : B.length + 20 ≤ 140737488355328) {L : List Nat} {q : Nat} {R : List (Int × Int)} (hF : Forms B n nb L q R) :
    Calls Tryz.prog 40 #[cv ⟨nm, 1, nb⟩, .int .i64 (n : Int), .slice a B.length c] w fun e w' => ∃ d gw v, e = .returned (.tuple #[.agg #[.string nm, .int .i64 1, .bool nb, .int .i64 3, .int .i64 0, .pointer (some ⟨d, 0, none⟩), .iface 106 (.agg #[v])], .bool true]) ∧
      w.heap.size ≤ d ∧ w.heap.size ≤ gw ∧ Bt.NewSet w' d gw n (Bt.packF n (Pk.bitB (ofL L))) ∧ OwnRInt w' w.heap.size v R ∧ Below w.heap.size w w' := by
  obtain ⟨⟨r1, r2, r3, r4, E, f1, f2, f3, f4, f5, f6, f7, f8, f9, f10⟩, hlt, htl, hcn, hsm, hnl, hqn⟩ := hF
  obtain ⟨w1, hw1⟩ : ∃ w1, w.alloc (.cells #[.string nm, .int .i64 1, .bool nb] 23) = w1 := ⟨_, rfl⟩
  obtain ⟨w2, hw2⟩ : ∃ w2, w1.alloc Zc = w2 := ⟨_, rfl⟩
  have b1 : Below w.heap.size w w1 := by rw [← hw1]; exact below_new _ _
  have b2 : Below w1.heap.size w1 w2 := by rw [← hw2]; exact below_new _ _
  have hC : BxC w2 w.heap.size ⟨nm, 1, nb⟩ := by
    have h1 : BxC w1 w.heap.size ⟨nm, 1, nb⟩ := by rw [← hw1]; exact BxC.new w ⟨nm, 1, nb⟩
    exact h1.later b2
  have hs1 : w1.heap.size = w.heap.size + 1 := by rw [← hw1]; simp
  have hZ : w2.heap[w.heap.size + 1]? = some Zc := by rw [← hw2, ← hs1]; exact World.alloc_heap_new w1 _
  have hs2 : w2.heap.size = w.heap.size + 2 := by rw [← hw2]; simp [hs1]
  have HC := hid hC
  have HZ := hid hZ
  have HB := hid (below_up b1 b2)
  have HO := hid (pOpen a B c w2 (hA.later (below_up b1 b2)) ha hl hBn)
  have HF3 := hid f3
  have HF4 := hid f4
  have HF5 := hid f5
  have HF6 := hid f6
  have HF7 := hid f7
  have HF8 := hid f8
  have HF9 := hid f9
  have HLt := hid hlt
  have HTl := hid htl
  have HCn := hid hcn
  have hqd : q ≤ n := hqn
  clear b1 b2 hC hZ hA f3 f4 f5 f6 f7 f8 f9 hlt htl hcn
  unfold cv
  unfold Zc at hw2
  dsimp only at *
  go_enter Tryz.func40, Tryz.ntmps40
  go_wp2_with fail
  refine HO.out.mono ?_
  rintro e w3 ⟨g, rfl, hP, b3⟩
  have hgl := hP.glo
  have hgh := hP.ghi
  have HT1 := hid (pTake_uint8 hP)
  rw [f1] at HT1
  replace HC := hid (HC.out.later b3)
  replace HZ := hid ((b3.block _ (by omega)).trans HZ.out)
  replace HB := hid (below_up HB.out b3)
  have hs3 := b3.size
  clear b3 hP HO hw1 hw2
  dsimp only at HT1
  go_wp2_with fail
  refine HT1.out.mono ?_
  rintro e w4 ⟨rfl, hP4, hh4⟩
  have HT2 := hid (pTake_uint8 hP4)
  rw [f2] at HT2
  replace HC := hid (bxC_hit HC.out hh4 (by omega))
  replace HZ := hid ((hh4.block _ (by omega) (by omega)).trans HZ.out)
  replace HB := hid (below_hit HB.out hh4 (by omega) (Nat.le_refl _))
  have hs4 := hh4.size
  clear hP4 hh4 HT1
  dsimp only at HT2
  go_wp2_with fail
  refine HT2.out.mono ?_
  rintro e w5 ⟨rfl, hP5, hh5⟩
  have HP5 := hid hP5
  replace HC := hid (bxC_hit HC.out hh5 (by omega))
  replace HZ := hid ((hh5.block _ (by omega) (by omega)).trans HZ.out)
  replace HB := hid (below_hit HB.out hh5 (by omega) (Nat.le_refl _))
  have hs5 := hh5.size
  clear hP5 hh5 HT2
  obtain ⟨w6, hw6⟩ : ∃ w6, w5.alloc (.cells #[.int .i64 3, .int .i64 0] 25) = w6 := ⟨_, rfl⟩
  have b6 : Below w5.heap.size w5 w6 := by rw [← hw6]; exact below_new _ _
  have hD : BxD w6 w5.heap.size 3 0 := by rw [← hw6]; exact BxD.new _ _ _
  have HD := hid hD
  have hs6 : w6.heap.size = w5.heap.size + 1 := by rw [← hw6]; simp
  replace HC := hid (HC.out.later b6)
  replace HZ := hid ((b6.block _ (by omega)).trans HZ.out)
  replace HB := hid (below_up HB.out b6)
  have HN := hid (nulls_ok n hn (HP5.out.later b6) (by rw [HF4.out]; exact HF5.out) (by rw [HF4.out]; exact HLt.out) (by rw [HF4.out]; exact HTl.out) (by rw [HF4.out, HF3.out]; exact HCn.out) (by rw [HF4.out]; exact hsm))
  rw [HF4.out] at HN
  have HW6 := hid hw6
  clear b6 hD HP5 hw6
  dsimp only at HN
  go_wp2_with fail
  rw [HW6.out]
  refine HN.out.mono ?_
  rintro e w7 ⟨d, gw, rfl, hd, hgw, hNS, hP7, hh7⟩
  have HNS := hid hNS
  have HP := hid hP7
  replace HC := hid (bxC_hit HC.out hh7 (by omega))
  replace HD := hid (bxD_hit HD.out hh7 (by omega))
  replace HZ := hid ((hh7.block _ (by omega) (by omega)).trans HZ.out)
  replace HB := hid (below_hit HB.out hh7 (by omega) (Nat.le_refl _))
  have hs7 := hh7.size
  have HCd := hid (codec_runs ⟨nm, 1, nb⟩ w7)
  unfold cv dv at HCd
  obtain ⟨d0, d1⟩ := HD.out.cells
  obtain ⟨k0, k1, k2⟩ := HC.out.cells
  dsimp only at HCd k0 k1 k2
  clear hNS hP7 hh7 HN HW6
  go_wp2_with fail
  refine HCd.out.mono ?_
  rintro e w8 ⟨rfl, b8⟩
  replace HC := hid (HC.out.later b8)
  replace HD := hid (HD.out.later b8)
  replace HZ := hid ((b8.block _ (by omega)).trans HZ.out)
  replace HB := hid (below_up HB.out b8)
  replace HNS := hid (set_later HNS.out b8)
  replace HP := hid (HP.out.later b8)
  have hs8 := b8.size
  have hdn : d ≠ gw := HNS.out.ne
  clear b8 HCd d0 d1 k0 k1 k2
  obtain ⟨d0, d1⟩ := HD.out.cells
  obtain ⟨k0, k1, k2⟩ := HC.out.cells
  dsimp only at k0 k1 k2
  have HCt : Hid (∀ W, Bt.NewSet W d gw n (Bt.packF n (Pk.bitB (ofL L))) → Calls Tryz.prog 36 #[.pointer (some ⟨d, 0, none⟩)] W fun e w' => e = .returned (.int .i64 (q : Int)) ∧ w' = W) := fun W hW => by
    have := Bt.count_any d n (Pk.bitB (ofL L)) W hW.is hn HTl.out
    rwa [HCn.out] at this
  have HCw := hid (HCt.out w8 HNS.out)
  obtain ⟨kk, hkk⟩ : ∃ kk : Int, (n : Int) - (q : Int) = kk := ⟨_, rfl⟩
  have eq1 : IntKind.i64.wrap kk = kk := by rw [IntKind.wrap_i64]; omega
  have hk1 : 0 ≤ kk := by omega
  have hk2 : kk ≤ 16777216 := by omega
  rw [hkk] at HF9
  go_wp2_with fail
  refine HCw.out.mono ?_
  rintro e w8' ⟨rfl, hw⟩
  subst hw
  by_cases hq0 : q = 0
  · have hqz : ¬ (0 : Int) < (q : Int) := by omega
    clear hq0
    go_wp2_with fail
    refine wp_region_noPanic ?_
    refine wp_region_held_drew (S := fun W => W.cell? ⟨w.heap.size, 0, none⟩ = some (.string nm) ∧ W.cell? ⟨w.heap.size, 1, none⟩ = some (.int .i64 1) ∧ W.cell? ⟨w.heap.size, 2, none⟩ = some (.bool nb) ∧ W.cell? ⟨w5.heap.size, 0, none⟩ = some (.int .i64 3) ∧ W.cell? ⟨w5.heap.size, 1, none⟩ = some (.int .i64 0)) (by kernel_rfl) (⟨by simpa using k0, by simpa using k1, by simpa using k2, by simpa using d0, by simpa using d1⟩) (fun hHeld0 => ?_)
    obtain ⟨w9, hw9⟩ : ∃ w9, w8'.drew = w9 := ⟨_, rfl⟩
    have b9 : Below w8'.heap.size w8' w9 := by rw [← hw9]; exact drewN_below w8' 1
    rw [hw9]
    rw [hw9] at hHeld0
    replace HC := hid (HC.out.later b9)
    replace HD := hid (HD.out.later b9)
    replace HP := hid (HP.out.later b9)
    replace HZ := hid ((b9.block _ (by omega)).trans HZ.out)
    replace HB := hid (below_up HB.out b9)
    replace HNS := hid (set_later HNS.out b9)
    have hs9 := b9.size
    have HLf := hid (pLeft HP.out)
    have HBy := hid (pBytes HP.out ((Rd.left r3 : Nat) : Int) (by omega) (by omega))
    rw [HF6.out] at HBy
    dsimp only at HBy
    clear b9 hw9 d0 d1 k0 k1 k2 HCw
    refine wpAnyH_take (i := 0) (oi := { dst := some 53, op := Op.load 23 (Operand.tmp 3), type := 23, pos := "open.go:40", after := #[], guard := none }) (v := ?_) rfl (by kernel_rfl) (by kernel_rfl) (by kernel_rfl) (fun _ _ _ h => h) (Or.inl ⟨by rfl, ?_⟩) (by assumption) ?_
    rotate_left
    · intro W hSw
      try dsimp only at hSw
      go_simp
      try with_reducible rfl
    try simp only [Act.put, List.setIfInBounds_toArray, List.set_cons_zero, List.set_cons_succ]
    refine wpAnyH_take (i := 1) (oi := { dst := some 54, op := Op.load 25 (Operand.tmp 11), type := 25, pos := "open.go:40", after := #[], guard := none }) (v := ?_) rfl (by kernel_rfl) (by kernel_rfl) (by kernel_rfl) (fun _ _ _ h => h) (Or.inl ⟨by rfl, ?_⟩) (by assumption) ?_
    rotate_left
    · intro W hSw
      try dsimp only at hSw
      go_simp
      try with_reducible rfl
    try simp only [Act.put, List.setIfInBounds_toArray, List.set_cons_zero, List.set_cons_succ]
    refine wpAnyH_take (i := 2) (oi := { dst := some 55, op := Op.move (Operand.tmp 8), type := 162, pos := "open.go:40", after := #[], guard := none }) (v := ?_) rfl (by kernel_rfl) (by kernel_rfl) (by kernel_rfl) (fun _ _ _ h => h) (Or.inl ⟨by rfl, ?_⟩) (by assumption) ?_
    rotate_left
    · intro W hSw
      try dsimp only at hSw
      go_simp
      try with_reducible rfl
    try simp only [Act.put, List.setIfInBounds_toArray, List.set_cons_zero, List.set_cons_succ]
    refine wpAnyH_take (i := 3) (oi := { dst := some 56, op := Op.move (Operand.tmp 8), type := 162, pos := "open.go:40", after := #[], guard := none }) (v := ?_) rfl (by kernel_rfl) (by kernel_rfl) (by kernel_rfl) (fun _ _ _ h => h) (Or.inl ⟨by rfl, ?_⟩) (by assumption) ?_
    rotate_left
    · intro W hSw
      try dsimp only at hSw
      go_simp
      try with_reducible rfl
    try simp only [Act.put, List.setIfInBounds_toArray, List.set_cons_zero, List.set_cons_succ]
    refine wpAnyH_take (i := 6) (oi := { dst := some 59, op := Op.move (Operand.tmp 1), type := 3, pos := "open.go:40", after := #[], guard := none }) (v := ?_) rfl (by kernel_rfl) (by kernel_rfl) (by kernel_rfl) (fun _ _ _ h => h) (Or.inl ⟨by rfl, ?_⟩) (by assumption) ?_
    rotate_left
    · intro W hSw
      try dsimp only at hSw
      go_simp
      try with_reducible rfl
    try simp only [Act.put, List.setIfInBounds_toArray, List.set_cons_zero, List.set_cons_succ]
    refine wpAnyH_take (i := 7) (oi := { dst := some 60, op := Op.move (Operand.tmp 12), type := 26, pos := "open.go:40", after := #[], guard := none }) (v := ?_) rfl (by kernel_rfl) (by kernel_rfl) (by kernel_rfl) (fun _ _ _ h => h) (Or.inl ⟨by rfl, ?_⟩) (by assumption) ?_
    rotate_left
    · intro W hSw
      try dsimp only at hSw
      go_simp
      try with_reducible rfl
    try simp only [Act.put, List.setIfInBounds_toArray, List.set_cons_zero, List.set_cons_succ]
    refine wpAnyH_ready (rs := [4]) (by kernel_rfl) (by simp) ?_
    refine AllReadyH.cons (o := { dst := some 57, op := Op.call { callee := Callee.value (Operand.func 90), args := #[Operand.tmp 56], argTypes := #[162] }, type := 3, pos := "open.go:40", after := #[{ on := 3, ground := Ground.data }], guard := none }) rfl (fun K hK => ?_) AllReadyH.nil
    rw [if_pos (by rfl)]
    go_simp
    refine HLf.out.mono ?_
    rintro e wz ⟨rfl, hwz⟩
    subst hwz
    refine hK.out _ _ (by assumption) (fun hHeld1 => ?_)
    clear hK K hHeld0
    try simp only [Act.put, List.setIfInBounds_toArray, List.set_cons_zero, List.set_cons_succ]
    refine wpAnyH_ready (rs := [5]) (by kernel_rfl) (by simp) ?_
    refine AllReadyH.cons (o := { dst := some 58, op := Op.call { callee := Callee.value (Operand.func 89), args := #[Operand.tmp 55, Operand.tmp 57], argTypes := #[162, 3] }, type := 81, pos := "open.go:40", after := #[{ on := 2, ground := Ground.data }, { on := 4, ground := Ground.data }, { on := 4, ground := Ground.chain }], guard := none }) rfl (fun K hK => ?_) AllReadyH.nil
    rw [if_pos (by rfl)]
    go_simp
    refine HBy.out.mono ?_
    rintro e w10 ⟨vE, rfl, hOE, hP10, hh10⟩
    replace HC := hid (bxC_hit HC.out hh10 (by omega))
    replace HD := hid (bxD_hit HD.out hh10 (by omega))
    replace HZ := hid ((hh10.block _ (by omega) (by omega)).trans HZ.out)
    replace HB := hid (below_hit HB.out hh10 (by omega) (Nat.le_refl _))
    replace HNS := hid (set_hit HNS.out hh10 (by omega) (by omega))
    have hs10 := hh10.size
    obtain ⟨aE, cE, eE, nE, hE⟩ := own_low hOE
    subst eE
    have HE := hid hE
    have HCw := hid (HCt.out w10 HNS.out)
    have hcc := HC.out.cells
    have hdd := HD.out.cells
    clear hOE hP10 hh10 hE HBy HLf HP
    refine hK.out _ _ (⟨hcc.1, hcc.2.1, hcc.2.2, hdd.1, hdd.2⟩) (fun hHeld2 => ?_)
    clear hK K hHeld1
    try simp only [Act.put, List.setIfInBounds_toArray, List.set_cons_zero, List.set_cons_succ]
    refine wpAnyH_ready (rs := [8]) (by kernel_rfl) (by simp) ?_
    refine AllReadyH.cons (o := { dst := some 61, op := Op.call { callee := Callee.value (Operand.func 36), args := #[Operand.tmp 60], argTypes := #[26] }, type := 3, pos := "open.go:40", after := #[{ on := 7, ground := Ground.data }, { on := 5, ground := Ground.chain }], guard := none }) rfl (fun K hK => ?_) AllReadyH.nil
    rw [if_pos (by rfl)]
    go_simp
    refine HCw.out.mono ?_
    rintro e wz ⟨rfl, hwz⟩
    subst hwz
    refine hK.out _ _ (by assumption) (fun hHeld3 => ?_)
    clear hK K hHeld2
    try simp only [Act.put, List.setIfInBounds_toArray, List.set_cons_zero, List.set_cons_succ]
    refine wpAnyH_take (i := 9) (oi := { dst := some 62, op := Op.binOp BinOp.sub 3 (Operand.tmp 59) (Operand.tmp 61) 3, type := 3, pos := "open.go:40", after := #[{ on := 6, ground := Ground.data }, { on := 8, ground := Ground.data }], guard := none }) (v := ?_) rfl (by kernel_rfl) (by kernel_rfl) (by kernel_rfl) (fun _ _ _ h => h) (Or.inl ⟨by rfl, ?_⟩) (by assumption) ?_
    rotate_left
    · intro W hSw
      try dsimp only at hSw
      go_simp
      try with_reducible rfl
    try simp only [Act.put, List.setIfInBounds_toArray, List.set_cons_zero, List.set_cons_succ]
    refine wpAnyH_ready (rs := [10]) (by kernel_rfl) (by simp) ?_
    refine AllReadyH.cons (o := { dst := some 63, op := Op.call { callee := Callee.value (Operand.func 88), args := #[Operand.tmp 53, Operand.tmp 54, Operand.tmp 58, Operand.tmp 62], argTypes := #[23, 25, 81, 3] }, type := 168, pos := "open.go:40", after := #[{ on := 0, ground := Ground.data }, { on := 1, ground := Ground.data }, { on := 5, ground := Ground.data }, { on := 9, ground := Ground.data }, { on := 8, ground := Ground.chain }], guard := none }) rfl (fun K hK => ?_) AllReadyH.nil
    rw [if_pos (by rfl)]
    go_simp
    have HBd := hid (readBody_runs nm nb aE E cE kk wz HE.out nE HF7.out HF8.out (by omega) (by omega))
    rw [HF9.out] at HBd
    unfold cv dv at HBd
    dsimp only at HBd
    refine HBd.out.mono ?_
    rintro e w11 ⟨vR, rfl, hOR, b11⟩
    replace HC := hid (HC.out.later b11)
    replace HD := hid (HD.out.later b11)
    replace HZ := hid ((b11.block _ (by omega)).trans HZ.out)
    replace HB := hid (below_up HB.out b11)
    replace HNS := hid (set_later HNS.out b11)
    have HOR := hid hOR
    have hcc2 := HC.out.cells
    have hdd2 := HD.out.cells
    clear hcc hdd hOR b11 HBd HE HCw
    refine hK.out _ _ (⟨hcc2.1, hcc2.2.1, hcc2.2.2, hdd2.1, hdd2.2⟩) (fun hHeld4 => ?_)
    clear hK K hHeld3
    try simp only [Act.put, List.setIfInBounds_toArray, List.set_cons_zero, List.set_cons_succ]
    refine wpAnyH_take (i := 11) (oi := { dst := some 52, op := Op.move (Operand.tmp 63), type := 168, pos := "open.go:40", after := #[{ on := 10, ground := Ground.data }], guard := none }) (v := ?_) rfl (by kernel_rfl) (by kernel_rfl) (by kernel_rfl) (fun _ _ _ h => h) (Or.inl ⟨by rfl, ?_⟩) (by assumption) ?_
    rotate_left
    · intro W hSw
      try dsimp only at hSw
      go_simp
      try with_reducible rfl
    try simp only [Act.put, List.setIfInBounds_toArray, List.set_cons_zero, List.set_cons_succ]
    refine wpAnyH_take (i := 12) (oi := { dst := some 64, op := Op.extract (Operand.tmp 52) 0, type := 28, pos := "open.go:40", after := #[{ on := 11, ground := Ground.data }], guard := none }) (v := ?_) rfl (by kernel_rfl) (by kernel_rfl) (by kernel_rfl) (fun _ _ _ h => h) (Or.inl ⟨by rfl, ?_⟩) (by assumption) ?_
    rotate_left
    · intro W hSw
      try dsimp only at hSw
      go_simp
      try with_reducible rfl
    try simp only [Act.put, List.setIfInBounds_toArray, List.set_cons_zero, List.set_cons_succ]
    refine wpAnyH_take (i := 13) (oi := { dst := some 65, op := Op.extract (Operand.tmp 52) 1, type := 39, pos := "open.go:40", after := #[{ on := 11, ground := Ground.data }, { on := 14, ground := Ground.gcOnly Departure.lateStores }], guard := none }) (v := ?_) rfl (by kernel_rfl) (by kernel_rfl) (by kernel_rfl) (fun _ _ _ h => h) (Or.inl ⟨by rfl, ?_⟩) (by assumption) ?_
    rotate_left
    · intro W hSw
      try dsimp only at hSw
      go_simp
      try with_reducible rfl
    try simp only [Act.put, List.setIfInBounds_toArray, List.set_cons_zero, List.set_cons_succ]
    refine wpAnyH_take (i := 14) (oi := { dst := some 14, op := Op.assign (Operand.tmp 64), type := 28, pos := "open.go:40", after := #[{ on := 12, ground := Ground.data }, { on := 10, ground := Ground.chain }, { on := 0, ground := Ground.phase }, { on := 1, ground := Ground.phase }, { on := 2, ground := Ground.phase }, { on := 3, ground := Ground.phase }, { on := 4, ground := Ground.phase }, { on := 5, ground := Ground.phase }, { on := 6, ground := Ground.phase }, { on := 7, ground := Ground.phase }, { on := 8, ground := Ground.phase }, { on := 9, ground := Ground.phase }, { on := 10, ground := Ground.phase }, { on := 11, ground := Ground.phase }, { on := 12, ground := Ground.phase }, { on := 13, ground := Ground.textOnly Departure.lateStores }], guard := none }) (v := ?_) rfl (by kernel_rfl) (by kernel_rfl) (by kernel_rfl) (fun _ _ _ h => h) (Or.inl ⟨by rfl, ?_⟩) (by assumption) ?_
    rotate_left
    · intro W hSw
      try dsimp only at hSw
      go_simp
      try with_reducible rfl
    try simp only [Act.put, List.setIfInBounds_toArray, List.set_cons_zero, List.set_cons_succ]
    refine wpAnyH_take (i := 15) (oi := { dst := some 15, op := Op.assign (Operand.tmp 65), type := 39, pos := "open.go:40", after := #[{ on := 13, ground := Ground.data }, { on := 14, ground := Ground.chain }, { on := 0, ground := Ground.phase }, { on := 1, ground := Ground.phase }, { on := 2, ground := Ground.phase }, { on := 3, ground := Ground.phase }, { on := 4, ground := Ground.phase }, { on := 5, ground := Ground.phase }, { on := 6, ground := Ground.phase }, { on := 7, ground := Ground.phase }, { on := 8, ground := Ground.phase }, { on := 9, ground := Ground.phase }, { on := 10, ground := Ground.phase }, { on := 11, ground := Ground.phase }, { on := 12, ground := Ground.phase }, { on := 13, ground := Ground.phase }, { on := 14, ground := Ground.phase }], guard := none }) (v := ?_) rfl (by kernel_rfl) (by kernel_rfl) (by kernel_rfl) (fun _ _ _ h => h) (Or.inl ⟨by rfl, ?_⟩) (by assumption) ?_
    rotate_left
    · intro W hSw
      try dsimp only at hSw
      go_simp
      try with_reducible rfl
    try simp only [Act.put, List.setIfInBounds_toArray, List.set_cons_zero, List.set_cons_succ]
    refine wpAnyH_done (by kernel_rfl) ?_ _
    refine NoPanic.normal ?_
    clear hHeld4
    obtain ⟨k0, k1, k2⟩ := HC.out.cells
    obtain ⟨d0, d1⟩ := HD.out.cells
    dsimp only at k0 k1 k2
    obtain ⟨z0, z1, z2, z3, z4, z5, z6, zf⟩ := zc_cells HZ.out
    have zf0 := zf 0
    have zf1 := zf 1
    have zf2 := zf 2
    have zf3 := zf 3
    have zf4 := zf 4
    have zf5 := zf 5
    have zf6 := zf 6
    clear zf hcc2 hdd2
    have HR := hid (ch_cells (set7_at HZ.out (.string nm) (.int .i64 1) (.bool nb) (.int .i64 3) (.int .i64 0) (.pointer (some ⟨d, 0, none⟩)) (.iface 106 (.agg #[vR]))))
    have HE1 : Hid (Bt.NewSet (set7 w11 (w.heap.size + 1) (.string nm) (.int .i64 1) (.bool nb) (.int .i64 3) (.int .i64 0) (.pointer (some ⟨d, 0, none⟩)) (.iface 106 (.agg #[vR]))) d gw n (Bt.packF n (Pk.bitB (ofL L)))) := ⟨(set7_heap _ _ _ _ _ _ _ _ _ (by omega)).trans HNS.out.1, (set7_heap _ _ _ _ _ _ _ _ _ (by omega)).trans HNS.out.2⟩
    have HE2 : Hid (OwnRInt (set7 w11 (w.heap.size + 1) (.string nm) (.int .i64 1) (.bool nb) (.int .i64 3) (.int .i64 0) (.pointer (some ⟨d, 0, none⟩)) (.iface 106 (.agg #[vR]))) w.heap.size vR R) := (HOR.out.kept fun j hj => set7_heap _ _ _ _ _ _ _ _ _ (by have := (HOR.out.lt j hj).1; omega)).low (by omega)
    have HE3 := hid (set7_below HB.out (g := w.heap.size + 1) (by omega) (.string nm) (.int .i64 1) (.bool nb) (.int .i64 3) (.int .i64 0) (.pointer (some ⟨d, 0, none⟩)) (.iface 106 (.agg #[vR])))
    unfold set7 at HR HE1 HE2 HE3
    clear HC HD HZ HNS HB HOR
    go_wp2_with fail
    obtain ⟨y0, y1, y2, y3, y4, y5, y6⟩ := HR.out
    refine bodyPost_ret (v := .tuple #[.agg #[.string nm, .int .i64 1, .bool nb, .int .i64 3, .int .i64 0, .pointer (some ⟨d, 0, none⟩), .iface 106 (.agg #[vR])], .bool true]) (by simp [results, Tryz.results40, go_sem, y0, y1, y2, y3, y4, y5, y6]) rfl ?_
    exact ⟨d, gw, vR, rfl, by omega, by omega, HE1.out, HE2.out, HE3.out⟩
  · have hqz : (0 : Int) < (q : Int) := by omega
    obtain rfl : nb = true := hnl.resolve_left hq0
    clear hq0
    go_wp2_with fail
    refine wp_region_noPanic ?_
    refine wp_region_held_drew (S := fun W => W.cell? ⟨w.heap.size, 0, none⟩ = some (.string nm) ∧ W.cell? ⟨w.heap.size, 1, none⟩ = some (.int .i64 1) ∧ W.cell? ⟨w.heap.size, 2, none⟩ = some (.bool true) ∧ W.cell? ⟨w5.heap.size, 0, none⟩ = some (.int .i64 3) ∧ W.cell? ⟨w5.heap.size, 1, none⟩ = some (.int .i64 0)) (by kernel_rfl) (⟨by simpa using k0, by simpa using k1, by simpa using k2, by simpa using d0, by simpa using d1⟩) (fun hHeld0 => ?_)
    obtain ⟨w9, hw9⟩ : ∃ w9, w8'.drew = w9 := ⟨_, rfl⟩
    have b9 : Below w8'.heap.size w8' w9 := by rw [← hw9]; exact drewN_below w8' 1
    rw [hw9]
    rw [hw9] at hHeld0
    replace HC := hid (HC.out.later b9)
    replace HD := hid (HD.out.later b9)
    replace HP := hid (HP.out.later b9)
    replace HZ := hid ((b9.block _ (by omega)).trans HZ.out)
    replace HB := hid (below_up HB.out b9)
    replace HNS := hid (set_later HNS.out b9)
    have hs9 := b9.size
    have HLf := hid (pLeft HP.out)
    have HBy := hid (pBytes HP.out ((Rd.left r3 : Nat) : Int) (by omega) (by omega))
    rw [HF6.out] at HBy
    dsimp only at HBy
    clear b9 hw9 d0 d1 k0 k1 k2 HCw
    refine wpAnyH_take (i := 0) (oi := { dst := some 53, op := Op.load 23 (Operand.tmp 3), type := 23, pos := "open.go:40", after := #[], guard := none }) (v := ?_) rfl (by kernel_rfl) (by kernel_rfl) (by kernel_rfl) (fun _ _ _ h => h) (Or.inl ⟨by rfl, ?_⟩) (by assumption) ?_
    rotate_left
    · intro W hSw
      try dsimp only at hSw
      go_simp
      try with_reducible rfl
    try simp only [Act.put, List.setIfInBounds_toArray, List.set_cons_zero, List.set_cons_succ]
    refine wpAnyH_take (i := 1) (oi := { dst := some 54, op := Op.load 25 (Operand.tmp 11), type := 25, pos := "open.go:40", after := #[], guard := none }) (v := ?_) rfl (by kernel_rfl) (by kernel_rfl) (by kernel_rfl) (fun _ _ _ h => h) (Or.inl ⟨by rfl, ?_⟩) (by assumption) ?_
    rotate_left
    · intro W hSw
      try dsimp only at hSw
      go_simp
      try with_reducible rfl
    try simp only [Act.put, List.setIfInBounds_toArray, List.set_cons_zero, List.set_cons_succ]
    refine wpAnyH_take (i := 2) (oi := { dst := some 55, op := Op.move (Operand.tmp 8), type := 162, pos := "open.go:40", after := #[], guard := none }) (v := ?_) rfl (by kernel_rfl) (by kernel_rfl) (by kernel_rfl) (fun _ _ _ h => h) (Or.inl ⟨by rfl, ?_⟩) (by assumption) ?_
    rotate_left
    · intro W hSw
      try dsimp only at hSw
      go_simp
      try with_reducible rfl
    try simp only [Act.put, List.setIfInBounds_toArray, List.set_cons_zero, List.set_cons_succ]
    refine wpAnyH_take (i := 3) (oi := { dst := some 56, op := Op.move (Operand.tmp 8), type := 162, pos := "open.go:40", after := #[], guard := none }) (v := ?_) rfl (by kernel_rfl) (by kernel_rfl) (by kernel_rfl) (fun _ _ _ h => h) (Or.inl ⟨by rfl, ?_⟩) (by assumption) ?_
    rotate_left
    · intro W hSw
      try dsimp only at hSw
      go_simp
      try with_reducible rfl
    try simp only [Act.put, List.setIfInBounds_toArray, List.set_cons_zero, List.set_cons_succ]
    refine wpAnyH_take (i := 6) (oi := { dst := some 59, op := Op.move (Operand.tmp 1), type := 3, pos := "open.go:40", after := #[], guard := none }) (v := ?_) rfl (by kernel_rfl) (by kernel_rfl) (by kernel_rfl) (fun _ _ _ h => h) (Or.inl ⟨by rfl, ?_⟩) (by assumption) ?_
    rotate_left
    · intro W hSw
      try dsimp only at hSw
      go_simp
      try with_reducible rfl
    try simp only [Act.put, List.setIfInBounds_toArray, List.set_cons_zero, List.set_cons_succ]
    refine wpAnyH_take (i := 7) (oi := { dst := some 60, op := Op.move (Operand.tmp 12), type := 26, pos := "open.go:40", after := #[], guard := none }) (v := ?_) rfl (by kernel_rfl) (by kernel_rfl) (by kernel_rfl) (fun _ _ _ h => h) (Or.inl ⟨by rfl, ?_⟩) (by assumption) ?_
    rotate_left
    · intro W hSw
      try dsimp only at hSw
      go_simp
      try with_reducible rfl
    try simp only [Act.put, List.setIfInBounds_toArray, List.set_cons_zero, List.set_cons_succ]
    refine wpAnyH_ready (rs := [4]) (by kernel_rfl) (by simp) ?_
    refine AllReadyH.cons (o := { dst := some 57, op := Op.call { callee := Callee.value (Operand.func 90), args := #[Operand.tmp 56], argTypes := #[162] }, type := 3, pos := "open.go:40", after := #[{ on := 3, ground := Ground.data }], guard := none }) rfl (fun K hK => ?_) AllReadyH.nil
    rw [if_pos (by rfl)]
    go_simp
    refine HLf.out.mono ?_
    rintro e wz ⟨rfl, hwz⟩
    subst hwz
    refine hK.out _ _ (by assumption) (fun hHeld1 => ?_)
    clear hK K hHeld0
    try simp only [Act.put, List.setIfInBounds_toArray, List.set_cons_zero, List.set_cons_succ]
    refine wpAnyH_ready (rs := [5]) (by kernel_rfl) (by simp) ?_
    refine AllReadyH.cons (o := { dst := some 58, op := Op.call { callee := Callee.value (Operand.func 89), args := #[Operand.tmp 55, Operand.tmp 57], argTypes := #[162, 3] }, type := 81, pos := "open.go:40", after := #[{ on := 2, ground := Ground.data }, { on := 4, ground := Ground.data }, { on := 4, ground := Ground.chain }], guard := none }) rfl (fun K hK => ?_) AllReadyH.nil
    rw [if_pos (by rfl)]
    go_simp
    refine HBy.out.mono ?_
    rintro e w10 ⟨vE, rfl, hOE, hP10, hh10⟩
    replace HC := hid (bxC_hit HC.out hh10 (by omega))
    replace HD := hid (bxD_hit HD.out hh10 (by omega))
    replace HZ := hid ((hh10.block _ (by omega) (by omega)).trans HZ.out)
    replace HB := hid (below_hit HB.out hh10 (by omega) (Nat.le_refl _))
    replace HNS := hid (set_hit HNS.out hh10 (by omega) (by omega))
    have hs10 := hh10.size
    obtain ⟨aE, cE, eE, nE, hE⟩ := own_low hOE
    subst eE
    have HE := hid hE
    have HCw := hid (HCt.out w10 HNS.out)
    have hcc := HC.out.cells
    have hdd := HD.out.cells
    clear hOE hP10 hh10 hE HBy HLf HP
    refine hK.out _ _ (⟨hcc.1, hcc.2.1, hcc.2.2, hdd.1, hdd.2⟩) (fun hHeld2 => ?_)
    clear hK K hHeld1
    try simp only [Act.put, List.setIfInBounds_toArray, List.set_cons_zero, List.set_cons_succ]
    refine wpAnyH_ready (rs := [8]) (by kernel_rfl) (by simp) ?_
    refine AllReadyH.cons (o := { dst := some 61, op := Op.call { callee := Callee.value (Operand.func 36), args := #[Operand.tmp 60], argTypes := #[26] }, type := 3, pos := "open.go:40", after := #[{ on := 7, ground := Ground.data }, { on := 5, ground := Ground.chain }], guard := none }) rfl (fun K hK => ?_) AllReadyH.nil
    rw [if_pos (by rfl)]
    go_simp
    refine HCw.out.mono ?_
    rintro e wz ⟨rfl, hwz⟩
    subst hwz
    refine hK.out _ _ (by assumption) (fun hHeld3 => ?_)
    clear hK K hHeld2
    try simp only [Act.put, List.setIfInBounds_toArray, List.set_cons_zero, List.set_cons_succ]
    refine wpAnyH_take (i := 9) (oi := { dst := some 62, op := Op.binOp BinOp.sub 3 (Operand.tmp 59) (Operand.tmp 61) 3, type := 3, pos := "open.go:40", after := #[{ on := 6, ground := Ground.data }, { on := 8, ground := Ground.data }], guard := none }) (v := ?_) rfl (by kernel_rfl) (by kernel_rfl) (by kernel_rfl) (fun _ _ _ h => h) (Or.inl ⟨by rfl, ?_⟩) (by assumption) ?_
    rotate_left
    · intro W hSw
      try dsimp only at hSw
      go_simp
      try with_reducible rfl
    try simp only [Act.put, List.setIfInBounds_toArray, List.set_cons_zero, List.set_cons_succ]
    refine wpAnyH_ready (rs := [10]) (by kernel_rfl) (by simp) ?_
    refine AllReadyH.cons (o := { dst := some 63, op := Op.call { callee := Callee.value (Operand.func 88), args := #[Operand.tmp 53, Operand.tmp 54, Operand.tmp 58, Operand.tmp 62], argTypes := #[23, 25, 81, 3] }, type := 168, pos := "open.go:40", after := #[{ on := 0, ground := Ground.data }, { on := 1, ground := Ground.data }, { on := 5, ground := Ground.data }, { on := 9, ground := Ground.data }, { on := 8, ground := Ground.chain }], guard := none }) rfl (fun K hK => ?_) AllReadyH.nil
    rw [if_pos (by rfl)]
    go_simp
    have HBd := hid (readBody_runs nm true aE E cE kk wz HE.out nE HF7.out HF8.out (by omega) (by omega))
    rw [HF9.out] at HBd
    unfold cv dv at HBd
    dsimp only at HBd
    refine HBd.out.mono ?_
    rintro e w11 ⟨vR, rfl, hOR, b11⟩
    replace HC := hid (HC.out.later b11)
    replace HD := hid (HD.out.later b11)
    replace HZ := hid ((b11.block _ (by omega)).trans HZ.out)
    replace HB := hid (below_up HB.out b11)
    replace HNS := hid (set_later HNS.out b11)
    have HOR := hid hOR
    have hcc2 := HC.out.cells
    have hdd2 := HD.out.cells
    clear hcc hdd hOR b11 HBd HE HCw
    refine hK.out _ _ (⟨hcc2.1, hcc2.2.1, hcc2.2.2, hdd2.1, hdd2.2⟩) (fun hHeld4 => ?_)
    clear hK K hHeld3
    try simp only [Act.put, List.setIfInBounds_toArray, List.set_cons_zero, List.set_cons_succ]
    refine wpAnyH_take (i := 11) (oi := { dst := some 52, op := Op.move (Operand.tmp 63), type := 168, pos := "open.go:40", after := #[{ on := 10, ground := Ground.data }], guard := none }) (v := ?_) rfl (by kernel_rfl) (by kernel_rfl) (by kernel_rfl) (fun _ _ _ h => h) (Or.inl ⟨by rfl, ?_⟩) (by assumption) ?_
    rotate_left
    · intro W hSw
      try dsimp only at hSw
      go_simp
      try with_reducible rfl
    try simp only [Act.put, List.setIfInBounds_toArray, List.set_cons_zero, List.set_cons_succ]
    refine wpAnyH_take (i := 12) (oi := { dst := some 64, op := Op.extract (Operand.tmp 52) 0, type := 28, pos := "open.go:40", after := #[{ on := 11, ground := Ground.data }], guard := none }) (v := ?_) rfl (by kernel_rfl) (by kernel_rfl) (by kernel_rfl) (fun _ _ _ h => h) (Or.inl ⟨by rfl, ?_⟩) (by assumption) ?_
    rotate_left
    · intro W hSw
      try dsimp only at hSw
      go_simp
      try with_reducible rfl
    try simp only [Act.put, List.setIfInBounds_toArray, List.set_cons_zero, List.set_cons_succ]
    refine wpAnyH_take (i := 13) (oi := { dst := some 65, op := Op.extract (Operand.tmp 52) 1, type := 39, pos := "open.go:40", after := #[{ on := 11, ground := Ground.data }, { on := 14, ground := Ground.gcOnly Departure.lateStores }], guard := none }) (v := ?_) rfl (by kernel_rfl) (by kernel_rfl) (by kernel_rfl) (fun _ _ _ h => h) (Or.inl ⟨by rfl, ?_⟩) (by assumption) ?_
    rotate_left
    · intro W hSw
      try dsimp only at hSw
      go_simp
      try with_reducible rfl
    try simp only [Act.put, List.setIfInBounds_toArray, List.set_cons_zero, List.set_cons_succ]
    refine wpAnyH_take (i := 14) (oi := { dst := some 14, op := Op.assign (Operand.tmp 64), type := 28, pos := "open.go:40", after := #[{ on := 12, ground := Ground.data }, { on := 10, ground := Ground.chain }, { on := 0, ground := Ground.phase }, { on := 1, ground := Ground.phase }, { on := 2, ground := Ground.phase }, { on := 3, ground := Ground.phase }, { on := 4, ground := Ground.phase }, { on := 5, ground := Ground.phase }, { on := 6, ground := Ground.phase }, { on := 7, ground := Ground.phase }, { on := 8, ground := Ground.phase }, { on := 9, ground := Ground.phase }, { on := 10, ground := Ground.phase }, { on := 11, ground := Ground.phase }, { on := 12, ground := Ground.phase }, { on := 13, ground := Ground.textOnly Departure.lateStores }], guard := none }) (v := ?_) rfl (by kernel_rfl) (by kernel_rfl) (by kernel_rfl) (fun _ _ _ h => h) (Or.inl ⟨by rfl, ?_⟩) (by assumption) ?_
    rotate_left
    · intro W hSw
      try dsimp only at hSw
      go_simp
      try with_reducible rfl
    try simp only [Act.put, List.setIfInBounds_toArray, List.set_cons_zero, List.set_cons_succ]
    refine wpAnyH_take (i := 15) (oi := { dst := some 15, op := Op.assign (Operand.tmp 65), type := 39, pos := "open.go:40", after := #[{ on := 13, ground := Ground.data }, { on := 14, ground := Ground.chain }, { on := 0, ground := Ground.phase }, { on := 1, ground := Ground.phase }, { on := 2, ground := Ground.phase }, { on := 3, ground := Ground.phase }, { on := 4, ground := Ground.phase }, { on := 5, ground := Ground.phase }, { on := 6, ground := Ground.phase }, { on := 7, ground := Ground.phase }, { on := 8, ground := Ground.phase }, { on := 9, ground := Ground.phase }, { on := 10, ground := Ground.phase }, { on := 11, ground := Ground.phase }, { on := 12, ground := Ground.phase }, { on := 13, ground := Ground.phase }, { on := 14, ground := Ground.phase }], guard := none }) (v := ?_) rfl (by kernel_rfl) (by kernel_rfl) (by kernel_rfl) (fun _ _ _ h => h) (Or.inl ⟨by rfl, ?_⟩) (by assumption) ?_
    rotate_left
    · intro W hSw
      try dsimp only at hSw
      go_simp
      try with_reducible rfl
    try simp only [Act.put, List.setIfInBounds_toArray, List.set_cons_zero, List.set_cons_succ]
    refine wpAnyH_done (by kernel_rfl) ?_ _
    refine NoPanic.normal ?_
    clear hHeld4
    obtain ⟨k0, k1, k2⟩ := HC.out.cells
    obtain ⟨d0, d1⟩ := HD.out.cells
    dsimp only at k0 k1 k2
    obtain ⟨z0, z1, z2, z3, z4, z5, z6, zf⟩ := zc_cells HZ.out
    have zf0 := zf 0
    have zf1 := zf 1
    have zf2 := zf 2
    have zf3 := zf 3
    have zf4 := zf 4
    have zf5 := zf 5
    have zf6 := zf 6
    clear zf hcc2 hdd2
    have HR := hid (ch_cells (set7_at HZ.out (.string nm) (.int .i64 1) (.bool true) (.int .i64 3) (.int .i64 0) (.pointer (some ⟨d, 0, none⟩)) (.iface 106 (.agg #[vR]))))
    have HE1 : Hid (Bt.NewSet (set7 w11 (w.heap.size + 1) (.string nm) (.int .i64 1) (.bool true) (.int .i64 3) (.int .i64 0) (.pointer (some ⟨d, 0, none⟩)) (.iface 106 (.agg #[vR]))) d gw n (Bt.packF n (Pk.bitB (ofL L)))) := ⟨(set7_heap _ _ _ _ _ _ _ _ _ (by omega)).trans HNS.out.1, (set7_heap _ _ _ _ _ _ _ _ _ (by omega)).trans HNS.out.2⟩
    have HE2 : Hid (OwnRInt (set7 w11 (w.heap.size + 1) (.string nm) (.int .i64 1) (.bool true) (.int .i64 3) (.int .i64 0) (.pointer (some ⟨d, 0, none⟩)) (.iface 106 (.agg #[vR]))) w.heap.size vR R) := (HOR.out.kept fun j hj => set7_heap _ _ _ _ _ _ _ _ _ (by have := (HOR.out.lt j hj).1; omega)).low (by omega)
    have HE3 := hid (set7_below HB.out (g := w.heap.size + 1) (by omega) (.string nm) (.int .i64 1) (.bool true) (.int .i64 3) (.int .i64 0) (.pointer (some ⟨d, 0, none⟩)) (.iface 106 (.agg #[vR])))
    unfold set7 at HR HE1 HE2 HE3
    clear HC HD HZ HNS HB HOR
    go_wp2_with fail
    obtain ⟨y0, y1, y2, y3, y4, y5, y6⟩ := HR.out
    refine bodyPost_ret (v := .tuple #[.agg #[.string nm, .int .i64 1, .bool true, .int .i64 3, .int .i64 0, .pointer (some ⟨d, 0, none⟩), .iface 106 (.agg #[vR])], .bool true]) (by simp [results, Tryz.results40, go_sem, y0, y1, y2, y3, y4, y5, y6]) rfl ?_
    exact ⟨d, gw, vR, rfl, by omega, by omega, HE1.out, HE2.out, HE3.out⟩
/-- A chunk in memory: of Ints, by Runs. -/
structure ChunkR (w : World) (lo p : Nat) (nm : ByteArray) (nb : Bool) (n : Nat) (f : Nat → Bool) (R : List (Int × Int)) : Prop where
  ex : ∃ d gw v, w.heap[p]? = some (.cells #[.string nm, .int .i64 1, .bool nb, .int .i64 3, .int .i64 0, .pointer (some ⟨d, 0, none⟩), .iface 106 (.agg #[v])] 30 (0, 0)) ∧ lo ≤ d ∧ lo ≤ gw ∧ Bt.NewSet w d gw n (Bt.packF n f) ∧ OwnRInt w lo v R
  le : lo ≤ p
theorem ChunkR.later {w w' : World} {lo p : Nat} {nm : ByteArray} {nb : Bool} {n : Nat} {f : Nat → Bool} {R : List (Int × Int)} (h : ChunkR w lo p nm nb n f R) (hb : Below w.heap.size w w') : ChunkR w' lo p nm nb n f R := by
  obtain ⟨⟨d, gw, v, h1, h2, h3, h4, h5⟩, hle⟩ := h
  exact ⟨⟨d, gw, v, (hb.block p (Array.getElem?_eq_some_iff.1 h1).1).trans h1, h2, h3, set_later h4 hb, h5.later hb⟩, hle⟩
set_option maxRecDepth 4000 in
set_option maxHeartbeats 4000000 in
theorem open_runs (nm : ByteArray) (nb : Bool) (n : Nat) (hn : n ≤ 16777216) (a : Option Addr) (B : List Nat) (c : Nat) (w : World) (hA : Bytes w a B) (ha : a = none → B.length = 0 ∧ c = 0) (hl : ∀ x ∈ B, x < 256) (hBn : B.length + 20 ≤ 140737488355328) {L : List Nat} {q : Nat} {R : List (Int × Int)} (hF : Forms B n nb L q R) :
    Calls Tryz.prog 19 #[cv ⟨nm, 1, nb⟩, .int .i64 (n : Int), .slice a B.length c] w fun e w' => ∃ p, e = .returned (.tuple #[.pointer (some ⟨p, 0, none⟩), .int .i64 0]) ∧ ChunkR w' w.heap.size p nm nb n (Pk.bitB (ofL L)) R ∧ Below w.heap.size w w' := by
  obtain ⟨w1, hw1⟩ : ∃ w1, w.alloc (.cells #[.string nm, .int .i64 1, .bool nb] 23) = w1 := ⟨_, rfl⟩
  have b1 : Below w.heap.size w w1 := by rw [← hw1]; exact below_new _ _
  have hC : BxC w1 w.heap.size ⟨nm, 1, nb⟩ := by rw [← hw1]; exact BxC.new w ⟨nm, 1, nb⟩
  have HC := hid hC
  have HB := hid b1
  have HG := hid (good_any ⟨nm, 1, nb⟩ w1)
  have HRd : Hid (∀ W, Below w.heap.size w W → Calls Tryz.prog 40 #[cv ⟨nm, 1, nb⟩, .int .i64 (n : Int), .slice a B.length c] W fun e w' => ∃ d gw v, e = .returned (.tuple #[.agg #[.string nm, .int .i64 1, .bool nb, .int .i64 3, .int .i64 0, .pointer (some ⟨d, 0, none⟩), .iface 106 (.agg #[v])], .bool true]) ∧
      W.heap.size ≤ d ∧ W.heap.size ≤ gw ∧ Bt.NewSet w' d gw n (Bt.packF n (Pk.bitB (ofL L))) ∧ OwnRInt w' W.heap.size v R ∧ Below W.heap.size W w') := fun W hW => read_runs nm nb n hn a B c W (hA.later hW) ha hl hBn hF
  rw [show goodB (C.mk nm 1 nb).T = true from rfl] at HG
  obtain ⟨k0, k1, k2⟩ := hC.cells
  clear hC b1 hA hF
  unfold cv at *
  dsimp only at *
  have hn0 : ¬ (n : Int) < 0 := by omega
  have hn1 : ¬ (16777216 : Int) < (n : Int) := by omega
  go_enter Tryz.func19, Tryz.ntmps19
  go_wp2_with fail
  refine HG.out.mono ?_
  rintro e w2 ⟨rfl, b2⟩
  replace HC := hid (HC.out.later b2)
  replace HB := hid (below_up HB.out b2)
  clear b2 HG k0 k1 k2 hw1
  obtain ⟨k0, k1, k2⟩ := HC.out.cells
  dsimp only at k0 k1 k2
  go_wp2_with fail
  refine (HRd.out w2 HB.out).mono ?_
  rintro e w3 ⟨d, gw, v, rfl, hd, hgw, hNS, hO, b3⟩
  have hs2 := HB.out.size
  have hs3 := b3.size
  replace HB := hid (below_up HB.out b3)
  obtain ⟨w4, hw4⟩ : ∃ w4, w3.alloc (.cells #[.string nm, .int .i64 1, .bool nb, .int .i64 3, .int .i64 0, .pointer (some ⟨d, 0, none⟩), .iface 106 (.agg #[v])] 30) = w4 := ⟨_, rfl⟩
  have b4 : Below w3.heap.size w3 w4 := by rw [← hw4]; exact below_new _ _
  have h4 : w4.heap[w3.heap.size]? = some (.cells #[.string nm, .int .i64 1, .bool nb, .int .i64 3, .int .i64 0, .pointer (some ⟨d, 0, none⟩), .iface 106 (.agg #[v])] 30 (0, 0)) := by rw [← hw4]; exact World.alloc_heap_new w3 _
  have HCh : Hid (ChunkR w4 w.heap.size w3.heap.size nm nb n (Pk.bitB (ofL L)) R) := ⟨⟨d, gw, v, h4, by omega, by omega, set_later hNS b4, (hO.later b4).low (by omega)⟩, by omega⟩
  replace HB := hid (below_up HB.out b4)
  have HW4 := hid hw4
  clear hNS hO b3 b4 h4 hw4 HRd HC k0 k1 k2
  go_wp2_with fail
  rw [HW4.out]
  go_ret2
  exact ⟨w3.heap.size, rfl, HCh.out, HB.out⟩
end Go.Proofs.YtlidolocibfbgaaGreatDoor.Ck
