/-
  takeColumn, Take.
-/
import Derived.Test.YtllnknjmfffnbaaYPut
namespace Go.Proofs.Ytllnknjmfffnbaa
open Go.ChangeShapes Go.WideShapes Go.ChangeAt Go.RowKit Cu

def Bx (w : World) (g : Nat) (arr : Array Value) (t : TypeId) : Prop := w.heap[g]? = some (.cells arr t (0, 0))
theorem Bx.lt {w : World} {g : Nat} {arr : Array Value} {t : TypeId} (h : Bx w g arr t) : g < w.heap.size := (Array.getElem?_eq_some_iff.1 h).1
theorem Bx.kept {w w' : World} {g : Nat} {arr : Array Value} {t : TypeId} (h : Bx w g arr t) (hb : w'.heap[g]? = w.heap[g]?) : Bx w' g arr t := hb.trans h
theorem Bx.later {w w' : World} {g : Nat} {arr : Array Value} {t : TypeId} (h : Bx w g arr t) (hb : Below w.heap.size w w') : Bx w' g arr t := h.kept (hb.block g h.lt)
theorem Bx.new (w : World) (arr : Array Value) (t : TypeId) : Bx (w.alloc (.cells arr t)) w.heap.size arr t := heap_alloc_new w _
theorem Bx.frz {w : World} {g : Nat} {arr : Array Value} {t : TypeId} (h : Bx w g arr t) (j : Nat) : w.frozen? ⟨g, j, none⟩ = false := by
  have h' : w.heap[g]? = some (.cells arr t (0, 0)) := h
  simp [World.frozen?, h']
theorem cell_of {w : World} {g i : Nat} {arr : Array Value} {t : TypeId} {v : Value} (h : Bx w g arr t) (hi : arr[i]? = some v) : w.cell? ⟨g, i, none⟩ = some v := by
  have h' : w.heap[g]? = some (.cells arr t (0, 0)) := h
  simp [World.cell?, h', hi]
theorem Bx.hit {w w' : World} {g g' : Nat} {arr : Array Value} {t : TypeId} (h : Bx w g' arr t) (hh : Hit g w w') (hg : g' ≠ g) : Bx w' g' arr t := h.kept (hh.block g' h.lt hg)
theorem Bx.col {w : World} {g : Nat} {c : Col} {t : TypeId} (h : Bx w g (ca c) t) : w.cell? ⟨g, 0, none⟩ = some (.string c.nm) ∧ w.cell? ⟨g, 1, none⟩ = some (.int .i64 c.T) ∧ w.cell? ⟨g, 2, none⟩ = some (.bool c.nb) :=
  ⟨cell_of h rfl, cell_of h rfl, cell_of h rfl⟩
theorem Bx.set {w : World} {g i : Nat} {arr : Array Value} {t : TypeId} (h : Bx w g arr t) (u : Value) : Bx (w.setCell ⟨g, i, none⟩ u) g (arr.setIfInBounds i u) t := by
  have h' : w.heap[g]? = some (.cells arr t (0, 0)) := h
  unfold Bx
  simp only [World.setCell, Array.getElem?_modify]
  simp [h']
def putC (w : World) (g : Nat) (c : Col) : World := ((w.setCell ⟨g, 0, none⟩ (.string c.nm)).setCell ⟨g, 1, none⟩ (.int .i64 c.T)).setCell ⟨g, 2, none⟩ (.bool c.nb)
theorem Bx.put {w : World} {g : Nat} {c0 : Col} {t : TypeId} (h : Bx w g (ca c0) t) (c : Col) : Bx (putC w g c) g (ca c) t := ((h.set (i := 0) _).set (i := 1) _).set (i := 2) _
theorem Hit.set {g : Nat} {w a : World} (h : Hit g w a) {g' : Nat} (hg : w.heap.size ≤ g') (i : Nat) (u : Value) : Hit g w (a.setCell ⟨g', i, none⟩ u) :=
  ⟨h.os, h.tape, h.output, by simpa using h.size, fun j hj hne => (Below.heap_setCell _ _ _ _ (show j ≠ g' by omega)).trans (h.block j hj hne)⟩
theorem ProgRd.set {w : World} {lo hi g : Nat} {r : Rd} (h : ProgRd w lo hi g r) {g' : Nat} (hg : hi ≤ g') (i : Nat) (u : Value) : ProgRd (w.setCell ⟨g', i, none⟩ u) lo hi g r :=
  h.stay (fun j _ hj => Below.heap_setCell _ _ _ _ (show j ≠ g' by omega)) (by simp)
theorem Hit.put {g : Nat} {w a : World} (h : Hit g w a) {g' : Nat} (hg : w.heap.size ≤ g') (c : Col) : Hit g w (putC a g' c) := ((h.set hg 0 _).set hg 1 _).set hg 2 _
theorem ProgRd.put {w : World} {lo hi g : Nat} {r : Rd} (h : ProgRd w lo hi g r) {g' : Nat} (hg : hi ≤ g') (c : Col) : ProgRd (putC w g' c) lo hi g r := ((h.set hg 0 _).set hg 1 _).set hg 2 _
def c0 : Col := ⟨⟨#[]⟩, 0, false⟩
theorem bits_mark : ∀ m : Fin 256, bits BinOp.andNot IntKind.u8 (m.1 : Int) 4 = ((m.1 &&& 251 : Nat) : Int) ∧ bits BinOp.and IntKind.u8 (m.1 : Int) 4 = ((m.1 &&& 4 : Nat) : Int) := by decide +kernel
theorem fix_top {r : Rd} (h : r.Ok) (k : Nat) : (r.fix k).1 < 256 ^ k := by
  by_cases he : (r.fix k).2.e = 0
  · exact (fix_took h k he).2
  · have h0 : 0 < 256 ^ k := Nat.pow_pos (by omega)
    unfold Rd.fix at he ⊢
    split
    · exact h0
    · split
      · exact h0
      · rename_i h1 h2
        rw [if_neg h1, if_neg h2] at he
        exact absurd (show (r.on k).e = 0 by rw [Rd.on_e]; simpa using h1) he
set_option maxRecDepth 4000 in
set_option maxHeartbeats 4000000 in
theorem takeC_any {w : World} {lo hi g : Nat} {r : Rd} (h : ProgRd w lo hi g r) : Calls Try.prog 28 #[.pointer (some ⟨g, 0, none⟩)] w fun e w' => e = .returned (cv (takeC r).1) ∧ ProgRd w' lo hi g (takeC r).2 ∧ Hit g w w' := by
  obtain ⟨W, hW⟩ : ∃ W, w.alloc (.cells (ca c0) 25) = W := ⟨_, rfl⟩
  have hB : Below w.heap.size w W := by rw [← hW]; exact below_new _ _
  have hWs : W.heap.size = w.heap.size + 1 := by rw [← hW]; simp
  have xr : Bx W w.heap.size (ca c0) 25 := by rw [← hW]; exact Bx.new _ _ _
  have hP := h.later hB
  have hgh := h.ghi
  have htop := h.top
  have Xr := hid xr
  have HH := hid (hit_of_below (g := g) hB)
  have HW := hid hW
  have hres : Try.f28.results = #[.cell 2 25] := by kernel_rfl
  have HRES := hid hres
  have HV := hid (pBlock hP 64 (by omega) (by omega))
  have HWS := hid hWs
  have HT : Hid (takeC r = (⟨strL (r.block 64).1, ((((r.block 64).2.fix 1).1 &&& 251 : Nat) : Int), decide ((((r.block 64).2.fix 1).1 &&& 4) ≠ 0)⟩, ((r.block 64).2.fix 1).2)) := rfl
  clear h hW xr hB hP hres hWs
  generalize (r.block 64).1 = u at *
  generalize (r.block 64).2 = r2 at *
  unfold ca c0 at HW
  dsimp only at *
  go_enter Try.func28, Try.ntmps28
  go_wp2_with fail
  rw [HW.out]
  refine HV.out.mono ?_
  rintro e w1 ⟨v1, rfl, hO1, hP1, hH1⟩
  have HM := hid (pTake_uint8 hP1)
  have hOk := hP1.ok
  replace Xr := hid (Xr.out.hit hH1 (show w.heap.size ≠ g by omega))
  replace HH := hid (HH.out.trans hH1)
  have HO := hid hO1
  clear hP1 hH1 HV hO1
  have hml := fix_top hOk 1
  clear hOk
  generalize hm : (r2.fix 1).1 = m at *
  generalize (r2.fix 1).2 = r3 at *
  clear hm
  obtain ⟨hbA, hbB⟩ := bits_mark ⟨m, hml⟩
  have hAl : m &&& 251 ≤ 251 := Nat.and_le_right
  have hq : (((m &&& 4 : Nat) : Int) != 0) = decide (m &&& 4 ≠ 0) := by
    rw [Bool.eq_iff_iff]; simp only [bne_iff_ne, ne_eq, decide_eq_true_eq]; omega
  dsimp only at hbA hbB
  generalize m &&& 251 = A at *
  generalize decide (m &&& 4 ≠ 0) = q at *
  have HBA := hid hbA
  have HBB : Hid ((bits BinOp.and IntKind.u8 (m : Int) 4 != 0) = q) := by rw [hbB]; exact hq
  clear hbA hbB hq
  go_wp2_with fail
  refine HM.out.mono ?_
  rintro e w2 ⟨rfl, hP2, hH2⟩
  have hO2 := own_hit HO.out (show g < W.heap.size by rw [HWS.out]; omega) hH2
  obtain ⟨a1, d1, rfl, _, _, hnil⟩ := hO2.form
  have hbs : Bytes w2 a1 u := hO2.nums
  have hrs := run_strL d1 hbs
  replace Xr := hid (Xr.out.hit hH2 (show w.heap.size ≠ g by omega))
  have P := hid hP2
  replace HH := hid (HH.out.trans hH2)
  clear hP2 hH2 HM hO2 hbs hnil HO
  obtain ⟨q0, q1, q2⟩ := Xr.out.col
  have fr := Xr.out.frz
  unfold c0 at q0 q1 q2
  dsimp only at q0 q1 q2
  have hbA := HBA.out
  have hbB := HBB.out
  have hwA : IntKind.i64.wrap (A : Int) = (A : Int) := by rw [IntKind.wrap_i64]; omega
  generalize hus : strL u = us at *
  clear hus
  go_wp2_with fail
  clear q0 q1 q2 fr hbA hbB hwA
  have Y := (Xr.out.put ⟨us, (A : Int), q⟩).col
  have YP := hid (P.out.put (show hi ≤ w.heap.size by omega) ⟨us, (A : Int), q⟩)
  have YH := hid (HH.out.put (Nat.le_refl w.heap.size) ⟨us, (A : Int), q⟩)
  unfold putC at Y YP YH
  dsimp only at Y YP YH
  generalize World.setCell _ _ _ = w9 at *
  obtain ⟨y0, y1, y2⟩ := Y
  refine bodyPost_ret (v := .agg #[.string us, .int .i64 (A : Int), .bool q]) ?_ rfl ⟨by rw [HT.out]; rfl, by rw [HT.out]; exact YP.out, YH.out⟩
  simp only [results, HRES.out]
  go_simp
/-! ### Take -/
def endE (r : Rd) : Int := if r.e = 0 ∧ r.at' < r.l.length then 72 else (r.e : Int)
def tkN (b : List Nat) : Nat := (Rd.mk b 0 0).uv.1
def tkC (b : List Nat) : List Col × Rd := takeCs (tkN b) (Rd.mk b 0 0).uv.2
def tkOk (b : List Nat) : Bool := decide (tkN b ≤ 256) && decide (endE (tkC b).2 = 0) && chkB (tkC b).1
def tkE (b : List Nat) : Int := if tkOk b = true then 0 else 150
def tkR (b : List Nat) : List Col := if tkOk b = true then (tkC b).1 else []
theorem takeCs_len : ∀ (k : Nat) (r : Rd), (takeCs k r).1.length = k
  | 0, _ => rfl
  | k + 1, r => by simp [takeCs, takeCs_len k]
/-- The columns that were taken first, and the reader then. -/
def tkAt (b : List Nat) : Nat → List Col × Rd
  | 0 => ([], (Rd.mk b 0 0).uv.2)
  | k + 1 => ((tkAt b k).1 ++ [(takeC (tkAt b k).2).1], (takeC (tkAt b k).2).2)
theorem takeCs_snoc : ∀ (k : Nat) (r : Rd), takeCs (k + 1) r = ((takeCs k r).1 ++ [(takeC (takeCs k r).2).1], (takeC (takeCs k r).2).2)
  | 0, r => rfl
  | k + 1, r => by
    rw [takeCs, takeCs_snoc k (takeC r).2]
    rfl
theorem tkAt_eq (b : List Nat) : ∀ k, tkAt b k = takeCs k (Rd.mk b 0 0).uv.2
  | 0 => rfl
  | k + 1 => by rw [takeCs_snoc, ← tkAt_eq b k]; rfl
theorem tkAt_len (b : List Nat) (k : Nat) : (tkAt b k).1.length = k := by rw [tkAt_eq, takeCs_len]
theorem aw_hit {w a b : World} {g : Nat} (h : Below w.heap.size w a) (k : Hit g a b) (hg : w.heap.size ≤ g) : Below w.heap.size w b :=
  ⟨k.os.trans h.os, k.tape.trans h.tape, k.output.trans h.output, Nat.le_trans h.size k.size, fun j hj => (k.block j (Nat.lt_of_lt_of_le hj h.size) (by omega)).trans (h.block j hj)⟩
/-- A column of a list is written over. -/
theorem OwnL.putC {w : World} {B : Nat} {e : TypeId} {g n d : Nat} {l : List Col} (h : OwnL cc 3 w B e (.slice (some ⟨g, 0, none⟩) n d) l) {j : Nat} {x : Col} (hj : l[j]? = some x) (c : Col) :
    OwnL cc 3 (((w.setCell ⟨g, j * 3, none⟩ (.string c.nm)).setCell ⟨g, j * 3 + 1, none⟩ (.int .i64 c.T)).setCell ⟨g, j * 3 + 2, none⟩ (.bool c.nb)) B e (.slice (some ⟨g, 0, none⟩) n d) (l.set j c) ∧ B ≤ g ∧ g < w.heap.size ∧ ∀ k, w.frozen? ⟨g, k, none⟩ = false := by
  have hjl : j < l.length := (List.getElem?_eq_some_iff.1 hj).1
  have hfz : ∀ k, w.frozen? ⟨g, k, none⟩ = false := fun k => by
    rcases h.2 with ⟨hv, _⟩ | ⟨g', cap, cur, hv, _, hg, _⟩
    · cases hv
    · cases hv
      simp [World.frozen?, hg]
  obtain ⟨g1, d1, hv1, hB1, hl1, _, _, o1⟩ := h.at cc_len hj (i := 0) (by omega) (.string c.nm) ⟨c.nm, x.T, x.nb⟩ rfl
  cases hv1
  obtain ⟨g2, d2, hv2, _, _, _, _, o2⟩ := o1.at cc_len (j := j) (x := ⟨c.nm, x.T, x.nb⟩) (List.getElem?_set_self hjl) (i := 1) (by omega) (.int .i64 c.T) ⟨c.nm, c.T, x.nb⟩ rfl
  simp only [Value.slice.injEq, Option.some.injEq, Addr.mk.injEq, and_true] at hv2
  obtain ⟨rfl, _, rfl⟩ := hv2
  obtain ⟨g3, d3, hv3, _, _, _, _, o3⟩ := o2.at cc_len (j := j) (x := ⟨c.nm, c.T, x.nb⟩) (List.getElem?_set_self (by simpa using hjl)) (i := 2) (by omega) (.bool c.nb) c rfl
  simp only [Value.slice.injEq, Option.some.injEq, Addr.mk.injEq, and_true] at hv3
  obtain ⟨rfl, _, rfl⟩ := hv3
  simp only [List.set_set, Nat.add_zero] at o3
  exact ⟨o3, hB1, hl1, hfz⟩
theorem made_flat (n : Nat) : (madeCells (Value.agg #[.string ByteArray.empty, .int .i64 0, .bool false]).cells (n * 3)).toList = (List.replicate n c0).flatMap cc := by
  apply List.ext_getElem?
  intro j
  by_cases hj : j < n * 3
  · have hq : j / 3 < n := by omega
    have hm : j % 3 < 3 := Nat.mod_lt _ (by omega)
    have h1 : (List.replicate n c0)[j / 3]? = some c0 := by rw [List.getElem?_replicate, if_pos hq]
    obtain ⟨u, hu⟩ : ∃ u, (cc c0)[j % 3]? = some u := ⟨_, List.getElem?_eq_getElem (by rw [cc_len]; exact hm)⟩
    have h2 := flat_get cc_len h1 hu
    rw [show j / 3 * 3 + j % 3 = j by omega] at h2
    rw [h2, Array.getElem?_toList]
    simp only [madeCells, Array.getElem?_map, Array.getElem?_range, hj, if_true, Option.map_some]
    rw [← hu]
    show some ((Value.agg #[.string ByteArray.empty, .int .i64 0, .bool false]).cells[j % 3]!) = _
    generalize j % 3 = m at hm
    match m, hm with
    | 0, _ => rfl
    | 1, _ => rfl
    | 2, _ => rfl
  · rw [List.getElem?_eq_none (by rw [Array.length_toList, size_madeCells]; omega), List.getElem?_eq_none (by rw [flat_len cc_len, List.length_replicate]; omega)]
theorem make_cols (w : World) (n B : Nat) (hn : n ≤ 256) (hB : B ≤ w.heap.size) : ∃ w', (Instr.makeSlice 22 (.int .u64 (n : Int)) (.int .u64 (n : Int))).run Try.prog w = .ok (.slice (some ⟨w.heap.size, 0, none⟩) n n) w' ∧ OwnL cc 3 w' B 25 (.slice (some ⟨w.heap.size, 0, none⟩) n n) (List.replicate n c0) ∧ Below w.heap.size w w' ∧ w.heap.size < w'.heap.size := by
  obtain ⟨i0, hi, hz0, hz1, hz2⟩ := info_parts infoC
  have hmk := run_make (P := Try.prog) w 22 25 i0 _ Try.underlying22 hi hz0 .u64 .u64 (n : Int) (n : Int) (by omega) (by omega) (by rw [hz2]; omega) (by omega)
  rw [hz1, show (n : Int).toNat = n by omega] at hmk
  refine ⟨_, hmk, ?_, below_new _ _, by simp⟩
  have h := World.ownsRow_lit (e := 25) (size := 3) w (madeCells (Value.agg #[.string ByteArray.empty, .int .i64 0, .bool false]).cells (n * 3)) n hB (by simp only [maxLen]; omega) (size_madeCells _ _)
  rw [made_flat] at h
  unfold OwnL
  rw [List.length_replicate]
  exact h
theorem below_set {B : Nat} {w a : World} (h : Below B w a) {p : Addr} (hp : B ≤ p.block) (u : Value) : Below B w (a.setCell p u) :=
  ⟨h.os, h.tape, h.output, by simpa using h.size, fun j hj => (Below.heap_setCell _ _ _ _ (show j ≠ p.block by omega)).trans (h.block j hj)⟩
theorem block_64 (r : Rd) (n : Nat) : (r.block (n : Int)).1.length ≤ n := by
  unfold Rd.block
  split
  · exact Nat.zero_le _
  · split
    · exact Nat.zero_le _
    · cases rd r.rest with
      | short => exact Nat.zero_le _
      | form => exact Nat.zero_le _
      | num v m =>
        simp only []
        split
        · exact Nat.zero_le _
        · split
          · exact Nat.zero_le _
          · simp only [List.length_take]; omega
theorem takeCs_few : ∀ (k : Nat) (r : Rd), ∀ c ∈ (takeCs k r).1, c.nm.size ≤ 64
  | 0, _, c, hc => by simp [takeCs] at hc
  | k + 1, r, c, hc => by
    simp only [takeCs, List.mem_cons] at hc
    rcases hc with rfl | hc
    · show (strL (r.block 64).1).size ≤ 64
      rw [strL_size]
      exact block_64 r 64
    · exact takeCs_few k _ c hc
theorem set_next {L : List Col} {n i : Nat} (hL : L.length = i) (hi : i < n) (c : Col) : (L ++ List.replicate (n - i) c0).set i c = (L ++ [c]) ++ List.replicate (n - (i + 1)) c0 := by
  rw [show n - i = (n - (i + 1)) + 1 by omega, List.replicate_succ, List.set_append_right _ _ (by omega), hL, Nat.sub_self]
  simp
set_option maxRecDepth 4000 in
set_option maxHeartbeats 4000000 in
theorem take_any (a : Option Addr) (b : List Nat) (d : Nat) (w : World) (hA : Bytes w a b) (ha : a = none → b.length = 0 ∧ d = 0) (hl : ∀ c ∈ b, c < 256) (hn : b.length + 20 ≤ 140737488355328) :
    Calls Try.prog 12 #[.slice a b.length d] w fun e w' => ∃ v, e = .returned (.tuple #[v, .int .i64 (tkE b)]) ∧ NewC w w' v (tkR b) := by
  have HO := hid (pOpen a b d w hA ha hl hn)
  have HN : Hid (tkN b = (Rd.mk b 0 0).uv.1) := rfl
  have H0 : Hid (tkAt b 0 = ([], (Rd.mk b 0 0).uv.2)) := rfl
  have HNo : Hid (tkOk b = false → tkE b = 150 ∧ tkR b = []) := fun h => by unfold tkE tkR; rw [h]; exact ⟨rfl, rfl⟩
  have HYes : Hid (tkOk b = true → tkE b = 0 ∧ tkR b = (tkC b).1) := fun h => by unfold tkE tkR; rw [h]; exact ⟨rfl, rfl⟩
  have HOk : Hid (tkOk b = (decide (tkN b ≤ 256) && decide (endE (tkC b).2 = 0) && chkB (tkC b).1)) := rfl
  have HC : Hid (tkAt b (tkN b) = tkC b) := tkAt_eq b _
  clear hA ha hl
  go_enter Try.func12, Try.ntmps12
  go_wp2_with fail
  refine HO.out.mono ?_
  rintro e w1 ⟨g, rfl, hP, hB⟩
  have HU := hid (pUv hP)
  have HB := hid hB
  have HG := hid hP.glo
  clear hP hB HO
  have HR : Hid ((Rd.mk b 0 0).uv.2 = (tkAt b 0).2) := by rw [H0.out]; exact rfl
  rw [HR.out, ← HN.out] at HU
  generalize hnn : tkN b = n at *
  clear hnn
  go_wp2_with fail
  refine HU.out.mono ?_
  rintro e w2 ⟨rfl, hP2, hH2⟩
  have HP := hid hP2
  replace HB := hid (aw_hit HB.out hH2 HG.out)
  clear hP2 hH2 HU
  by_cases hbig : 256 < n
  · have hbi : (256 : Int) < (n : Int) := by omega
    have hq : tkOk b = false := by rw [HOk.out, decide_eq_false (show ¬ n ≤ 256 by omega)]; rfl
    obtain ⟨e1, e2⟩ := HNo.out hq
    have E1 := hid e1
    have E2 := hid e2
    clear e1 e2 hq
    go_wp2_with fail
    go_ret2
    rw [E1.out, E2.out]
    exact ⟨_, rfl, OwnL.nil _ _ _ _ _, HB.out⟩
  · have hbi : ¬ (256 : Int) < (n : Int) := by omega
    obtain ⟨w3, hr3, hO3, hb3, hs3⟩ := make_cols w2 n w.heap.size (by omega) HB.out.size
    have hg2 : g < w2.heap.size := Nat.lt_of_lt_of_le HP.out.ghi HP.out.top
    have hhi := HP.out.top
    replace HP := hid (HP.out.later hb3)
    have HO : Hid (OwnL cc 3 w3 w.heap.size 25 (.slice (some ⟨w2.heap.size, 0, none⟩) n n) ((tkAt b 0).1 ++ List.replicate (n - 0) c0)) := by rw [H0.out]; exact hO3
    have hB2 := HB.out.size
    replace HB := hid (below_up HB.out hb3)
    have HR3 := hid hr3
    clear hr3 hO3 hb3
    have hrr := HR3.out
    go_wp2_with fail
    clear hrr HR3
    go_loopw [18] (fun ix wr => ∃ i : Nat, i ≤ n ∧ ix = .int .i64 i ∧ Hid (OwnL cc 3 wr w.heap.size 25 (.slice (some ⟨w2.heap.size, 0, none⟩) n n) ((tkAt b i).1 ++ List.replicate (n - i) c0)) ∧ Hid (ProgRd wr w.heap.size w1.heap.size g (tkAt b i).2) ∧ Hid (Below w.heap.size w wr)) (fun ix _ => n - (intOf ix).toNat)
    case atStart => exact ⟨0, Nat.zero_le _, rfl, HO, HP, HB⟩
    case round =>
      clear HO HP HB
      obtain ⟨i, hi, rfl, HO, HP, HB⟩ := hrel
      rename_i wr
      by_cases hlt : i < n
      · have hii : (i : Int) < (n : Int) := by omega
        have HT := hid (takeC_any HP.out)
        have HS : Hid (tkAt b (i + 1) = ((tkAt b i).1 ++ [(takeC (tkAt b i).2).1], (takeC (tkAt b i).2).2)) := rfl
        have HLn := hid (tkAt_len b i)
        generalize tkAt b i = q at *
        generalize takeC q.2 = t at *
        obtain ⟨c, r2⟩ := t
        dsimp only at *
        go_wp2_with fail
        refine HT.out.mono ?_
        rintro e w5 ⟨rfl, hP5, hH5⟩
        have hO5 : OwnL cc 3 w5 w.heap.size 25 (.slice (some ⟨w2.heap.size, 0, none⟩) n n) (q.1 ++ List.replicate (n - i) c0) := HO.out.kept fun k hk => by
          have h1 := (HO.out.lt k hk).2
          cases hk
          exact hH5.block _ h1 (show w2.heap.size ≠ g by omega)
        have hB5 := aw_hit HB.out hH5 HG.out
        have hx : (q.1 ++ List.replicate (n - i) c0)[i]? = some c0 := by
          rw [List.getElem?_append_right (by rw [HLn.out]; exact Nat.le_refl _), HLn.out, Nat.sub_self, List.getElem?_replicate, if_pos (by omega)]
        obtain ⟨hO6, hg6, hg7, hfz⟩ := hO5.putC hx c
        rw [set_next HLn.out hlt] at hO6
        obtain ⟨a5, d5, hv5, -, -, -, hl5, -⟩ := hO5.form cc_len
        simp only [Value.slice.injEq] at hv5
        obtain ⟨rfl, -, rfl⟩ := hv5
        obtain ⟨g8, o8, e8, _, k8⟩ := hl5 i c0 hx
        cases e8
        have k0 := k8 0 _ rfl
        have k1 := k8 1 _ rfl
        have k2 := k8 2 _ rfl
        rw [Nat.zero_add, Nat.add_zero] at k0
        rw [Nat.zero_add] at k1 k2
        have HP6 := hid (((hP5.set (g' := w2.heap.size) hhi (i * 3) (.string c.nm)).set (g' := w2.heap.size) hhi (i * 3 + 1) (.int .i64 c.T)).set (g' := w2.heap.size) hhi (i * 3 + 2) (.bool c.nb))
        have HB6 : Hid (Below w.heap.size w (((w5.setCell ⟨w2.heap.size, i * 3, none⟩ (.string c.nm)).setCell ⟨w2.heap.size, i * 3 + 1, none⟩ (.int .i64 c.T)).setCell ⟨w2.heap.size, i * 3 + 2, none⟩ (.bool c.nb))) := below_set (below_set (below_set hB5 (p := ⟨w2.heap.size, i * 3, none⟩) hB2 _) (p := ⟨w2.heap.size, i * 3 + 1, none⟩) hB2 _) (p := ⟨w2.heap.size, i * 3 + 2, none⟩) hB2 _
        have HO6 : Hid (OwnL cc 3 (((w5.setCell ⟨w2.heap.size, i * 3, none⟩ (.string c.nm)).setCell ⟨w2.heap.size, i * 3 + 1, none⟩ (.int .i64 c.T)).setCell ⟨w2.heap.size, i * 3 + 2, none⟩ (.bool c.nb)) w.heap.size 25 (.slice (some ⟨w2.heap.size, 0, none⟩) n n) ((tkAt b (i + 1)).1 ++ List.replicate (n - (i + 1)) c0)) := by rw [HS.out]; exact hO6
        rw [show r2 = (tkAt b (i + 1)).2 by rw [HS.out]] at HP6
        clear hP5 hH5 hO5 hB5 hx hO6 hl5 k8 HT HO HP HB
        obtain ⟨nm, T, nb⟩ := c
        unfold cv c0 at *
        dsimp only at *
        go_wp2_with fail
        exact ⟨⟨i + 1, by omega, by go_num, HO6, HP6, HB6⟩, by simp [intOf]; omega⟩
      · obtain rfl : i = n := by omega
        rw [HC.out, Nat.sub_self, List.replicate_zero, List.append_nil] at HO
        rw [HC.out] at HP
        have hlen : (tkC b).1.length = i := by rw [← HC.out]; exact tkAt_len b i
        obtain ⟨a9, d9, hv9, -, -, -, hl9, -⟩ := HO.out.form cc_len
        simp only [Value.slice.injEq] at hv9
        obtain ⟨rfl, -, rfl⟩ := hv9
        have HCk := hid (check_any _ (tkC b).1 i wr hl9 (fun c hc => Nat.le_trans (takeCs_few _ _ c hc) (by omega)) (by omega))
        rw [hlen] at HCk
        have HEn := hid (pEnd HP.out)
        have HEE : Hid (endE (tkC b).2 = if (tkC b).2.e = 0 ∧ (tkC b).2.at' < (tkC b).2.l.length then 72 else ((tkC b).2.e : Int)) := rfl
        rw [← HEE.out] at HEn
        rw [decide_eq_true (show i ≤ 256 by omega), Bool.true_and] at HOk
        clear HEE hl9 hlen
        generalize endE (tkC b).2 = E at *
        go_wp2_with fail
        refine HEn.out.mono ?_
        rintro e w5 ⟨rfl, rfl⟩
        by_cases hE : E = 0
        · subst hE
          rw [decide_eq_true rfl, Bool.true_and] at HOk
          go_wp2_with fail
          refine HCk.out.mono ?_
          rintro e w6 ⟨rfl, hb6⟩
          have HB6 := hid (below_up HB.out hb6)
          replace HO := hid (HO.out.later hb6)
          clear hb6 HCk
          cases hq : chkB (tkC b).1
          · rw [hq] at HOk
            rw [chkE_no hq]
            obtain ⟨e1, e2⟩ := HNo.out HOk.out
            have E1 := hid e1
            have E2 := hid e2
            clear e1 e2 hq
            go_wp2_with fail
            go_ret2
            rw [E1.out, E2.out]
            exact ⟨_, rfl, OwnL.nil _ _ _ _ _, HB6.out⟩
          · rw [hq] at HOk
            rw [chkE_ok hq]
            obtain ⟨e1, e2⟩ := HYes.out HOk.out
            have E1 := hid e1
            have E2 := hid e2
            clear e1 e2 hq
            go_wp2_with fail
            go_ret2
            rw [E1.out, E2.out]
            exact ⟨_, rfl, HO.out, HB6.out⟩
        · have hEb : (E == 0) = false := by simpa using hE
          have hEn : (E != 0) = true := by simpa using hE
          rw [decide_eq_false hE, Bool.false_and] at HOk
          obtain ⟨e1, e2⟩ := HNo.out HOk.out
          have E1 := hid e1
          have E2 := hid e2
          clear e1 e2
          go_wp2_with fail
          go_ret2
          rw [E1.out, E2.out]
          exact ⟨_, rfl, OwnL.nil _ _ _ _ _, HB.out⟩
end Go.Proofs.Ytllnknjmfffnbaa
