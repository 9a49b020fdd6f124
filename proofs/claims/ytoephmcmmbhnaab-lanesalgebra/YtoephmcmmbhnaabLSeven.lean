/-
  A row of values; seven sets in an array; sets that are kept.
-/
import Derived.Test.YtoephmcmmbhnaabLPkd
import Derived.Test.YtoephmcmmbhnaabLRefT
namespace Go.Proofs.Ytoephmcmmbhnaab.Ln
open Go.RowKit Go.Sort
open Bt (packF Tail)

/-- A block of c values V. -/
def VRow (w : World) (g : Nat) (t : TypeId) (c : Nat) (V : Nat → Value) : Prop := ∃ cur : Array Value, w.heap[g]? = some (.cells cur t (0, 0)) ∧ cur.size = c ∧ ∀ j, j < c → cur[j]? = some (V j)
section
variable {w w' : World} {g c : Nat} {t : TypeId} {V : Nat → Value}
theorem VRow.lt (h : VRow w g t c V) : g < w.heap.size := by
  obtain ⟨cur, h1, _⟩ := h
  exact (Array.getElem?_eq_some_iff.1 h1).1
theorem VRow.cell (h : VRow w g t c V) {j : Nat} (hj : j < c) : w.cell? ⟨g, j, none⟩ = some (V j) := by
  obtain ⟨cur, h1, h2, h3⟩ := h
  simp [World.cell?, h1, h3 j hj]
theorem VRow.frozen (h : VRow w g t c V) (j : Nat) : w.frozen? ⟨g, j, none⟩ = false := by
  obtain ⟨cur, h1, _⟩ := h
  simp [World.frozen?, h1]
theorem VRow.kept (h : VRow w g t c V) (hb : w'.heap[g]? = w.heap[g]?) : VRow w' g t c V := by
  obtain ⟨cur, h1, h2⟩ := h
  exact ⟨cur, hb.trans h1, h2⟩
theorem VRow.later (h : VRow w g t c V) (hb : Below w.heap.size w w') : VRow w' g t c V := h.kept (hb.block g h.lt)
theorem VRow.drewN (h : VRow w g t c V) (j : Nat) : VRow (w.drewN j) g t c V := h
theorem VRow.ext {V' : Nat → Value} (h : VRow w g t c V) (he : ∀ j, j < c → V j = V' j) : VRow w g t c V' := by
  obtain ⟨cur, h1, h2, h3⟩ := h
  exact ⟨cur, h1, h2, fun j hj => by rw [← he j hj]; exact h3 j hj⟩
theorem VRow.store (h : VRow w g t c V) (i : Nat) (v : Value) : VRow (w.setCell ⟨g, i, none⟩ v) g t c (fun j => if j = i then v else V j) := by
  obtain ⟨cur, h1, h2, h3⟩ := h
  refine ⟨cur.setIfInBounds i v, Bt.heap_store h1, by simpa using h2, fun j hj => ?_⟩
  rw [Array.getElem?_setIfInBounds]
  by_cases hji : i = j
  · subst hji; simp; omega
  · have hij : ¬ j = i := fun e => hji e.symm
    rw [if_neg hji, h3 j hj]; simp [hij]
end
theorem VRow.made (w : World) (t : TypeId) (v : Value) (n : Nat) : VRow (w.alloc (.cells (madeCells #[v] n) t)) w.heap.size t n (fun _ => v) := by
  refine ⟨_, heap_alloc_new w _, by simp [madeCells], fun j hj => ?_⟩
  simp [madeCells, Nat.mod_one, hj]
theorem VRow.bnums {w : World} {g : Nat} {t : TypeId} {c : Nat} {f : Nat → Bool} (h : VRow w g t c (fun j => .bool (f j))) : BNums w (some ⟨g, 0, none⟩) c f := fun j hj => ⟨g, 0, rfl, h.lt, by rw [Nat.zero_add]; exact h.cell hj⟩

theorem newSet_kept {w w' : World} {d g n : Nat} {ws : List Nat} (h : Bt.NewSet w d g n ws) (h1 : w'.heap[d]? = w.heap[d]?) (h2 : w'.heap[g]? = w.heap[g]?) : Bt.NewSet w' d g n ws := ⟨h1.trans h.1, h2.trans h.2⟩
theorem newSet_lt {w : World} {d g n : Nat} {ws : List Nat} (h : Bt.NewSet w d g n ws) : d < w.heap.size ∧ g < w.heap.size := ⟨(Array.getElem?_eq_some_iff.1 h.1).1, (Array.getElem?_eq_some_iff.1 h.2).1⟩
theorem newSet_later {w w' : World} {d g n : Nat} {ws : List Nat} (h : Bt.NewSet w d g n ws) (hb : Below w.heap.size w w') : Bt.NewSet w' d g n ws := newSet_kept h (hb.block d (newSet_lt h).1) (hb.block g (newSet_lt h).2)
theorem newSet_far {w : World} {d g n b i : Nat} {v : Value} {ws : List Nat} (h : Bt.NewSet w d g n ws) (h1 : d ≠ b) (h2 : g ≠ b) : Bt.NewSet (w.setCell ⟨b, i, none⟩ v) d g n ws :=
  newSet_kept h (Below.heap_setCell _ _ _ _ h1) (Below.heap_setCell _ _ _ _ h2)

/-- The array b has sets from place 1 on, below op: at t, the set G t. -/
def Seven (w : World) (b n : Nat) (G : Nat → Nat → Bool) (op : Nat) : Prop :=
  ∃ V : Nat → Value, VRow w b 60 7 V ∧ ∀ t, 1 ≤ t → t < op → ∃ d g, V t = .pointer (some ⟨d, 0, none⟩) ∧ b < d ∧ b < g ∧ Bt.NewSet w d g n (packF n (G t))
theorem Seven.later {w w' : World} {b n op : Nat} {G : Nat → Nat → Bool} (h : Seven w b n G op) (hb : Below w.heap.size w w') : Seven w' b n G op := by
  obtain ⟨V, h1, h2⟩ := h
  refine ⟨V, h1.later hb, fun t ht ht' => ?_⟩
  obtain ⟨d, g, q1, q2, q3, q4⟩ := h2 t ht ht'
  exact ⟨d, g, q1, q2, q3, newSet_later q4 hb⟩
theorem Seven.store {w : World} {b n op d g : Nat} {G : Nat → Nat → Bool} (h : Seven w b n G op) (hop : op < 7) (h1 : b < d) (h2 : b < g) (hs : Bt.NewSet w d g n (packF n (G op))) : Seven (w.setCell ⟨b, op, none⟩ (.pointer (some ⟨d, 0, none⟩))) b n G (op + 1) := by
  obtain ⟨V, k1, k2⟩ := h
  refine ⟨_, k1.store op _, fun t ht ht' => ?_⟩
  by_cases e : t = op
  · subst e
    exact ⟨d, g, by simp, h1, h2, newSet_far hs (by omega) (by omega)⟩
  · obtain ⟨d', g', q1, q2, q3, q4⟩ := k2 t ht (by omega)
    exact ⟨d', g', by simp [e, q1], q2, q3, newSet_far q4 (by omega) (by omega)⟩
theorem Seven.get {w : World} {b n op : Nat} {G : Nat → Nat → Bool} (h : Seven w b n G op) {t : Nat} (h1 : 1 ≤ t) (h2 : t < op) (h7 : t < 7) : ∃ d, w.cell? ⟨b, t, none⟩ = some (.pointer (some ⟨d, 0, none⟩)) ∧ Bt.SetF w d n (G t) := by
  obtain ⟨V, k1, k2⟩ := h
  obtain ⟨d, g, q1, _, _, q4⟩ := k2 t h1 h2
  exact ⟨d, by rw [k1.cell h7, q1], q4.is⟩
theorem Seven.frozen {w : World} {b n op : Nat} {G : Nat → Nat → Bool} (h : Seven w b n G op) (t : Nat) : w.frozen? ⟨b, t, none⟩ = false := by
  obtain ⟨V, k1, _⟩ := h
  exact k1.frozen t
theorem Seven.cell {w : World} {b n op : Nat} {G : Nat → Nat → Bool} (h : Seven w b n G op) {t : Nat} (h7 : t < 7) : ∃ v, w.cell? ⟨b, t, none⟩ = some v := by
  obtain ⟨V, k1, _⟩ := h
  exact ⟨_, k1.cell h7⟩

set_option maxHeartbeats 4000000 in
set_option maxRecDepth 20000 in
theorem listed_yes (a0 a1 ab : Option Addr) (n0 c0 n1 c1 nb cb n k : Nat) (L F : Nat → Nat) (wd cc lo hi : Int) (w : World) (hP : Pkd w ab nb cb n k F) (hn1 : n1 ≤ 17592186043904) (hL : ∀ j, L j < 18446744073709551616) (hN : Nums w .u64 a1 n1 L) :
    Calls Try.prog 32 #[.agg #[.slice a0 n0 c0, .int .i64 wd, .int .u64 cc, .int .u64 lo, .int .u64 hi, .slice a1 n1 c1], .slice ab nb cb, .int .i64 (k : Int), .int .i64 (n : Int)] w fun e w' => e = .returned (.bool true) ∧ Below w.heap.size w w' := by
  have hn : n ≤ 16777216 := hP.n_le
  have HLL : Hid (∀ j, L j < 18446744073709551616) := hL
  have HN : Hid (Nums w .u64 a1 n1 L) := hN
  have HP : Hid (Pkd w ab nb cb n k F) := hP
  clear hL hN hP
  obtain ⟨wb, hwb⟩ : ∃ wb, wb = w.alloc (.cells #[.slice a0 n0 c0, .int .i64 wd, .int .u64 cc, .int .u64 lo, .int .u64 hi, .slice a1 n1 c1] 50) := ⟨_, rfl⟩
  have hb0 : Below w.heap.size w wb := by rw [hwb]; exact (Grew.alloc w _).below
  have hl0 : w.heap.size < wb.heap.size := by rw [hwb]; simp
  have q5 : wb.cell? ⟨w.heap.size, 5, none⟩ = some (.slice a1 n1 c1) := by rw [hwb]; simp [go_sem]
  have f5 : Hid (∀ W, Below wb.heap.size wb W → W.cell? ⟨w.heap.size, 5, none⟩ = some (.slice a1 n1 c1)) := fun W h => (h.cell (p := ⟨w.heap.size, 5, none⟩) hl0).trans q5
  have HWB : Hid (wb = w.alloc (.cells #[.slice a0 n0 c0, .int .i64 wd, .int .u64 cc, .int .u64 lo, .int .u64 hi, .slice a1 n1 c1] 50)) := hwb
  have HB0 : Hid (Below w.heap.size w wb) := hb0
  have HIN : Hid (Calls Try.prog 28 #[.slice ab nb cb, .int .i64 (k : Int), .int .i64 (n : Int), .slice a1 n1 c1] (w.alloc (.cells #[.slice a0 n0 c0, .int .i64 wd, .int .u64 cc, .int .u64 lo, .int .u64 hi, .slice a1 n1 c1] 50)) (OkSet wb n (fun i => anyB L n1 (F i)))) := by
    rw [← hwb]; exact in_pk (HP.out.later hb0) a1 n1 c1 L hn1 HLL.out (HN.out.later hb0)
  clear hwb hb0 q5
  have hbd : (Try.prog.info? 4).map (fun i => (i.zero, i.size, i.bytes)) = some (some (.bool false), 1, 1) := by kernel_rfl
  obtain ⟨i0, hi, hz0, hz1, hz2⟩ := info_parts hbd
  have hmk := fun wx => run_make (P := Try.prog) wx 63 4 i0 (.bool false) Try.underlying63 hi hz0 .i64 .i64 (n : Int) (n : Int) (by omega) (by omega) (by rw [hz2]; omega) (by omega)
  simp only [hz1, Int.toNat_natCast, Nat.mul_one] at hmk
  clear hbd hz0 hz1 hz2 hi
  go_enter Try.func32, Try.ntmps32
  go_wp2_with fail
  refine HIN.out.mono ?_
  intro e w1 ho
  obtain ⟨d1, g1, rfl, hd1, hg1, hS1, hb1⟩ := ho
  have H1 : Hid (Below wb.heap.size wb w1) := hb1
  have HS1 : Hid (Bt.NewSet w1 d1 g1 n (packF n (fun i => decide (i < n) && anyB L n1 (F i)))) := hS1
  clear hb1 hS1 HIN
  go_wp2_with fail
  refine (count_yes d1 n _ _ HS1.out.is hn).mono ?_
  rintro e wz ⟨x1, rfl, hwz⟩
  subst wz
  have hx1 : decide ((x1 : Int) < 0) = false := by simp
  have HM : Hid (VRow (w1.alloc (.cells (madeCells #[.bool false] n) 4)) w1.heap.size 4 n (fun i => .bool (anyB L 0 (F i)))) := VRow.made w1 4 (.bool false) n
  have HM2 : Hid (Below w1.heap.size w1 (w1.alloc (.cells (madeCells #[.bool false] n) 4))) := (Grew.alloc _ _).below
  go_wp2_with fail
  go_loopw [12] (fun jx wr => ∃ j : Nat, j ≤ n1 ∧ jx = .int .i64 j ∧ Hid (VRow wr w1.heap.size 4 n (fun i => .bool (anyB L j (F i))) ∧ Below w1.heap.size w1 wr)) (fun jx _ => n1 - (intOf jx).toNat)
  case atStart => exact ⟨0, Nat.zero_le _, rfl, HM.out, HM2.out⟩
  case round =>
    clear HM HM2 hmk
    obtain ⟨j, hj, rfl, HJ⟩ := hrel
    obtain ⟨hV, hB⟩ := HJ.out
    have g5 := f5.out wr (below_on H1.out hB)
    have HV : Hid (VRow wr w1.heap.size 4 n (fun i => .bool (anyB L j (F i)))) := hV
    have HB : Hid (Below w1.heap.size w1 wr) := hB
    have HGL : Hid (w1.heap.size < wr.heap.size) := hV.lt
    clear hV hB HJ
    by_cases hlj : j < n1
    · have hbj : (j : Int) < (n1 : Int) := by omega
      obtain ⟨g3, o3, rfl, hg3, hc3⟩ := HN.out j hlj
      have cx : wr.cell? ⟨g3, o3 + j, none⟩ = some (.int .u64 (L j : Int)) := ((below_on (below_on HB0.out H1.out) HB.out).cell (p := ⟨g3, o3 + j, none⟩) hg3).trans hc3
      clear hc3
      go_wp2_with fail
      refine (test_pk (HP.out.later (below_on (below_on HB0.out H1.out) HB.out)) 1 (L j) (by omega) (HLL.out j)).mono ?_
      intro e w2 ho
      obtain ⟨d2, g2, rfl, hd2, hg2, hS2, hb2⟩ := ho
      clear cx g5
      have HS2 : Hid (Bt.NewSet w2 d2 g2 n (packF n (fun i => decide (i < n) && standsB 1 (F i) (L j)))) := hS2
      have HI0 : Hid (VRow w2 w1.heap.size 4 n (fun i => .bool (anyB L j (F i))) ∧ Bt.NewSet w2 d2 g2 n (packF n (fun i => decide (i < n) && standsB 1 (F i) (L j))) ∧ Below w1.heap.size w1 w2) := ⟨HV.out.later hb2, hS2, below_on HB.out hb2⟩
      have HD2 : Hid (w1.heap.size < d2 ∧ w1.heap.size < g2) := ⟨Nat.lt_of_lt_of_le HGL.out hd2, Nat.lt_of_lt_of_le HGL.out hg2⟩
      clear hS2 hb2 hd2 hg2 HV HB HGL
      go_wp2_with fail
      refine (count_yes d2 n _ _ HS2.out.is hn).mono ?_
      rintro e wz ⟨x2, rfl, hwz⟩
      subst wz
      have hx2 : decide ((x2 : Int) < 0) = false := by simp
      clear HS2
      go_wp2_with fail
      go_loopw [15] (fun ix wr => ∃ i : Nat, i ≤ n ∧ ix = .int .i64 i ∧ Hid (VRow wr w1.heap.size 4 n (fun t => .bool (if t < i then anyB L (j + 1) (F t) else anyB L j (F t))) ∧ Bt.NewSet wr d2 g2 n (packF n (fun i => decide (i < n) && standsB 1 (F i) (L j))) ∧ Below w1.heap.size w1 wr)) (fun ix _ => n - (intOf ix).toNat)
      case atStart => exact ⟨0, Nat.zero_le _, rfl, HI0.out.1.ext (fun t _ => by simp), HI0.out.2.1, HI0.out.2.2⟩
      case round =>
        clear HI0
        obtain ⟨i, hin, rfl, HI⟩ := hrel
        by_cases hlt : i < n
        · have hbi : (i : Int) < (n : Int) := by omega
          obtain ⟨hV, hS, hB⟩ := HI.out
          have hci := hV.cell hlt
          simp only [Nat.lt_irrefl, if_false] at hci
          have hfi := hV.frozen i
          have hcd : ∀ q, (wr.drewN q).cell? ⟨w1.heap.size, i, none⟩ = some (.bool (anyB L j (F i))) := fun q => hci
          have hfd : ∀ q, (wr.drewN q).frozen? ⟨w1.heap.size, i, none⟩ = false := fun q => hfi
          have HST : Hid (∀ q (b : Bool), b = anyB L (j + 1) (F i) → VRow ((wr.drewN q).setCell ⟨w1.heap.size, i, none⟩ (.bool b)) w1.heap.size 4 n (fun t => .bool (if t < i + 1 then anyB L (j + 1) (F t) else anyB L j (F t))) ∧ Bt.NewSet ((wr.drewN q).setCell ⟨w1.heap.size, i, none⟩ (.bool b)) d2 g2 n (packF n (fun i => decide (i < n) && standsB 1 (F i) (L j))) ∧ Below w1.heap.size w1 ((wr.drewN q).setCell ⟨w1.heap.size, i, none⟩ (.bool b))) := fun q b hb => by
            refine ⟨((hV.drewN q).store i _).ext fun t _ => ?_, newSet_far (w := wr.drewN q) hS (by have := HD2.out; omega) (by have := HD2.out; omega), below_set (below_on hB (Grew.drewN _ _).below) (Nat.le_refl _) _ _⟩
            by_cases h1 : t = i
            · subst h1; simp [hb]
            · by_cases h2 : t < i
              · simp [h1, h2, show t < i + 1 by omega]
              · simp [h1, h2, show ¬ t < i + 1 by omega]
          have HG : Hid (Calls Try.prog 30 #[.pointer (some ⟨d2, 0, none⟩), .int .i64 (i : Int)] wr fun e w' => e = .returned (.bool (decide (F i = L j))) ∧ ∃ j', w' = wr.drewN j') := by
            have := Bt.get_in d2 n i _ wr hS.is hn hlt
            simp only [hlt, decide_true, Bool.true_and, standsB, if_true] at this
            exact this
          have HA : Hid (anyB L (j + 1) (F i) = (anyB L j (F i) || decide (F i = L j))) := rfl
          clear hV hS hB HI
          cases hb : anyB L j (F i) with
          | true =>
            rw [hb] at hci hcd
            have HA2 : Hid (true = anyB L (j + 1) (F i)) := by show _ = _; rw [HA.out, hb]; rfl
            clear hb HA HG
            go_wp2_with fail
            exact ⟨⟨i + 1, by omega, by go_num, HST.out 0 _ HA2.out⟩, by simp [intOf]; omega⟩
          | false =>
            rw [hb] at hci hcd
            have HA2 : Hid (decide (F i = L j) = anyB L (j + 1) (F i)) := by show _ = _; rw [HA.out, hb]; rfl
            clear hb HA
            generalize decide (F i = L j) = bb at *
            go_wp2_with (go_at_call 30; refine HG.out.mono ?_; rintro e w9 ⟨rfl, q9, hw9⟩; subst w9)
            exact ⟨⟨i + 1, by omega, by go_num, HST.out q9 _ HA2.out⟩, by simp [intOf]; omega⟩
        · obtain rfl : i = n := by omega
          have HV : Hid (VRow wr w1.heap.size 4 i (fun t => .bool (anyB L (j + 1) (F t))) ∧ Below w1.heap.size w1 wr) := ⟨HI.out.1.ext (fun t ht => by simp [ht]), HI.out.2.2⟩
          clear HI
          go_wp2
          exact ⟨⟨j + 1, by omega, by go_num, HV.out⟩, by simp [intOf]; omega⟩
    · obtain rfl : j = n1 := by omega
      have HLK : Hid (Calls Try.prog 33 #[.pointer (some ⟨d1, 0, none⟩), .slice (some ⟨w1.heap.size, 0, none⟩) n n, .int .i64 0] wr fun e w' => e = .returned (.bool true) ∧ ∃ j, w' = wr.drewN j) := like_yes d1 n n _ _ wr (newSet_later HS1.out HB.out).is hn HV.out.bnums.cut
      have HEN : Hid (Below w.heap.size w wr) := below_on (below_on HB0.out H1.out) HB.out
      clear HV HB HGL
      go_wp2_with (go_at_call 33; refine HLK.out.mono ?_; rintro e w9 ⟨rfl, q9, hw9⟩; subst w9)
      go_ret
      exact ⟨rfl, below_on HEN.out (Grew.drewN _ _).below⟩
end Go.Proofs.Ytoephmcmmbhnaab.Ln
