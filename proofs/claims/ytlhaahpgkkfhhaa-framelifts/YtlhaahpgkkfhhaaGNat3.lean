/-
  math/big: nat's add and sub of numbers of one word, into new memory.
-/
import Derived.Test.YtlhaahpgkkfhhaaGNat2
namespace Go.Proofs.Ytlhaahpgkkfhhaa
open Go.RowKit

/-- A number of at most two words. -/
def nv : List Nat → Nat
  | [] => 0
  | [a] => a
  | a :: b :: _ => a + 18446744073709551616 * b
/-- At v lie the words ws, the last of them not 0; v is of the call's own memory from B on. -/
structure Nt (w : World) (B : Nat) (v : Value) (ws : List Nat) : Prop where
  own : Own w B 42 .u64 v ws.length (ofL ws)
  lt : ∀ x ∈ ws, x < 18446744073709551616
  nz : ∀ x, ws.getLast? = some x → x ≠ 0
  le : ws.length ≤ 2
theorem below_up' {w w1 w2 : World} {q : Nat} (h : Below w.heap.size w w1) (ho : Only w.heap.size (w1.drewN q) w2) : Below w.heap.size w w2 :=
  h.trans ⟨ho.os, ho.tape, ho.output, by have := ho.size; have h2 : (w1.drewN q).heap.size = w1.heap.size := rfl; omega, fun j hj => ho.block j (by omega)⟩
set_option maxRecDepth 8000 in
set_option maxHeartbeats 2000000 in
theorem add_one (ax ay : Option Addr) (cx cy x y sw cw : Nat) (w : World) (hx : Nums w .u64 ax 1 (fun _ => x)) (hy : Nums w .u64 ay 1 (fun _ => y)) (lx : x < 18446744073709551616) (ly : y < 18446744073709551616) (h1 : 1 ≤ cx) (h2 : 1 ≤ cy) (hsw : (x + y) % 18446744073709551616 = sw) (hcw : (x + y) / 18446744073709551616 = cw) :
    Calls Try.prog 20 #[.slice none 0 0, .slice ax 1 cx, .slice ay 1 cy] w fun e w' => ∃ g m c, e = .returned (.slice (some ⟨g, 0, none⟩) m c) ∧ w.heap.size ≤ g ∧ Blk w' g 42 .u64 c m (ofL [sw, cw]) ∧ (m ≤ 2 ∧ (∀ j, m ≤ j → j < 2 → ofL [sw, cw] j = 0) ∧ (0 < m → ofL [sw, cw] (m - 1) ≠ 0)) ∧ Below w.heap.size w w' := by
  have HM := hid (make_nil 2 w (by omega) (by omega))
  have HX := hid hx
  have HY := hid hy
  obtain ⟨gx, ox, rfl, _, _⟩ := hx 0 (by omega)
  obtain ⟨gy, oy, rfl, _, _⟩ := hy 0 (by omega)
  have hen := addVV_enters
  clear hx hy
  go_enter Try.func20, Try.ntmps20
  go_wp2_with fail
  refine HM.out.mono ?_
  rintro e w1 ⟨rfl, hB, hb⟩
  have er : roomOf 2 = 6 := rfl
  rw [er] at hB ⊢
  have HB := hid hB
  have HL := hid hb
  clear hB hb HM er
  have hs1 : w.heap.size < w1.heap.size := HB.out.lt
  have HVV := hid (fun q : Nat => addVV_any w.heap.size 6 2 1 (some ⟨gx, ox, none⟩) (some ⟨gy, oy, none⟩) cx cy (fun _ => x) (fun _ => y) (fun _ => 0) (w1.drewN q) (by omega) (by omega) (HB.out.kept rfl) (fun _ => lx) (fun _ => ly)
    (fun wr i hi _ ho => by
      obtain ⟨g, o, e, hg, hc⟩ := HX.out i hi
      cases e
      refine ⟨gx, ox, rfl, ?_⟩
      rw [World.cell?_of_block (w := w1.drewN q) (a := ⟨gx, ox + i, none⟩) (ho.block gx (by omega))]
      exact (HL.out.cell (p := ⟨gx, ox + i, none⟩) hg).trans hc)
    (fun wr i hi _ ho => by
      obtain ⟨g, o, e, hg, hc⟩ := HY.out i hi
      cases e
      refine ⟨gy, oy, rfl, ?_⟩
      rw [World.cell?_of_block (w := w1.drewN q) (a := ⟨gy, oy + i, none⟩) (ho.block gy (by omega))]
      exact (HL.out.cell (p := ⟨gy, oy + i, none⟩) hg).trans hc))
  have e1 : cAdd (fun _ => x) (fun _ => y) 1 = cw := by rw [← hcw]; simp [cAdd]
  have hs : sAdd (fun _ => x) (fun _ => y) 0 = sw := by rw [← hsw]; simp [sAdd, cAdd]
  have HSS := hid hs
  clear hs hsw hcw
  rw [e1] at HVV
  have h1' : (1 : Int) ≤ (cx : Int) := by omega
  have h2' : (1 : Int) ≤ (cy : Int) := by omega
  go_wp2_with fail
  go_region_with (go_at_call 14; refine (HVV.out _).mono ?_; rintro e w2 ⟨rfl, hB2, ho2⟩)
  all_goals (
    have k1 := hB2.cell (j := 1) (by omega)
    have f1 := hB2.frozen 1
    have HB3 : Hid (Blk (w2.setCell ⟨w.heap.size, 1, none⟩ (.int .u64 (cw : Int))) w.heap.size 42 .u64 6 [sw, cw].length (ofL [sw, cw])) := (hB2.store 1 cw).ext (fun j hj => by
      match j, hj with
      | 0, _ => simp [upd, mixW, ofL]; exact HSS.out
      | 1, _ => simp [upd, ofL])
    have HL3 : Hid (Below w.heap.size w (w2.setCell ⟨w.heap.size, 1, none⟩ (.int .u64 (cw : Int)))) := (below_up' HL.out ho2).setCell (p := ⟨w.heap.size, 1, none⟩) (Nat.le_refl _) _
    clear HVV HX HY HB HL hB2 ho2 e1 hen
    go_wp2_with fail
    generalize w2.setCell ⟨w.heap.size, 1, none⟩ (.int .u64 (cw : Int)) = w3 at *
    have HN := hid (norm_any w.heap.size 6 [sw, cw] w3 HB3.out (by simp) (by omega) (by simp))
    refine HN.out.mono ?_
    rintro e w4 ⟨m, rfl, hw4, hm, hz, hnz⟩
    have hw5 := hw4.symm
    clear hw4
    subst hw5
    have HF : Hid (Blk w3 w.heap.size 42 .u64 6 m (ofL [sw, cw]) ∧ (m ≤ 2 ∧ (∀ j, m ≤ j → j < 2 → ofL [sw, cw] j = 0) ∧ (0 < m → ofL [sw, cw] (m - 1) ≠ 0))) := ⟨HB3.out.less hm, hm, hz, hnz⟩
    clear hm hz hnz HN
    go_wp2_with fail
    go_ret
    exact ⟨_, m, 6, rfl, Nat.le_refl _, HF.out.1, HF.out.2, HL3.out⟩)
set_option maxRecDepth 8000 in
set_option maxHeartbeats 2000000 in
theorem sub_one (ax ay : Option Addr) (cx cy x y sw : Nat) (w : World) (hx : Nums w .u64 ax 1 (fun _ => x)) (hy : Nums w .u64 ay 1 (fun _ => y)) (lx : x < 18446744073709551616) (ly : y < 18446744073709551616) (h1 : 1 ≤ cx) (h2 : 1 ≤ cy) (hle : y ≤ x) (hsw : x - y = sw) :
    Calls Try.prog 22 #[.slice none 0 0, .slice ax 1 cx, .slice ay 1 cy] w fun e w' => ∃ g m c, e = .returned (.slice (some ⟨g, 0, none⟩) m c) ∧ w.heap.size ≤ g ∧ Blk w' g 42 .u64 c m (ofL [sw]) ∧ (m ≤ 1 ∧ (∀ j, m ≤ j → j < 1 → ofL [sw] j = 0) ∧ (0 < m → ofL [sw] (m - 1) ≠ 0)) ∧ Below w.heap.size w w' := by
  have HM := hid (make_nil 1 w (by omega) (by omega))
  have HX := hid hx
  have HY := hid hy
  obtain ⟨gx, ox, rfl, _, _⟩ := hx 0 (by omega)
  obtain ⟨gy, oy, rfl, _, _⟩ := hy 0 (by omega)
  have hen := subVV_enters
  clear hx hy
  go_enter Try.func22, Try.ntmps22
  go_wp2_with fail
  refine HM.out.mono ?_
  rintro e w1 ⟨rfl, hB, hb⟩
  have er : roomOf 1 = 1 := rfl
  rw [er] at hB ⊢
  have HB := hid hB
  have HL := hid hb
  clear hB hb HM er
  have hs1 : w.heap.size < w1.heap.size := HB.out.lt
  have HVV := hid (fun q : Nat => subVV_any w.heap.size 1 1 1 (some ⟨gx, ox, none⟩) (some ⟨gy, oy, none⟩) cx cy (fun _ => x) (fun _ => y) (fun _ => 0) (w1.drewN q) (by omega) (by omega) (HB.out.kept rfl) (fun _ => lx) (fun _ => ly)
    (fun wr i hi _ ho => by
      obtain ⟨g, o, e, hg, hc⟩ := HX.out i hi
      cases e
      refine ⟨gx, ox, rfl, ?_⟩
      rw [World.cell?_of_block (w := w1.drewN q) (a := ⟨gx, ox + i, none⟩) (ho.block gx (by omega))]
      exact (HL.out.cell (p := ⟨gx, ox + i, none⟩) hg).trans hc)
    (fun wr i hi _ ho => by
      obtain ⟨g, o, e, hg, hc⟩ := HY.out i hi
      cases e
      refine ⟨gy, oy, rfl, ?_⟩
      rw [World.cell?_of_block (w := w1.drewN q) (a := ⟨gy, oy + i, none⟩) (ho.block gy (by omega))]
      exact (HL.out.cell (p := ⟨gy, oy + i, none⟩) hg).trans hc))
  have e1 : cSub (fun _ => x) (fun _ => y) 1 = 0 := by
    show (if x < y + 0 then 1 else 0) = 0
    rw [if_neg (by omega)]
  have hs : sSub (fun _ => x) (fun _ => y) 0 = sw := by
    show (x + 18446744073709551616 - y - 0) % 18446744073709551616 = sw
    omega
  have HSS := hid hs
  clear hs hsw
  rw [e1] at HVV
  have h1' : (1 : Int) ≤ (cx : Int) := by omega
  have h2' : (1 : Int) ≤ (cy : Int) := by omega
  go_wp2_with fail
  go_region_with (go_at_call 15; refine (HVV.out _).mono ?_; rintro e w2 ⟨rfl, hB2, ho2⟩)
  all_goals (
    have HB3 : Hid (Blk w2 w.heap.size 42 .u64 1 [sw].length (ofL [sw])) := hB2.ext (fun j hj => by
      match j, hj with
      | 0, _ => simp [mixW, ofL]; exact HSS.out)
    have HL3 : Hid (Below w.heap.size w w2) := below_up' HL.out ho2
    clear HVV HX HY HB HL hB2 ho2 e1 hen
    go_wp2_with fail
    have HN := hid (norm_any w.heap.size 1 [sw] w2 HB3.out (by simp) (by omega) (by simp))
    refine HN.out.mono ?_
    rintro e w4 ⟨m, rfl, hw4, hm, hz, hnz⟩
    have hw5 := hw4.symm
    clear hw4
    subst hw5
    have HF : Hid (Blk w2 w.heap.size 42 .u64 1 m (ofL [sw]) ∧ (m ≤ 1 ∧ (∀ j, m ≤ j → j < 1 → ofL [sw] j = 0) ∧ (0 < m → ofL [sw] (m - 1) ≠ 0))) := ⟨HB3.out.less hm, hm, hz, hnz⟩
    clear hm hz hnz HN
    go_wp2_with fail
    go_ret
    exact ⟨_, m, 1, rfl, Nat.le_refl _, HF.out.1, HF.out.2, HL3.out⟩)
end Go.Proofs.Ytlhaahpgkkfhhaa
