/-
  The document's Lift, where it goes over.
-/
import Derived.Test.YtlhaahpgkkfhhaaGSubI
import Derived.Test.YtlhaahpgkkfhhaaGLsh
namespace Go.Proofs.Ytlhaahpgkkfhhaa
open Go.RowKit Fr

theorem words_one {w : World} {v : Value} {ws : List Nat} {s : Nat} (h : NatAt w v ws) (hn : nv ws = s) (h0 : 0 < s) (hs : s < 18446744073709551616) : ws = [s] := by
  have hl := nv_len h
  match ws, hl, hn with
  | [], hl, _ => simp at hl; omega
  | [a], _, hn => exact congrArg (fun z => [z]) hn
  | a :: b :: r, hl, hn => rcases hl with ⟨h, _⟩ | ⟨h, _⟩ | ⟨_, h⟩
                           · simp at h
                           · simp at h
                           · omega
theorem words_two {w : World} {v : Value} {ws : List Nat} {s : Nat} (h : NatAt w v ws) (hn : nv ws = 18446744073709551616 + s) (hs : s < 18446744073709551616) : ws = [s, 1] := by
  have hl := nv_len h
  have hlt := h.lt
  have h2 : ws.length = 2 := by omega
  match ws, h2, hn, hlt with
  | [a, b], _, hn, hlt =>
    have ha := hlt a (by simp)
    have hb := hlt b (by simp)
    simp only [nv] at hn
    have h1 : b = 1 := by omega
    have h3 : a = s := by omega
    rw [h1, h3]
theorem subAny (p q s n m : Nat) (w : World) (hx : BigAt w p (s : Int)) (hy : BigAt w q 18446744073709551616) (h0 : 0 < s) (hs : s < 36893488147419103232) (hax : ∃ b v, w.heap[p]? = some (.cells #[b, v] 31 (0, 0)) ∧ ∀ g, v.ownBlock = some g → n ≤ g ∧ g < m) (hay : NewAbs m w q) (hnp : n ≤ p) :
    Calls Try.prog 8 #[.pointer (some ⟨p, 0, none⟩), .pointer (some ⟨p, 0, none⟩), .pointer (some ⟨q, 0, none⟩)] w fun e w' => e = .returned (.pointer (some ⟨p, 0, none⟩)) ∧ BigAt w' p ((s : Int) - 18446744073709551616) ∧ Below n w w' := by
  obtain ⟨vx, xs, rx, hNx, hvx, _⟩ := hx.row
  obtain ⟨vy, ys, ry, hNy, hvy, _⟩ := hy.row
  have hys : ys = [0, 1] := words_two hNy (by rw [hvy]; rfl) (by omega)
  subst hys
  rw [show decide ((s : Int) < 0) = false by simp] at rx
  rw [show decide ((18446744073709551616 : Int) < 0) = false from rfl] at ry
  obtain ⟨b, v, hr, hg⟩ := hax
  obtain ⟨b', v', hr', hg'⟩ := hay
  obtain rfl : v = vx := by
    rw [rx] at hr
    simp at hr
    exact hr.2.symm
  obtain rfl : v' = vy := by
    rw [ry] at hr'
    simp at hr'
    exact hr'.2.symm
  rcases hNy.at' with ⟨_, h⟩ | ⟨gy, cy, rfl, hY⟩
  · cases h
  have hgy := hg' gy rfl
  have hvx' : nv xs = s := by rw [hvx]; simp
  by_cases hlt : s < 18446744073709551616
  · have hxs := words_one hNx hvx' h0 hlt
    subst hxs
    rcases hNx.at' with ⟨_, h⟩ | ⟨gx, cx, rfl, hX⟩
    · cases h
    have hgx := hg gx rfl
    exact (subSELFA p q gx cx gy cy s w rx ry hX hY (by omega) h0 hlt).mono fun _ _ h => ⟨h.1, h.2.1, h.2.2 n hnp hgx.1⟩
  · obtain ⟨t, rfl⟩ : ∃ t, s = 18446744073709551616 + t := ⟨s - 18446744073709551616, by omega⟩
    have hxs := words_two hNx hvx' (by omega)
    subst hxs
    rcases hNx.at' with ⟨_, h⟩ | ⟨gx, cx, rfl, hX⟩
    · cases h
    have hgx := hg gx rfl
    refine (subSELFB p q gx cx gy cy t w rx ry hX hY (by omega) (by omega)).mono fun _ w' h => ⟨h.1, ?_, h.2.2 n hnp hgx.1⟩
    rw [show ((18446744073709551616 + t : Nat) : Int) - 18446744073709551616 = (t : Int) by omega]
    exact h.2.1
set_option maxRecDepth 8000 in
set_option maxHeartbeats 2000000 in
theorem refLift_over (base : Int) (u : Nat) (w : World) (hb : In base) (hu : u < 18446744073709551616) (h : 9223372036854775807 < base + (u : Int)) : Calls Try.prog 7 #[.int .i64 base, .int .u64 (u : Int)] w fun e w' => e = .returned (.int .i64 (base + (u : Int) - 18446744073709551616)) ∧ Below w.heap.size w w' := by
  have HA := hid (above_new base u w hb hu)
  have hd : decide (9223372036854775807 < base + (u : Int)) = true := by simpa using h
  rw [hd] at HA
  obtain ⟨s, hs⟩ : ∃ s : Nat, base + (u : Int) = (s : Int) := ⟨(base + (u : Int)).toNat, by omega⟩
  rw [hs] at HA h ⊢
  have h0 : 0 < s := by omega
  have hsl : s < 36893488147419103232 := by unfold In at hb; omega
  have hwr : wrap64 ((s : Int) - 18446744073709551616) = (s : Int) - 18446744073709551616 := by unfold wrap64 In at *; omega
  have HN := hid (fun wx => newInt_any 1 wx (by unfold In; omega))
  have HS : Hid (0 < s ∧ s < 36893488147419103232) := ⟨h0, hsl⟩
  clear hb hd h hs h0 hsl
  go_enter Try.func7, Try.ntmps7
  go_wp2_with fail
  refine HA.out.mono ?_
  rintro e w1 ⟨rfl, hB, hb1, hn1⟩
  have HB := hid hB
  have HB1 := hid hb1
  have HN1 := hid hn1
  clear hB hb1 hn1 HA
  go_wp2_with fail
  refine (HN.out _).mono ?_
  rintro e w2 ⟨q, rfl, hq, hBq, hb2⟩
  have hz : w2.heap[w1.heap.size]? = some (.cells #[.bool false, .slice none 0 0] 31) := (hb2.block _ (by simp)).trans (heap_alloc2 _ _)
  have HL := hid (lsh64 w1.heap.size q w2 hz hBq)
  have HB2 : Hid (Below w1.heap.size w1 w2) := (below_new w1 _).trans (hb2.mono (by simp))
  clear hz hBq hb2 hq HN
  go_wp2_with fail
  refine HL.out.mono ?_
  rintro e w3 ⟨rfl, hBy, hb3, hn3⟩
  have hb13 : Below w1.heap.size w1 w3 := HB2.out.trans (hb3 _ (Nat.le_refl _))
  have hax : ∃ b v, w3.heap[w.heap.size]? = some (.cells #[b, v] 31 (0, 0)) ∧ ∀ g, v.ownBlock = some g → w.heap.size ≤ g ∧ g < w1.heap.size := by
    obtain ⟨vx, xs, rx, hNx, _⟩ := HB.out.row
    obtain ⟨b, v, hr, hg⟩ := HN1.out
    obtain rfl : v = vx := by
      rw [rx] at hr
      simp at hr
      exact hr.2.symm
    exact ⟨_, _, (hb13.block _ HB.out.plt).trans rx, fun g h => ⟨hg g h, hNx.blt g h⟩⟩
  have HSU := hid (subAny w.heap.size w1.heap.size s w.heap.size w1.heap.size w3 (HB.out.later hb13) hBy HS.out.1 HS.out.2 hax (hn3.to HB2.out.size) (Nat.le_refl _))
  have HB3 : Hid (Below w.heap.size w w3) := HB1.out.trans (hb13.mono HB1.out.size)
  clear hBy hb3 hn3 hb13 hax HL HB2 HB HN1 HB1
  go_wp2_with fail
  refine HSU.out.mono ?_
  rintro e w4 ⟨rfl, hB4, hb4⟩
  have HI := hid (int64_any w.heap.size _ w4 hB4)
  rw [hwr] at HI
  have HB4 := hid (HB3.out.trans hb4)
  clear hB4 hb4 HSU HB3 hwr
  go_wp2_with fail
  refine HI.out.mono ?_
  rintro e w5 ⟨rfl, rfl⟩
  go_wp2_with fail
  go_ret
  exact ⟨rfl, HB4.out⟩
theorem refLift_any (base : Int) (u : Nat) (w : World) (hb : In base) (hu : u < 18446744073709551616) : Calls Try.prog 7 #[.int .i64 base, .int .u64 (u : Int)] w fun e w' => e = .returned (.int .i64 (lift base u)) ∧ Below w.heap.size w w' := by
  unfold lift
  split
  · rename_i h; exact refLift_in base u w hb hu h
  · rename_i h; exact refLift_over base u w hb hu (by omega)
end Go.Proofs.Ytlhaahpgkkfhhaa
