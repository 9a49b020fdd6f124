/-
  The document's reader: numbers of a width, short forms.
-/
import Derived.Test.YtefjhiodeaohcaaURd
namespace Go.Proofs.Ytefjhiodeaohcaa
open Go.RowKit Cu

theorem i64_nat (q : Nat) (h : q ≤ 9223372036854775807) : IntKind.i64.wrap (q : Int) = (q : Int) := by rw [IntKind.wrap_i64]; omega
theorem u64_nat (q : Nat) (h : q < 18446744073709551616) : IntKind.u64.wrap (q : Int) = (q : Int) := by rw [IntKind.wrap_u64]; omega
theorem rest_len (r : Rd) : r.rest.length = r.l.length - r.at' := by unfold Rd.rest; rw [List.length_drop]
theorem rest_get {r : Rd} {q : Nat} (h : r.at' + q < r.l.length) : r.rest[q]? = some (ofL r.l (r.at' + q)) := by
  unfold Rd.rest
  rw [List.getElem?_drop, ofL_in h]
/-- What is read from the last byte down. -/
def tailN (r : Rd) (k j : Nat) : Nat := unfx ((r.rest.take k).drop j)
theorem tail_step {r : Rd} {k q : Nat} (hq : q < k) (h : r.at' + k ≤ r.l.length) : tailN r k q = tailN r k (q + 1) * 256 + ofL r.l (r.at' + q) := by
  unfold tailN
  have hl : (r.rest.take k).length = k := by rw [List.length_take, rest_len]; omega
  have e : (r.rest.take k)[q]? = some (ofL r.l (r.at' + q)) := by rw [List.getElem?_take, if_pos hq, rest_get (by omega)]
  obtain ⟨hlt, e2⟩ := List.getElem?_eq_some_iff.1 e
  rw [List.drop_eq_getElem_cons hlt, unfx, e2]
  omega
theorem tail_lt {r : Rd} (hok : r.Ok) {k j : Nat} : tailN r k j < 256 ^ (k - j) := by
  have h1 := unfx_lt ((r.rest.take k).drop j) (fun c hc => hok.rest c (List.mem_of_mem_take (List.mem_of_mem_drop hc)))
  refine Nat.lt_of_lt_of_le h1 (Nat.pow_le_pow_right (by omega) ?_)
  rw [List.length_drop, List.length_take]
  omega
theorem tail_big {r : Rd} (hok : r.Ok) {k j : Nat} (hk : k ≤ 8) : tailN r k j < 18446744073709551616 :=
  Nat.lt_of_lt_of_le (tail_lt hok) (Nat.le_trans (Nat.pow_le_pow_right (by omega) (show k - j ≤ 8 by omega)) (by decide))
theorem tail_end {r : Rd} {k : Nat} : tailN r k k = 0 := by
  unfold tailN
  rw [List.drop_eq_nil_of_le (by rw [List.length_take]; omega)]
  rfl
set_option maxRecDepth 4000 in
set_option maxHeartbeats 4000000 in
theorem rTake {w : World} {lo hi g : Nat} {r : Rd} (h : RefRd w lo hi g r) (k : Nat) (hk : k ≤ 8) (hk1 : 1 ≤ k) :
    Calls Try.prog 42 #[.pointer (some ⟨g, 0, none⟩), .int .i64 (k : Int)] w fun x w' => x = .returned (.int .u64 ((r.fix k).1 : Nat)) ∧ RefRd w' lo hi g (r.fix k).2 ∧ Hit g w w' := by
  obtain ⟨a, c, c0, c1, c2, f1, f2, hB, hz, hc, _, _⟩ := h.cells
  have h1 := h.ok.1
  have h2 := h.len
  have h3 := h.low
  have HH := hid h
  have HB := hid hB
  clear hB hz h
  unfold Rd.fix
  by_cases he : r.e = 0
  · have he' : (r.e : Int) = 0 := by omega
    rw [he'] at c2
    rw [if_neg (by simp [he])]
    by_cases hs : r.rest.length < k
    · rw [if_pos hs]
      rw [rest_len] at hs
      have HC := hid (fun (j : Nat) => rRefused (HH.out.drewN j) r.at' 71 h1 (by omega))
      go_enter Try.func42, Try.ntmps42
      go_wp2_with fail
      go_quiet (fail)
      go_wp2_with (go_at_call 77; refine (HC.out _).mono ?_; rintro e w3 ⟨⟨v3, rfl⟩, h5, h6⟩)
      go_ret
      exact ⟨rfl, h5, (hit_drewN _ _).trans h6⟩
    · rw [if_neg hs]
      rw [rest_len] at hs
      have hat : r.at' + k ≤ r.l.length := by omega
      go_enter Try.func42, Try.ntmps42
      go_wp2_with fail
      go_quiet (fail)
      go_wp2_with fail
      go_loopw [5, 6] (fun x y wr => ∃ (j m : Nat), j ≤ k ∧ y = .int .i64 ((j : Int) - 1) ∧ x = .int .u64 (tailN r k j : Nat) ∧ wr = w.drewN m) (fun _ y _ => (intOf y + 1).toNat)
      case atStart => exact ⟨k, _, Nat.le_refl _, rfl, by rw [tail_end]; rfl, rfl⟩
      case round =>
        obtain ⟨j, m, hj, rfl, rfl, rfl⟩ := hrel
        cases j with
        | zero =>
          rw [show ((0 : Nat) : Int) - 1 = -1 by omega]
          have hset := HH.out.drewN m |>.setAt (m := r.at' + k) hat ((r.at' : Int) + (k : Int)) (by omega)
          have hhit := (hit_drewN (g := g) w m).trans (hit_set (g := g) _ ⟨g, 1, none⟩ (.int .i64 ((r.at' : Int) + (k : Int))) rfl)
          have E1 := hid hset
          have E2 := hid hhit
          have E3 : Hid (tailN r k 0 = unfx (r.rest.take k)) := by show tailN r k 0 = _; unfold tailN; rfl
          generalize tailN r k 0 = z at *
          clear hset hhit
          go_wp2_with fail
          go_ret
          exact ⟨by rw [← E3.out]; rfl, E1.out, E2.out⟩
        | succ q =>
          rw [show ((q + 1 : Nat) : Int) - 1 = (q : Int) by omega]
          obtain ⟨b, o, rfl, _, hcb⟩ := HB.out (r.at' + q) (by omega)
          have hst := tail_step (r := r) (k := k) (q := q) (by omega) hat
          have hbig := tail_big (r := r) HH.out.ok (j := q) hk
          obtain ⟨s, hs1⟩ : ∃ s, r.at' + q = s := ⟨_, rfl⟩
          have hs2 : (r.at' : Int) + (q : Int) = (s : Int) := by omega
          have hs3 := i64_nat s (by omega)
          have hs4 : s < r.l.length := by omega
          rw [hs1] at hcb hst
          obtain ⟨z, hz⟩ : ∃ z, tailN r k q = z := ⟨_, rfl⟩
          obtain ⟨y, hy⟩ : ∃ y, tailN r k (q + 1) = y := ⟨_, rfl⟩
          have hx : ofL r.l s < 256 := ofL_lt (by omega) HH.out.ok.2 s
          rw [hz, hy] at hst
          rw [hz] at hbig
          have Hz := hid hz
          rw [hy]
          clear hz hy hs1
          generalize ofL r.l s = xb at *
          obtain ⟨y6, hy6⟩ : ∃ y6, y * 256 = y6 := ⟨_, rfl⟩
          have hm1 : (y : Int) * 256 = (y6 : Int) := by omega
          have hm2 := u64_nat y6 (by omega)
          have hm3 : (y6 : Int) + (xb : Int) = (z : Int) := by omega
          have hm4 := u64_nat z hbig
          clear hst hy6
          go_wp2_with fail
          go_quiet (fail)
          go_wp2_with fail
          exact ⟨⟨q, _, by omega, rfl, by rw [Hz.out], rfl⟩, by simp [intOf]⟩
  · rw [if_pos he]
    have hd : decide ((r.e : Int) = 0) = false := by simp; omega
    go_enter Try.func42, Try.ntmps42
    go_wp2_with fail
    go_ret
    exact ⟨rfl, HH.out, Hit.refl _ _⟩
end Go.Proofs.Ytefjhiodeaohcaa
