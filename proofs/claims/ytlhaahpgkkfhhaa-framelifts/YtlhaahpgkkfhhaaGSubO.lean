/-
  math/big: nat.sub into the memory of one of its arguments. (Written by mksubo.py.)
-/
import Derived.Test.YtlhaahpgkkfhhaaGCmp
import Derived.LaidEqlPtr
namespace Go.Proofs.Ytlhaahpgkkfhhaa
open Go.RowKit Fr

set_option maxRecDepth 8000 in
set_option maxHeartbeats 800000 in
theorem norm_free (g c : Nat) (l : List Nat) (w : World) (h : Blk w g 42 .u64 c l.length (ofL l)) (hl : l.length ≤ 8) (hlc : l.length ≤ c) :
    Calls Try.prog 32 #[.slice (some ⟨g, 0, none⟩) l.length c] w fun e w' => ∃ m, e = .returned (.slice (some ⟨g, 0, none⟩) m c) ∧ w' = w ∧ m ≤ l.length ∧ (∀ j, m ≤ j → j < l.length → ofL l j = 0) ∧ (0 < m → ofL l (m - 1) ≠ 0) := by
  have HH := hid h
  clear h
  obtain ⟨n, hn⟩ : ∃ n, l.length = n := ⟨_, rfl⟩
  rw [hn] at HH hl hlc ⊢
  clear hn
  go_enter Try.func32, Try.ntmps32
  go_wp2_with fail
  go_loopw [3] (fun y wr => ∃ i : Nat, i ≤ n ∧ y = .int .i64 (i : Int) ∧ wr = w ∧ Hid (∀ j, i ≤ j → j < n → ofL l j = 0)) (fun y _ => (intOf y).toNat)
  case atStart => exact ⟨n, Nat.le_refl _, rfl, rfl, fun j h1 h2 => by omega⟩
  case round =>
    obtain ⟨i, hi, rfl, hw, HZ⟩ := hrel
    have hw2 := hw.symm
    clear hw
    subst hw2
    by_cases h0 : i = 0
    · subst h0
      have hd0 : decide ((0 : Int) < ((0 : Nat) : Int)) = false := rfl
      go_wp2_with fail
      go_ret
      exact ⟨0, rfl, rfl, Nat.zero_le _, fun j h1 h2 => HZ.out j h1 h2, fun h => absurd h (by omega)⟩
    · obtain ⟨p, rfl⟩ : ∃ p, i = p + 1 := ⟨i - 1, by omega⟩
      have e1 : ((p + 1 : Nat) : Int) - 1 = (p : Int) := by omega
      have hpn : p < n := by omega
      have hcl := HH.out.cell hpn
      have hp0 : (0 : Int) < ((p + 1 : Nat) : Int) := by omega
      have hpn' : (p : Int) < (n : Int) := by omega
      by_cases hz : ofL l p = 0
      · have hzd : ((ofL l p : Nat) : Int) = 0 := by omega
        rw [hz] at hcl
        have HZ2 : Hid (∀ j, p ≤ j → j < n → ofL l j = 0) := fun j h1 h2 => by
          by_cases h3 : j = p
          · rw [h3]; exact hz
          · exact HZ.out j (by omega) h2
        clear HZ
        go_wp2_with fail
        exact ⟨⟨p, by omega, by go_num, trivial, HZ2⟩, by simp [intOf]⟩
      · have hzd : (((ofL l p : Nat) : Int) == 0) = false := by simpa using hz
        have HNZ := hid hz
        clear hz
        generalize hq : ofL l p = q at *
        go_wp2_with fail
        go_ret
        exact ⟨p + 1, rfl, rfl, hi, HZ.out, fun _ => by simpa [hq] using HNZ.out⟩
set_option maxRecDepth 8000 in
set_option maxHeartbeats 800000 in
theorem make_own (g n c : Nat) (w : World) (hc : 2 ≤ c) : Calls Try.prog 29 #[.slice (some ⟨g, 0, none⟩) n c, .int .i64 2] w fun e w' => e = .returned (.slice (some ⟨g, 0, none⟩) 2 c) ∧ w' = w := by
  have hci : (2 : Int) ≤ (c : Int) := by omega
  go_enter Try.func29, Try.ntmps29
  go_wp2_with fail
  go_ret
  exact ⟨rfl, rfl⟩
set_option maxRecDepth 8000 in
set_option maxHeartbeats 800000 in
theorem make_more (a : Option Addr) (n : Nat) (w : World) : Calls Try.prog 29 #[.slice a n 1, .int .i64 2] w fun e w' => e = .returned (.slice (some ⟨w.heap.size, 0, none⟩) 2 6) ∧ Blk w' w.heap.size 42 .u64 6 2 (fun _ => 0) ∧ Below w.heap.size w w' := by
  obtain ⟨i0, hi, hz0, hz1, hz2⟩ := info_parts infoW
  have hmk := fun wx => run_make (P := Try.prog) wx 29 42 i0 (.int .u64 0) Try.underlying29 hi hz0 .i64 .i64 (2 : Int) (6 : Int) (by omega) (by omega) (by rw [hz2]; omega) (by omega)
  simp only [hz1] at hmk
  have HB := hid (made_blk w 2 6 (by omega))
  clear hi hz0 hz1 hz2
  go_enter Try.func29, Try.ntmps29
  go_wp2_with fail
  go_ret
  exact ⟨rfl, HB.out, below_new _ _⟩
/-- What nat.sub leaves: a number in block g or in a new one, and no other block touched. -/
structure SubO (w w' : World) (g : Nat) (e : Ending) (n : Nat) : Prop where
  num : ∃ v ws, e = .returned v ∧ NatAt w' v ws ∧ nv ws = n ∧ ∀ b, v.ownBlock = some b → b = g ∨ b = w.heap.size
  os : w'.os = w.os
  tape : w'.tape = w.tape
  output : w'.output = w.output
  size : w.heap.size ≤ w'.heap.size
  block : ∀ j, j < w.heap.size → j ≠ g → w'.heap[j]? = w.heap[j]?
theorem natAt_norm {w : World} {g c m : Nat} {l : List Nat} (hB : Blk w g 42 .u64 c l.length (ofL l)) (hm : m ≤ l.length) (hl : l.length = 2) (hz : ∀ j, m ≤ j → j < l.length → ofL l j = 0) (hnz : 0 < m → ofL l (m - 1) ≠ 0) (hlt : ∀ x ∈ l, x < 18446744073709551616) : NatAt w (.slice (some ⟨g, 0, none⟩) m c) (l.take m) ∧ nv (l.take m) = nv l := by
  have hk : (l.take m).length = m := by rw [List.length_take]; omega
  refine ⟨⟨.inr ⟨g, c, by rw [hk], ?_⟩, fun x hx => hlt x (List.mem_of_mem_take hx), fun x hx => ?_, by omega⟩, ?_⟩
  · rw [hk]
    refine (hB.less hm).ext fun j hj => ?_
    unfold ofL
    rw [List.getD_eq_getElem?_getD, List.getD_eq_getElem?_getD, List.getElem?_take, if_pos hj]
  · have h0 : 0 < m := by
      apply Nat.lt_of_not_le
      intro h
      have : m = 0 := by omega
      subst this
      simp at hx
    have h1 := hnz h0
    rw [List.getLast?_eq_getElem?, hk, List.getElem?_take, if_pos (by omega)] at hx
    intro hx0
    subst hx0
    apply h1
    unfold ofL
    rw [List.getD_eq_getElem?_getD, hx]
    rfl
  · match l, hl with
    | [a, b], _ =>
      match m, hm with
      | 0, _ =>
        have h0 := hz 0 (Nat.le_refl _) (by simp)
        have h1 := hz 1 (by omega) (by simp)
        simp [ofL] at h0 h1
        simp [nv, h0, h1]
      | 1, _ =>
        have h1 := hz 1 (Nat.le_refl _) (by simp)
        simp [ofL] at h1
        simp [nv, h1]
      | 2, _ => rfl
set_option maxRecDepth 8000 in
set_option maxHeartbeats 2000000 in
theorem sub_ownB (gx cx gy cy x0 : Nat) (w : World) (hX : Blk w gx 42 .u64 cx 2 (ofL [x0, 1])) (hY : Blk w gy 42 .u64 cy 2 (ofL [0, 1])) (hne : gx ≠ gy) (hx0 : x0 < 18446744073709551616) :
    Calls Try.prog 22 #[.slice (some ⟨gx, 0, none⟩) 2 cx, .slice (some ⟨gx, 0, none⟩) 2 cx, .slice (some ⟨gy, 0, none⟩) 2 cy] w fun e w' => SubO w w' gx e x0 := by
  have hcx := hX.le
  have hcy := hY.le
  have hen := subVV_enters
  have HM := hid (make_own gx 2 cx w hcx)
  have HVV := hid (fun q : Nat => subVV_any gx cx 2 2 (some ⟨gx, 0, none⟩) (some ⟨gy, 0, none⟩) cx cy (ofL [x0, 1]) (ofL [0, 1]) (ofL [x0, 1]) (w.drewN q) (by omega) (by omega) (hX.kept rfl) (fun j => ofL_lt (by omega) (by intro c hc; simp at hc; omega) j) (fun j => ofL_lt (by omega) (by intro c hc; simp at hc; omega) j)
    (fun wr i hi hb _ => ⟨gx, 0, rfl, by rw [Nat.zero_add, hb.cell hi]; simp [mixW]⟩)
    (fun wr i hi _ ho => ⟨gy, 0, rfl, by
      rw [World.cell?_of_block (w := w.drewN q) (a := ⟨gy, 0 + i, none⟩) (ho.block gy (fun e => hne e.symm)), Nat.zero_add]
      exact (hY.kept (w' := w.drewN q) rfl).cell hi⟩))
  have e1 : cSub (ofL [x0, 1]) (ofL [0, 1]) 2 = 0 := by simp [cSub, ofL]
  have hs0 : sSub (ofL [x0, 1]) (ofL [0, 1]) 0 = x0 := by
    simp [sSub, cSub, ofL]
    omega
  have hs1 : sSub (ofL [x0, 1]) (ofL [0, 1]) 1 = 0 := by simp [sSub, cSub, ofL]
  rw [e1] at HVV
  have HS := hid (And.intro hs0 hs1)
  have h1' : (2 : Int) ≤ (cx : Int) := by omega
  have h2' : (2 : Int) ≤ (cy : Int) := by omega
  clear hX hY hs0 hs1 e1
  go_enter Try.func22, Try.ntmps22
  go_wp2_with fail
  refine HM.out.mono ?_
  rintro e w1 ⟨rfl, rfl⟩
  clear HM
  go_wp2_with fail
  go_region_with (go_at_call 15; refine (HVV.out _).mono ?_; rintro e w2 ⟨rfl, hB2, ho2⟩)
  all_goals (
    have HB3 : Hid (Blk w2 gx 42 .u64 cx [x0, 0].length (ofL [x0, 0])) := hB2.ext (fun j hj => by
      match j, hj with
      | 0, _ => simp [mixW, ofL]; exact HS.out.1
      | 1, _ => simp [mixW, ofL]; exact HS.out.2)
    have HO := hid ho2
    clear HVV hB2 ho2 hen
    go_wp2_with fail
    have HN := hid (norm_free gx cx [x0, 0] w2 HB3.out (by simp) (by simpa using hcx))
    refine HN.out.mono ?_
    rintro e w4 ⟨m, rfl, hw4, hm, hz, hnz⟩
    have hw5 := hw4.symm
    clear hw4
    subst hw5
    have HF := hid (natAt_norm HB3.out hm rfl hz hnz (by intro x hx; simp at hx; omega))
    clear hm hz hnz HN
    go_wp2_with fail
    go_ret
    exact ⟨⟨_, _, rfl, HF.out.1, by rw [HF.out.2]; simp [nv], fun b hb => .inl (by simp [Value.ownBlock] at hb; exact hb.symm)⟩, HO.out.os, HO.out.tape, HO.out.output, by rw [HO.out.size]; exact Nat.le_refl _, fun j _ hj => HO.out.block j hj⟩)
end Go.Proofs.Ytlhaahpgkkfhhaa
