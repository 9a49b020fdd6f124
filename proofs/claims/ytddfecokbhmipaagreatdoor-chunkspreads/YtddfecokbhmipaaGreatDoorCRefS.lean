/-
  The document's Spread.
-/
import Derived.Test.YtddfecokbhmipaaGreatDoorCSpread
import Derived.Test.YtddfecokbhmipaaGreatDoorCVal
namespace Go.Proofs.YtddfecokbhmipaaGreatDoor.Ck
open Go.ChangeShapes Go.WideShapes Go.ChangeAt Go.RowKit Cu Bt

abbrev bE : Bool → Value := Value.bool
theorem infoBo : (Tryz.prog.info? 4).map (fun i => (i.zero, i.size, i.bytes)) = some (some (.bool false), 1, 1) := by kernel_rfl
theorem run_oneBo {w : World} {B : Nat} {v : Value} {l : List Bool} (ho : OwnL (one bE) 1 w B 4 v l) (hb : (l.length + 1) * 1 ≤ 140737488355328) (hB : B ≤ w.heap.size) (x : Bool) :
    ∃ g c w', (Builtin.append_ #[22, 22] 22 #[v, .slice (some ⟨w.heap.size, 0, none⟩) 1 1]).run Tryz.prog (w.alloc (.cells #[.bool x] 4)) = .ok (.slice (some ⟨g, 0, none⟩) (l.length + 1) c) w' ∧ OwnL (one bE) 1 w' B 4 (.slice (some ⟨g, 0, none⟩) (l.length + 1) c) (l ++ [x]) ∧ Below B w w' := by
  obtain ⟨g, c, w', h1, h2, h3, _⟩ := lst_one (one_len bE) (by omega) (one_cell (fun _ => rfl)) (t := 22) (ty := 22) Tryz.underlying22 infoBo rfl ho hb (by omega) hB x #[.bool x] rfl
  exact ⟨g, c, w', h1, h2, h3⟩
def spL (n : Nat) (h f : Nat → Bool) (i : Nat) : List Bool := (List.range i).map (sprF n h f)
theorem spL_len (n : Nat) (h f : Nat → Bool) (i : Nat) : (spL n h f i).length = i := by simp [spL]
theorem spL_next (n : Nat) (h f : Nat → Bool) (i : Nat) : spL n h f (i + 1) = spL n h f i ++ [sprF n h f i] := by simp [spL, List.range_succ]
def notN (h : Nat → Bool) : Nat → Bool := fun j => !h j
theorem notN_no {h : Nat → Bool} {i : Nat} (e : h i = true) : Bt.cnt (notN h) (i + 1) = Bt.cnt (notN h) i := by show Bt.cnt _ i + _ = _; simp [notN, e]
theorem notN_yes {h : Nat → Bool} {i : Nat} (e : h i = false) : Bt.cnt (notN h) (i + 1) = Bt.cnt (notN h) i + 1 := by show Bt.cnt _ i + _ = _; simp [notN, e]
theorem sprF_no {n i : Nat} {h f : Nat → Bool} (e : h i = true) : sprF n h f i = false := by simp [sprF, e]
theorem sprF_yes {n i : Nat} {h f : Nat → Bool} (hi : i < n) (e : h i = false) : sprF n h f i = f (Bt.cnt (notN h) i) := by
  show (decide (i < n) && !h i && f (Bt.cnt (notN h) i)) = _
  simp [hi, e]
set_option maxRecDepth 4000 in
set_option maxHeartbeats 4000000 in
theorem ref_spread (aD aN : Option Addr) (m n cD cN : Nat) (f h : Nat → Bool) (w : World) (hn : n ≤ 16777216)
    (hD : ∀ k, k < m → ∃ g o, aD = some ⟨g, o, none⟩ ∧ g < w.heap.size ∧ w.cell? ⟨g, o + k, none⟩ = some (.bool (f k)))
    (hN : ∀ k, k < n → ∃ g o, aN = some ⟨g, o, none⟩ ∧ g < w.heap.size ∧ w.cell? ⟨g, o + k, none⟩ = some (.bool (h k))) :
    Calls Tryz.prog 6 #[.slice aD m cD, .slice aN n cN] w fun e w' => ((m = Bt.cnt (notN h) n ∧ ∃ v, e = .returned (.tuple #[v, .int .i64 0]) ∧ OwnL (one bE) 1 w' w.heap.size 4 v (spL n h f n)) ∨ (m ≠ Bt.cnt (notN h) n ∧ e = .returned (.tuple #[.slice none 0 0, .int .i64 11]))) ∧ Below w.heap.size w w' := by
  have HD : Hid (∀ W, Below w.heap.size w W → ∀ k, k < m → ∃ g o, aD = some ⟨g, o, none⟩ ∧ W.cell? ⟨g, o + k, none⟩ = some (.bool (f k))) := fun W hW k hk => by
    obtain ⟨g, o, e, hg, hc⟩ := hD k hk
    exact ⟨g, o, e, (hW.cell (p := ⟨g, o + k, none⟩) hg).trans hc⟩
  have HN : Hid (∀ W, Below w.heap.size w W → ∀ k, k < n → ∃ g o, aN = some ⟨g, o, none⟩ ∧ W.cell? ⟨g, o + k, none⟩ = some (.bool (h k))) := fun W hW k hk => by
    obtain ⟨g, o, e, hg, hc⟩ := hN k hk
    exact ⟨g, o, e, (hW.cell (p := ⟨g, o + k, none⟩) hg).trans hc⟩
  clear hD hN
  go_enter Tryz.func6, Tryz.ntmps6
  go_wp2_with fail
  go_loopw [6, 7] (fun nx ix wr => ∃ i : Nat, i ≤ n ∧ ix = .int .i64 (i : Int) ∧ nx = .int .i64 ((Bt.cnt (notN h) i : Nat) : Int) ∧ wr = w) (fun _ ix _ => n - (intOf ix).toNat)
  case atStart => exact ⟨0, Nat.zero_le _, rfl, rfl, rfl⟩
  case round =>
    obtain ⟨i, hi, rfl, rfl, rfl⟩ := hrel
    rename World => w
    have hcl := Bt.cnt_le (notN h) i
    by_cases hlt : i < n
    · have hii : (i : Int) < (n : Int) := by omega
      obtain ⟨g, o, rfl, hc⟩ := HN.out _ (Below.refl _ _) i hlt
      cases hh : h i with
      | true =>
        have HE := hid (notN_no hh)
        rw [hh] at hc
        clear hh
        go_wp2_with fail
        exact ⟨⟨i + 1, by omega, by go_num, by rw [HE.out], trivial⟩, by simp [intOf]; omega⟩
      | false =>
        have HE := hid (notN_yes hh)
        rw [hh] at hc
        clear hh
        generalize Bt.cnt (notN h) i = q at *
        go_wp2_with fail
        exact ⟨⟨i + 1, by omega, by go_num, by rw [HE.out]; go_num, trivial⟩, by simp [intOf]; omega⟩
    · have hii : ¬ (i : Int) < (n : Int) := by omega
      obtain rfl : i = n := by omega
      obtain ⟨q, hq⟩ : ∃ q, Bt.cnt (notN h) i = q := ⟨_, rfl⟩
      rw [hq] at hcl
      simp only [hq]
      have HQ := hid hq
      clear hq
      by_cases hmq : m = q
      · subst hmq
        have hmm : ((m : Int) != (m : Int)) = false := by simp
        go_wp2_with fail
        go_loopw [8, 9, 10] (fun vx kx ix wr => ∃ j : Nat, j ≤ i ∧ ix = .int .i64 (j : Int) ∧ kx = .int .i64 ((Bt.cnt (notN h) j : Nat) : Int) ∧ Hid (OwnL (one bE) 1 wr w.heap.size 4 vx (spL i h f j)) ∧ Hid (Below w.heap.size w wr)) (fun _ _ ix _ => i - (intOf ix).toNat)
        case atStart => exact ⟨0, Nat.zero_le _, rfl, rfl, OwnL.nil _ _ _ _ _, Below.refl _ _⟩
        case round =>
          obtain ⟨j, hj, rfl, rfl, HO, HB⟩ := hrel
          rename World => wr
          by_cases hlt2 : j < i
          · have hjj : (j : Int) < (i : Int) := by omega
            obtain ⟨g, o, hg, hc⟩ := HN.out _ HB.out j hlt2
            subst hg
            have hlen := spL_len i h f j
            cases hh : h j with
            | true =>
              have HE := hid (notN_no hh)
              have HS := hid (spL_next i h f j)
              rw [sprF_no hh] at HS
              rw [hh] at hc
              obtain ⟨g4, c4, w4, r4, o4, b4⟩ := run_oneBo HO.out (by omega) HB.out.size false
              have R4 := hid r4
              have HO4 := hid o4
              have HB4 := hid (HB.out.trans b4)
              obtain ⟨g5, o5, hg5, hc5⟩ := HN.out _ HB4.out j hlt2
              rw [hh] at hc5
              cases hg5
              clear hh o4 b4 r4 HO hlen
              generalize Bt.cnt (notN h) j = q at *
              go_wp2_with (at_builtin; refine wpList_app (by rfl) (by rfl) R4.out ?_; clear R4)
              exact ⟨⟨j + 1, by omega, by go_num, by rw [HE.out], by show OwnL _ _ _ _ _ _ _; rw [HS.out]; exact HO4.out, HB4⟩, by simp [intOf]; omega⟩
            | false =>
              have HE := hid (notN_yes hh)
              have hjl : Bt.cnt (notN h) j < m := by
                have h1 := notN_yes hh
                have h2 := Bt.cnt_mono (notN h) (show j + 1 ≤ i by omega)
                have h3 := HQ.out
                omega
              have HS := hid (spL_next i h f j)
              rw [sprF_yes hlt2 hh] at HS
              rw [hh] at hc
              generalize Bt.cnt (notN h) j = q at *
              obtain ⟨gd, od, hgd, hcd⟩ := HD.out _ HB.out q hjl
              subst hgd
              have hqm : (q : Int) < (m : Int) := by omega
              obtain ⟨g4, c4, w4, r4, o4, b4⟩ := run_oneBo HO.out (by omega) HB.out.size (f q)
              have R4 := hid r4
              have HO4 := hid o4
              have HB4 := hid (HB.out.trans b4)
              obtain ⟨g5, o5, hg5, hc5⟩ := HN.out _ HB4.out j hlt2
              rw [hh] at hc5
              cases hg5
              clear hh o4 b4 r4 HO hlen
              go_wp2_with (at_builtin; refine wpList_app (by rfl) (by rfl) R4.out ?_; clear R4)
              exact ⟨⟨j + 1, by omega, by go_num, by rw [HE.out]; go_num, by show OwnL _ _ _ _ _ _ _; rw [HS.out]; exact HO4.out, HB4⟩, by simp [intOf]; omega⟩
          · have hjj : ¬ (j : Int) < (i : Int) := by omega
            obtain rfl : j = i := by omega
            go_wp2_with fail
            go_ret2
            exact ⟨.inl ⟨HQ.out.symm, _, rfl, HO.out⟩, HB.out⟩
      · have hmm : ((m : Int) != (q : Int)) = true := by rw [bne_iff_ne]; omega
        go_wp2_with fail
        go_ret2
        exact ⟨.inr ⟨by rw [HQ.out]; exact hmq, rfl⟩, Below.refl _ _⟩
end Go.Proofs.YtddfecokbhmipaaGreatDoor.Ck
