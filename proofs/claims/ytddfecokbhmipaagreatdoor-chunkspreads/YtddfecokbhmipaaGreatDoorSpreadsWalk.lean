import Derived.Test.YtddfecokbhmipaaGreatDoorCKnown
import Derived.Test.YtddfecokbhmipaaGreatDoorCRefS
import Derived.Test.YtddfecokbhmipaaGreatDoorCSmB
import Derived.Test.YtddfecokbhmipaaGreatDoorBAll
/-
  ChunkSpreads: the walk.
-/
namespace Go.Proofs.YtddfecokbhmipaaGreatDoor.Ck
open Go.ChangeShapes Go.WideShapes Go.ChangeAt Go.RowKit Cu

theorem own_bools {w : World} {B : Nat} {v : Value} {l : List Bool} (h : OwnL (one bE) 1 w B 4 v l) : ∃ a c, v = .slice a l.length c ∧ ∀ k x, l[k]? = some x → ∃ g o, a = some ⟨g, o, none⟩ ∧ g < w.heap.size ∧ w.cell? ⟨g, o + k, none⟩ = some (.bool x) := by
  obtain ⟨a, c, rfl, _, _, _, h4, _⟩ := OwnL.form (one_len _) h
  refine ⟨a, c, rfl, fun k x hx => ?_⟩
  obtain ⟨g, o, e, hg, hc⟩ := h4 k x hx
  exact ⟨g, o, e, hg, by simpa using hc 0 _ rfl⟩
theorem spL_at {n : Nat} {h f : Nat → Bool} {k : Nat} (hk : k < n) : (spL n h f n)[k]? = some (sprF n h f k) := by simp [spL, hk]
set_option maxRecDepth 8000 in
set_option maxHeartbeats 4000000 in
theorem spreads_walk (aD : Option Addr) (D : List Bool) (cD : Nat) (aN : Option Addr) (N : List Bool) (cN : Nat) (w : World) (hT : Bt.Tab w) (hD : Bt.BoolsAt w aD D) (hN : Bt.BoolsAt w aN N) :
    Calls Tryz.prog 3 #[.slice aD D.length cD, .slice aN N.length cN] w fun e w' => e = .returned (.bool true) ∧ Below w.heap.size w w' := by
  have HOD : Hid (D.length ≤ 16777216 → ∀ W, Below w.heap.size w W → Calls Tryz.prog 8 #[.slice aD D.length cD] W fun e w' => ∃ d g, e = .returned (.pointer (some ⟨d, 0, none⟩)) ∧ Bt.NewSet w' d g D.length (Bt.packF D.length fun j => D.getD j false) ∧ Below W.heap.size W w') := fun hm W hW => by
    refine (Bt.of_yes aD D cD W ?_ hm).mono ?_
    · intro k hk
      obtain ⟨g, o, e, hg, hc⟩ := hD k hk
      exact ⟨g, o, e, Nat.lt_of_lt_of_le hg hW.size, (hW.cell (p := ⟨g, o + k, none⟩) hg).trans hc⟩
    · rintro e w' ⟨d, g, h1, _, _, h2, h3⟩
      exact ⟨d, g, h1, h2, h3⟩
  have HON : Hid (N.length ≤ 16777216 → ∀ W, Below w.heap.size w W → Calls Tryz.prog 8 #[.slice aN N.length cN] W fun e w' => ∃ d g, e = .returned (.pointer (some ⟨d, 0, none⟩)) ∧ Bt.NewSet w' d g N.length (Bt.packF N.length fun j => N.getD j false) ∧ Below W.heap.size W w') := fun hm W hW => by
    refine (Bt.of_yes aN N cN W ?_ hm).mono ?_
    · intro k hk
      obtain ⟨g, o, e, hg, hc⟩ := hN k hk
      exact ⟨g, o, e, Nat.lt_of_lt_of_le hg hW.size, (hW.cell (p := ⟨g, o + k, none⟩) hg).trans hc⟩
    · rintro e w' ⟨d, g, h1, _, _, h2, h3⟩
      exact ⟨d, g, h1, h2, h3⟩
  have HRS : Hid (N.length ≤ 16777216 → ∀ W, Below w.heap.size w W → Calls Tryz.prog 6 #[.slice aD D.length cD, .slice aN N.length cN] W fun e w' => ((D.length = Bt.cnt (notN fun j => N.getD j false) N.length ∧ ∃ v, e = .returned (.tuple #[v, .int .i64 0]) ∧ OwnL (one bE) 1 w' W.heap.size 4 v (spL N.length (fun j => N.getD j false) (fun j => D.getD j false) N.length)) ∨ (D.length ≠ Bt.cnt (notN fun j => N.getD j false) N.length ∧ e = .returned (.tuple #[.slice none 0 0, .int .i64 11]))) ∧ Below W.heap.size W w') := fun hm W hW => by
    refine ref_spread aD aN D.length N.length cD cN _ _ W hm ?_ ?_
    · intro k hk
      obtain ⟨g, o, e, hg, hc⟩ := hD k hk
      exact ⟨g, o, e, Nat.lt_of_lt_of_le hg hW.size, (hW.cell (p := ⟨g, o + k, none⟩) hg).trans hc⟩
    · intro k hk
      obtain ⟨g, o, e, hg, hc⟩ := hN k hk
      exact ⟨g, o, e, Nat.lt_of_lt_of_le hg hW.size, (hW.cell (p := ⟨g, o + k, none⟩) hg).trans hc⟩
  obtain ⟨m, hm⟩ : ∃ m, D.length = m := ⟨_, rfl⟩
  obtain ⟨n, hn⟩ : ∃ n, N.length = n := ⟨_, rfl⟩
  obtain ⟨f, hf⟩ : ∃ f : Nat → Bool, (fun j => D.getD j false) = f := ⟨_, rfl⟩
  obtain ⟨h, hh⟩ : ∃ h : Nat → Bool, (fun j => N.getD j false) = h := ⟨_, rfl⟩
  simp only [hm, hn, hf, hh] at HOD HON HRS ⊢
  have HKn := hid (known_any w hT)
  have HTb := hid hT
  clear hm hn hf hh hD hN hT
  go_enter Tryz.func3, Tryz.ntmps3
  go_wp2_with fail
  refine HKn.out.mono ?_
  rintro e w1 ⟨rfl, c1⟩
  replace HTb := hid (HTb.out.later c1 HTb.out.1)
  have HB := hid c1
  clear HKn c1
  by_cases hm : (16777216 : Int) < (m : Int)
  · go_wp2_with fail
    go_ret
    exact ⟨rfl, HB.out⟩
  by_cases hn : (16777216 : Int) < (n : Int)
  · go_wp2_with fail
    go_ret
    exact ⟨rfl, HB.out⟩
  have hm' : m ≤ 16777216 := by omega
  have hn' : n ≤ 16777216 := by omega
  have H1 := hid (HRS.out hn' w1 HB.out)
  clear HRS
  go_wp2_with fail
  refine H1.out.mono ?_
  rintro e w2 ⟨hcase, c2⟩
  replace HTb := hid (HTb.out.later c2 HTb.out.1)
  replace HB := hid (below_up HB.out c2)
  clear c2 H1
  have H1 := hid (HOD.out hm' w2 HB.out)
  rcases hcase with ⟨hq, v, rfl, hO⟩ | ⟨hq, rfl⟩
  · have HQ := hid hq
    clear hq
    obtain ⟨aO, cO, rfl, hcs⟩ := own_bools hO
    rw [spL_len]
    have HO : Hid (∀ W, Below w2.heap.size w2 W → ∀ k, k < n → ∃ g o, aO = some ⟨g, o, none⟩ ∧ g < W.heap.size ∧ W.cell? ⟨g, o + k, none⟩ = some (.bool (sprF n h f k))) := fun W hW k hk => by
      obtain ⟨g, o, e, hg, hc⟩ := hcs k _ (spL_at hk)
      exact ⟨g, o, e, Nat.lt_of_lt_of_le hg hW.size, (hW.cell (p := ⟨g, o + k, none⟩) hg).trans hc⟩
    clear hO hcs
    go_wp2_with fail
    refine H1.out.mono ?_
    rintro e w3 ⟨d3, g3, rfl, hS3, c3⟩
    replace HTb := hid (HTb.out.later c3 HTb.out.1)
    replace HB := hid (below_up HB.out c3)
    have HBB := hid c3
    have HS3 := hid hS3
    clear c3 H1 hS3
    have H2 := hid (HON.out hn' w3 HB.out)
    go_wp2_with fail
    refine H2.out.mono ?_
    rintro e w4 ⟨d4, g4, rfl, hS4, c4⟩
    replace HTb := hid (HTb.out.later c4 HTb.out.1)
    replace HB := hid (below_up HB.out c4)
    replace HBB := hid (below_up HBB.out c4)
    replace HS3 := hid (set_later HS3.out c4)
    clear c4 H2
    have H3 := hid (spread_any d3 d4 m n f h w4 HS3.out.is hm' hS4.is hn' HTb.out HQ.out)
    clear hS4 HS3
    go_wp2_with fail
    refine H3.out.mono ?_
    rintro e w5 ⟨d5, g5, rfl, _, _, hS5, c5⟩
    replace HB := hid (below_up HB.out c5)
    replace HBB := hid (below_up HBB.out c5)
    have HS5 := hid hS5
    clear c5 H3 hS5
    have H4 := hid (HON.out hn' w5 HB.out)
    go_wp2_with fail
    refine H4.out.mono ?_
    rintro e w6 ⟨d6, g6, rfl, _, c6⟩
    replace HB := hid (below_up HB.out c6)
    replace HBB := hid (below_up HBB.out c6)
    replace HS5 := hid (set_later HS5.out c6)
    clear c6 H4
    have H5 := hid (spread_nil1 (some ⟨d6, 0, none⟩) w6)
    go_wp2_with fail
    refine H5.out.mono ?_
    rintro e w7 ⟨rfl, c7⟩
    replace HB := hid (below_up HB.out c7)
    replace HBB := hid (below_up HBB.out c7)
    replace HS5 := hid (set_later HS5.out c7)
    clear c7 H5
    have H6 := hid (HOD.out hm' w7 HB.out)
    go_wp2_with fail
    refine H6.out.mono ?_
    rintro e w8 ⟨d8, g8, rfl, _, c8⟩
    replace HB := hid (below_up HB.out c8)
    replace HBB := hid (below_up HBB.out c8)
    replace HS5 := hid (set_later HS5.out c8)
    clear c8 H6
    have H7 := hid (spread_nil2 d8 w8)
    go_wp2_with fail
    refine H7.out.mono ?_
    rintro e w9 ⟨rfl, c9⟩
    replace HBB := hid (below_up HBB.out c9)
    replace HB := hid (below_up HB.out c9)
    replace HS5 := hid (set_later HS5.out c9)
    clear c9 H7
    have H8 := hid (sameBits_yes d5 n (sprF n h f) aO cO w9 HS5.out.is hn' (HO.out w9 HBB.out))
    go_wp2_with fail
    refine H8.out.mono ?_
    rintro e w10 ⟨rfl, c10⟩
    replace HB := hid (below_up HB.out c10)
    clear H8 c10
    go_wp2_with fail
    go_ret
    exact ⟨rfl, HB.out⟩
  · have HQ : Hid (m ≠ Bt.cnt (fun j => !h j) n) := hq
    clear hq
    go_wp2_with fail
    refine H1.out.mono ?_
    rintro e w3 ⟨d3, g3, rfl, hS3, c3⟩
    replace HB := hid (below_up HB.out c3)
    have HS3 := hid hS3
    clear c3 H1 hS3
    have H2 := hid (HON.out hn' w3 HB.out)
    go_wp2_with fail
    refine H2.out.mono ?_
    rintro e w4 ⟨d4, g4, rfl, hS4, c4⟩
    replace HB := hid (below_up HB.out c4)
    replace HS3 := hid (set_later HS3.out c4)
    clear c4 H2
    have H3 := hid (spread_size d3 d4 m n f h w4 HS3.out.is hS4.is hn' HQ.out)
    clear hS4 HS3
    go_wp2_with fail
    refine H3.out.mono ?_
    rintro e w5 ⟨rfl, c5⟩
    replace HB := hid (below_up HB.out c5)
    clear c5 H3
    have H4 := hid (HON.out hn' w5 HB.out)
    go_wp2_with fail
    refine H4.out.mono ?_
    rintro e w6 ⟨d6, g6, rfl, _, c6⟩
    replace HB := hid (below_up HB.out c6)
    clear c6 H4
    have H5 := hid (spread_nil1 (some ⟨d6, 0, none⟩) w6)
    go_wp2_with fail
    refine H5.out.mono ?_
    rintro e w7 ⟨rfl, c7⟩
    replace HB := hid (below_up HB.out c7)
    clear c7 H5
    have H6 := hid (HOD.out hm' w7 HB.out)
    go_wp2_with fail
    refine H6.out.mono ?_
    rintro e w8 ⟨d8, g8, rfl, _, c8⟩
    replace HB := hid (below_up HB.out c8)
    clear c8 H6
    have H7 := hid (spread_nil2 d8 w8)
    go_wp2_with fail
    refine H7.out.mono ?_
    rintro e w9 ⟨rfl, c9⟩
    replace HB := hid (below_up HB.out c9)
    clear H7 c9
    go_wp2_with fail
    go_ret
    exact ⟨rfl, HB.out⟩
end Go.Proofs.YtddfecokbhmipaaGreatDoor.Ck
