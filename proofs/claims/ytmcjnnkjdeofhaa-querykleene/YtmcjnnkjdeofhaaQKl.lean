/-
  QueryKleene, walked.
-/
import Derived.Test.YtmcjnnkjdeofhaaQSay2
import Derived.Test.YtmcjnnkjdeofhaaQDeep
import Derived.Test.YtmcjnnkjdeofhaaQAwk
namespace Go.Proofs.Ytmcjnnkjdeofhaa
open Go.ChangeShapes Go.WideShapes Go.ChangeAt Go.RowKit Cu Vl
attribute [local go_sem] run_store_float

set_option maxRecDepth 8000 in
set_option maxHeartbeats 16000000 in
theorem queryKleene_any (cols : List Col) (row : List V) (ac : Option Addr) (dc : Nat) (ar : Option Addr) (dr : Nat) (t : T) (w : World) (hC : ColC w ac cols) (hr : Lst vc 4 w ar row) (hrn : row.length ≤ 140737488355328) (hok : ∀ v ∈ row, VOk v) (hm : MT w w.heap.size t) :
    Calls Try.prog 4 #[.slice ac cols.length dc, tv t, .slice ar row.length dr] w fun r w' => r = .returned (.bool true) ∧ Below w.heap.size w w' := by
  have HD := hid fun (W : World) (h : Below w.heap.size w W) => deepT_any t W (hm.later h)
  have HA := hid fun (W : World) => awake_any W
  have HOf := hid fun (W : World) (h : Below w.heap.size w W) => of_any cols row ac dc ar dr W (hC.later h).cl (hr.later h) hC.cn hrn hok
  have HCp := hid fun (W : World) (h : Below w.heap.size w W) => checkPred_any cols ac dc t W (hC.later h) (hm.later h)
  have HTr := hid fun (W : World) (h : Below w.heap.size w W) => callTruth_any cols row ac dc ar dr t W (hC.later h) (hr.later h) hrn hok (hm.later h)
  have HSa := hid fun (W : World) (h : Below w.heap.size w W) (h1 : cpE cols t.abs = 0) (h2 : rowB cols row = true) => says_any cols row ac dc ar dr t W (hC.later h) (hr.later h) hrn hok (hm.later h) h1 h2
  have HN1 : Hid (cpE cols t.abs ≠ 0 → truR cols row t.abs = 0 ∧ truE cols row t.abs ≠ 0) := fun h => by
    have hE : truE cols row t.abs ≠ 0 := by unfold truE; rw [if_pos h]; exact h
    exact ⟨by unfold truR; rw [if_neg hE], hE⟩
  have HN2 : Hid (cpE cols t.abs = 0 → rowB cols row = false → truR cols row t.abs = 0 ∧ truE cols row t.abs ≠ 0) := fun h h2 => by
    have hE : truE cols row t.abs ≠ 0 := by unfold truE; rw [if_neg (by rw [h]; simp), h2]; decide
    exact ⟨by unfold truR; rw [if_neg hE], hE⟩
  have HY : Hid (cpE cols t.abs = 0 → rowB cols row = true → truR cols row t.abs = truQ cols row t.abs ∧ truE cols row t.abs = 0) := fun h h2 => by
    have hE : truE cols row t.abs = 0 := by unfold truE; rw [if_neg (by rw [h]; simp), if_pos h2]
    exact ⟨by unfold truR; rw [if_pos hE], hE⟩
  have b1 := below_new w (.cells (ta t) 28)
  have y1 := Bx.new w (ta t) 28
  obtain ⟨w1, hw1⟩ : ∃ w1, w.alloc (.cells (ta t) 28) = w1 := ⟨_, rfl⟩
  rw [hw1] at b1 y1
  have Y := hid y1
  have B1 := hid b1
  have TX := hid fun (W : World) (h : Below w1.heap.size w1 W) => (Y.out.later h).prd
  obtain ⟨y0, y1', y2, y3, y4, y5, y6, y7, y8⟩ := Y.out.prd
  generalize hcE : cpE cols t.abs = cE at *
  generalize hrB : rowB cols row = rB at *
  generalize htR : truR cols row t.abs = tR at *
  generalize htE : truE cols row t.abs = tE at *
  generalize htQ : truQ cols row t.abs = tQ at *
  clear b1 y1 hC hr hrn hok hm hcE hrB htR htE htQ
  obtain ⟨⟨K, c, op, ⟨vK, vI, vb, vs⟩, l⟩, la, lc, kb, kc, kk⟩ := t
  simp only [T.h, T.la, T.lc, T.kb, T.kc, T.ks, tv, ta, T.pr, pv, pa, prH] at *
  go_enter Try.func4, Try.ntmps4
  go_wp2_with fail
  refine (HD.out _ B1.out).mono ?_
  rintro e w2 ⟨q, rfl, hb2⟩
  have B2 := hid (below_up B1.out hb2)
  have C2 := hid hb2
  clear hw1 hb2 y0 y1' y2 y3 y4 y5 y6 y7 y8
  cases q
  · go_wp2_with fail
    refine (HA.out _).mono ?_
    rintro e w3 ⟨rfl, hb⟩
    have B3 := hid (below_up B2.out hb)
    have C3 := hid (below_up C2.out hb)
    clear hb HA HD B2 C2
    go_wp2_with fail
    refine (HOf.out _ B3.out).mono ?_
    rintro e w4 ⟨rfl, hb⟩
    have B4 := hid (below_up B3.out hb)
    have C4 := hid (below_up C3.out hb)
    clear hb HOf B3 C3
    obtain ⟨y0, y1', y2, y3, y4, y5, y6, y7, y8⟩ := TX.out _ C4.out
    go_wp2_with fail
    refine (HCp.out _ B4.out).mono ?_
    rintro e w5 ⟨rfl, hb⟩
    have B5 := hid (below_up B4.out hb)
    have C5 := hid (below_up C4.out hb)
    clear hb HCp B4 C4 y0 y1' y2 y3 y4 y5 y6 y7 y8
    obtain ⟨y0, y1', y2, y3, y4, y5, y6, y7, y8⟩ := TX.out _ C5.out
    by_cases hc : cE = 0
    · subst hc
      cases rB
      · obtain ⟨h1, h2⟩ := HN2.out rfl rfl
        subst h1
        have h2b : (tE != 0) = true := by simpa using h2
        clear HN1 HN2 HY HSa
        go_wp2_with (go_at_call 17; refine (num_any _ _).mono ?_; rintro e wn ⟨rfl, hwn⟩; subst wn)
        refine (HTr.out _ B5.out).mono ?_
        rintro e w6 ⟨rfl, hb⟩
        have B6 := hid (below_up B5.out hb)
        clear hb y0 y1' y2 y3 y4 y5 y6 y7 y8
        go_wp2_with (go_at_call 17; refine (num_any _ _).mono ?_; rintro e wn ⟨rfl, hwn⟩; subst wn)
        go_ret
        exact ⟨rfl, B6.out⟩
      · obtain ⟨h1, h2⟩ := HY.out rfl rfl
        subst h1 h2
        have HS := hid fun (W : World) (h : Below w.heap.size w W) => HSa.out W h rfl rfl
        clear HN1 HN2 HY HSa
        go_wp2_with (go_at_call 17; refine (num_any _ _).mono ?_; rintro e wn ⟨rfl, hwn⟩; subst wn)
        refine (HTr.out _ B5.out).mono ?_
        rintro e w6 ⟨rfl, hb⟩
        have B6 := hid (below_up B5.out hb)
        have C6 := hid (below_up C5.out hb)
        clear hb y0 y1' y2 y3 y4 y5 y6 y7 y8
        obtain ⟨y0, y1', y2, y3, y4, y5, y6, y7, y8⟩ := TX.out _ C6.out
        go_wp2_with fail
        refine (HS.out _ B6.out).mono ?_
        rintro e w7 ⟨rfl, hb⟩
        have B7 := hid (below_up B6.out hb)
        clear hb y0 y1' y2 y3 y4 y5 y6 y7 y8
        go_wp2_with (go_at_call 17; refine (num_any _ _).mono ?_; rintro e wn ⟨rfl, hwn⟩; subst wn)
        go_ret
        exact ⟨rfl, B7.out⟩
    · obtain ⟨h1, h2⟩ := HN1.out hc
      subst h1
      have hcb : (cE != 0) = true := by simpa using hc
      have h2b : (tE != 0) = true := by simpa using h2
      clear HN1 HN2 HY HSa
      go_wp2_with (go_at_call 17; refine (num_any _ _).mono ?_; rintro e wn ⟨rfl, hwn⟩; subst wn)
      refine (HTr.out _ B5.out).mono ?_
      rintro e w6 ⟨rfl, hb⟩
      have B6 := hid (below_up B5.out hb)
      clear hb y0 y1' y2 y3 y4 y5 y6 y7 y8
      go_wp2_with (go_at_call 17; refine (num_any _ _).mono ?_; rintro e wn ⟨rfl, hwn⟩; subst wn)
      go_ret
      exact ⟨rfl, B6.out⟩
  · go_wp2_with fail
    go_ret
    exact ⟨rfl, B2.out⟩
theorem walk_queryKleene (w : World) (ac : Option Addr) (nc dc : Nat) (cols : List Col) (t : T) (ar : Option Addr) (nr dr : Nat) (row : List V) (hC : CArgL w ac nc dc cols) (hm : MT w w.heap.size t) (hR : VArgL w ar nr dr row) :
    Calls Try.prog 4 #[.slice ac nc dc, tv t, .slice ar nr dr] w fun r w' => r = .returned (.bool true) ∧ Below w.heap.size w w' := by
  obtain rfl := hC.len
  obtain rfl := hR.len
  exact queryKleene_any cols row ac dc ar dr t w ⟨hC.lst, (fun c hc => Nat.le_trans (hC.few c hc) (by decide)), by have := hC.le; have := hC.small; omega⟩ hR.lst (by have := hR.le; have := hR.small; omega) hR.ok hm
end Go.Proofs.Ytmcjnnkjdeofhaa
