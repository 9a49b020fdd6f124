/-
  The law's rows.
-/
import Derived.Test.YtjphnkjikemghaaUFam
import Derived.Test.YtjphnkjikemghaaUPuts
namespace Go.Proofs.Ytjphnkjikemghaa
open Go.RowKit Cu

theorem Fam.grown {w w' : World} {lo B k : Nat} {vs : List Value} {Ls : List (List Nat)} {vm : Value} {xs : List Value} (h : Fam w lo vs Ls) (hm : w.ownsRow B 22 1 vm k xs) (hg : w.grownBy w' vm.ownBlock) : Fam w' lo vs Ls :=
  ⟨h.len, fun i v L hv hL => World.ownsRow.kept (h.own i v L hv hL) hg (rows_apart (h.own i v L hv hL) hm (by decide)), h.inj⟩
theorem row_kept {w w' : World} {B k : Nat} {e : TypeId} {v : Value} {xs : List Value} (h : w.ownsRow B e 1 v k xs) (hk : ∀ g, v.ownBlock = some g → w'.heap[g]? = w.heap[g]?) : w'.ownsRow B e 1 v k xs := by
  rcases h.2 with ⟨rfl, rfl⟩ | ⟨g, cap, cur, rfl, hb, hg, hr⟩
  · exact ⟨h.1, .inl ⟨rfl, rfl⟩⟩
  · exact ⟨h.1, .inr ⟨g, cap, cur, rfl, hb, (hk g rfl).trans hg, hr⟩⟩
theorem row_later {w w' : World} {B k : Nat} {e : TypeId} {v : Value} {xs : List Value} (h : w.ownsRow B e 1 v k xs) (hb : Below w.heap.size w w') : w'.ownsRow B e 1 v k xs := row_kept h fun g hg => hb.block g (World.ownsRow.lt h g hg).2
/-- A row of such, read. -/
theorem fam_rws {w : World} {lo B k : Nat} {vs : List Value} {Ls : List (List Nat)} {v : Value} (h : Fam w lo vs Ls) (hr : w.ownsRow B 22 1 v k vs) : ∃ a c, v = .slice a k c ∧ c ≤ maxLen ∧ Rws w a Ls := by
  obtain ⟨a, c, hv, hc, hx⟩ := row_formB hr
  refine ⟨a, c, hv, hc, fun i L hL => ?_⟩
  have hi := (List.getElem?_eq_some_iff.1 hL).1
  rw [← h.len] at hi
  have hvi := List.getElem?_eq_getElem hi
  obtain ⟨g, hg, hcell⟩ := hx i _ hvi
  have ho := h.own i _ L hvi hL
  obtain ⟨b, d, hb, _⟩ := ho.form
  rw [hb] at hcell ho
  exact ⟨g, 0, b, d, hg, by rw [Nat.zero_add]; exact hcell, ho.nums⟩
set_option maxRecDepth 4000 in
set_option maxHeartbeats 2000000 in
theorem rows_any (a : Option Addr) (Ls : List (List Nat)) (c : Nat) (w : World) (hA : Rws w a Ls) (hn : Ls.length ≤ 4294967296) (hL : ∀ L ∈ Ls, L.length ≤ 1099511627776) (hz : ∀ (i : Nat) (L : List Nat), Ls[i]? = some L → ∀ (g o : Nat), a = some ⟨g, o, none⟩ → ∀ (b : Option Addr) (d : Nat), w.cell? ⟨g, o + i, none⟩ = some (.slice b L.length d) → b = none → L.length = 0 ∧ d = 0) :
    Calls Try.prog 5 #[.slice a Ls.length c] w fun e w' => ∃ v vs, e = .returned v ∧ w'.ownsRow w.heap.size 22 1 v Ls.length vs ∧ Fam w' w.heap.size vs Ls ∧ Below w.heap.size w w' := by
  have HA := hid hA
  have HL := hid hL
  have HZ := hid hz
  clear hA hL hz
  go_enter Try.func5, Try.ntmps5
  go_wp2_with fail
  go_loopw [3, 4] (fun vm y wr => ∃ (i : Nat) (vs : List Value), i ≤ Ls.length ∧ y = .int .i64 (i : Int) ∧ wr.ownsRow w.heap.size 22 1 vm i vs ∧ Fam wr w.heap.size vs (Ls.take i) ∧ Below w.heap.size w wr) (fun _ y _ => Ls.length - (intOf y).toNat)
  case atStart => exact ⟨0, [], Nat.zero_le _, rfl, ⟨by simp, .inl ⟨rfl, rfl⟩⟩, by simpa using Fam.nil w _, Below.refl _ _⟩
  case round =>
    obtain ⟨i, vs, hi, rfl, hr, hF, hB⟩ := hrel
    by_cases hlt : i < Ls.length
    · have hii : (i : Int) < (Ls.length : Int) := by omega
      have hLi : Ls[i]? = some Ls[i] := List.getElem?_eq_getElem hlt
      have htk : Ls.take (i + 1) = Ls.take i ++ [Ls[i]] := by rw [List.take_add_one, hLi]; rfl
      generalize Ls[i] = L at hLi htk
      obtain ⟨g1, o1, b1, c1, rfl, k1, B1⟩ := HA.out i L hLi
      have hb1 := HZ.out i L hLi g1 o1 rfl b1 c1 k1
      have hLl := HL.out L (List.mem_of_getElem? hLi)
      have k2 := (hB.cell (p := ⟨g1, o1 + i, none⟩) (inHeap k1)).trans k1
      obtain ⟨v1, w4, hr4, o4, b4⟩ := run_appL (l := []) (c := c1) (Own.nil wr wr.heap.size _ _ _) (B1.later hB) hb1 (by simp; omega) (Nat.le_refl _)
      rw [List.nil_append] at o4
      have hB4 := b4 wr (Below.refl _ _)
      have hN4 : NewL wr w4 v1 L := ⟨o4, hB4⟩
      have hF4 := hF.snoc hN4 hB.size
      rw [← htk] at hF4
      have hr4r : w4.ownsRow w.heap.size 22 1 _ i vs := row_later hr hB4
      obtain ⟨a1, d1, hv1, hd1, hd2, hd3⟩ := o4.form
      have hone : v1.oneCell' = true := by rw [hv1]; rfl
      obtain ⟨g3, c3, w3, hr3, ho3, hg3, _⟩ := run_oneV (t := 28) (ty := 28) Try.underlying28 infoSB rfl hr4r (by omega) (by omega) (by have := hB.size; have := hB4.size; omega) v1 hone
      have hF3 : Fam w3 w.heap.size (vs ++ [v1]) (Ls.take (i + 1)) := (hF4.later (below_new w4 _)).grown (World.ownsRow.alloc hr4r _) hg3
      have hB3 : Below w.heap.size w w3 := ((below_up hB hB4).alloc (below_up hB hB4).size _).grown hg3 (by have := (below_up hB hB4).size; simp; omega) (fun j hj => (World.ownsRow.lt hr4r j hj).1)
      have R4 := hid hr4
      have R3 := hid hr3
      have HO3 := hid ho3
      have HF3 := hid hF3
      have HB3 := hid hB3
      clear hr4 hr3 ho3 hF3 hB3 hF4 hr4r o4 hN4 hr hF hB b4 B1 hg3 hone
      subst hv1
      go_wp2_with (at_builtin; first | (refine wpList_app (by rfl) (by rfl) R4.out ?_; clear R4) | (refine wpList_app (by rfl) (by rfl) R3.out ?_; clear R3))
      exact ⟨⟨i + 1, _, by omega, by go_num, HO3.out, HF3.out, HB3.out⟩, by simp [intOf]; omega⟩
    · obtain rfl : i = Ls.length := by omega
      rw [List.take_length] at hF
      have HR := hid hr
      have HF := hid hF
      have HB := hid hB
      clear hr hF hB
      go_wp2_with fail
      go_ret
      exact ⟨_, vs, rfl, HR.out, HF.out, HB.out⟩
end Go.Proofs.Ytjphnkjikemghaa
