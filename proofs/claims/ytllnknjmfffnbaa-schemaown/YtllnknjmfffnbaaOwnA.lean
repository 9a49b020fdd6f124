/-
  The law's marked, stays.
-/
import Derived.Test.YtllnknjmfffnbaaRFam2
import Derived.Test.YtllnknjmfffnbaaBackWalk
namespace Go.Proofs.Ytllnknjmfffnbaa
open Go.ChangeShapes Go.WideShapes Go.ChangeAt Go.RowKit Cu

def mk (k : Int) : Col := ⟨⟨#[]⟩, k, false⟩
def mks : List Col := [mk 81, mk 82]
set_option maxHeartbeats 2000000 in
theorem marked_any (a : Option Addr) (l : List Col) (d : Nat) (w : World) (hL : Lst cc 3 w a l) (ha : a = none → l.length = 0 ∧ d = 0) (hl : l.length * 32 + 64 ≤ 140737488355328) :
    Calls Try.prog 32 #[.slice a l.length d] w fun e w' => ∃ v, e = .returned v ∧ NewC w w' v (l ++ mks) := by
  have HC := hid (columns_any a l d w hL ha (by omega))
  clear hL ha
  go_enter Try.func32, Try.ntmps32
  go_wp2_with fail
  refine HC.out.mono ?_
  rintro e w1 ⟨v1, rfl, hN1⟩
  have hb := below_new w1 (.cells #[.string ⟨#[]⟩, .int .i64 81, .bool false, .string ⟨#[]⟩, .int .i64 82, .bool false] 25)
  obtain ⟨v2, w2, hr, h1, h2⟩ := lst_many (f := cc) (k := 3) cc_len (by omega) cc_one (B := w.heap.size) (t := 22) (ty := 22) (c := 2) (r := mks) Try.underlying22 infoC rfl (hN1.1.later hb) (lst_cells (Bx.new w1 #[.string ⟨#[]⟩, .int .i64 81, .bool false, .string ⟨#[]⟩, .int .i64 82, .bool false] 25) rfl) (fun h => by cases h) (by rw [show mks.length = 2 from rfl]; omega) (by omega) (below_up hN1.2 hb).size
  rw [show mks.length = 2 from rfl] at hr
  have HR := hid hr
  have H := hid (And.intro h1 (h2 w (below_up hN1.2 hb)))
  clear hr h1 h2 hN1 hb HC
  go_wp2_with (at_builtin; refine wpList_app (by rfl) (by rfl) HR.out ?_)
  go_ret
  exact ⟨_, rfl, H.out⟩
set_option maxRecDepth 4000 in
set_option maxHeartbeats 4000000 in
theorem stays_any (a b : Option Addr) (l : List Col) (c d : Nat) (w : World) (hL : Lst cc 3 w a (l ++ mks)) (hR : Lst cc 3 w b l) (hl : l.length + 2 ≤ 140737488355328) :
    Calls Try.prog 16 #[.slice a (l.length + 2) c, .slice b l.length d] w fun e w' => e = .returned (.bool true) ∧ ∃ j, w' = w.drewN j := by
  have HL := hid hL
  have HR := hid hR
  clear hL hR
  obtain ⟨n, hn⟩ : ∃ n, l.length = n := ⟨_, rfl⟩
  have HN := hid hn
  rw [hn]
  rw [hn] at hl
  clear hn
  go_enter Try.func16, Try.ntmps16
  go_wp2_with fail
  go_loopw [6] (fun y wr => ∃ i : Nat, i ≤ n ∧ y = .int .i64 (i : Int) ∧ Hid (∃ m, wr = w.drewN m)) (fun y _ => n - (intOf y).toNat)
  case atStart => exact ⟨0, Nat.zero_le _, rfl, 0, rfl⟩
  case round =>
    obtain ⟨i, hi, rfl, HW⟩ := hrel
    rename World => wr
    have hk : wr.heap = w.heap := by obtain ⟨m, rfl⟩ := HW.out; rfl
    by_cases hlt : i < n
    · have hii : (i : Int) < (n : Int) := by omega
      have hii2 : (i : Int) < (n : Int) + 2 := by omega
      have hi2 : i < n + 2 := by omega
      have h1 : i < l.length := by rw [HN.out]; exact hlt
      obtain ⟨g1, o1, rfl, -, k0, k1, k2⟩ := (HL.out.heap hk).cell3 (i := i) (by rw [List.length_append]; omega)
      obtain ⟨g2, o2, rfl, -, m0, m1, m2⟩ := (HR.out.heap hk).cell3 h1
      rw [List.getElem_append_left h1] at k0 k1 k2
      generalize l[i] = x at *
      obtain ⟨nm, T, nb⟩ := x
      dsimp only at *
      have hse := str_eq nm
      have hte : (T == T) = true := by simp
      have hbe : (nb == nb) = true := by simp
      clear hk h1
      go_wp2_with fail
      go_quiet (fail)
      go_wp2_with fail
      refine ⟨⟨i + 1, by omega, by go_num, ?_⟩, by simp [intOf]; omega⟩
      obtain ⟨m, rfl⟩ := HW.out
      exact ⟨m + nq, by simp⟩
    · obtain rfl : i = n := by omega
      have hml : (l ++ mks).length = i + 2 := by rw [List.length_append, HN.out]; rfl
      obtain ⟨g1, o1, rfl, -, k0, k1, k2⟩ := (HL.out.heap hk).cell3 (i := i) (by omega)
      obtain ⟨g2, o2, e2, -, m0, m1, m2⟩ := (HL.out.heap hk).cell3 (i := i + 1) (by omega)
      cases e2
      have e81 : (l ++ mks)[i]'(by omega) = mk 81 := by
        rw [List.getElem_append_right (by rw [HN.out]; exact Nat.le_refl _)]
        simp only [HN.out, Nat.sub_self]
        rfl
      have e82 : (l ++ mks)[i + 1]'(by omega) = mk 82 := by
        rw [List.getElem_append_right (by rw [HN.out]; omega)]
        simp only [HN.out, show i + 1 - i = 1 by omega]
        rfl
      rw [e81] at k0 k1 k2
      rw [e82] at m0 m1 m2
      unfold mk at k0 k1 k2 m0 m1 m2
      dsimp only at k0 k1 k2 m0 m1 m2
      have hse := str_eq ⟨#[]⟩
      have hi2 : (i : Int) < (i : Int) + 2 := by omega
      have hi3 : (i : Int) + 1 < (i : Int) + 2 := by omega
      have hi4 : i < i + 2 := by omega
      have hi5 : i + 1 < i + 2 := by omega
      have ht : ((i : Int) + 1).toNat = i + 1 := by omega
      clear hk hml e81 e82
      go_wp2_with fail
      go_ret
      exact ⟨rfl, HW.out⟩
end Go.Proofs.Ytllnknjmfffnbaa
