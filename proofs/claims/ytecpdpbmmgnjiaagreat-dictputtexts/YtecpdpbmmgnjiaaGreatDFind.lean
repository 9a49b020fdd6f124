/-
  dict.Floor and dict.Find of whole numbers that rise: slices.BinarySearch out of the shelf.
-/
import Derived.Test.YtecpdpbmmgnjiaaGreatDSort
namespace Go.Proofs.YtecpdpbmmgnjiaaGreat
open Go.ChangeShapes Go.WideShapes Go.ChangeAt Go.RowKit Cu

theorem search_any (g c n B : Nat) (K : List Int) (x : Int) (w : World) (h : w.ownsRow B 2 1 (.slice (some ⟨g, 0, none⟩) n c) (ivals K).length (ivals K)) (hn : K.length = n) (hl : n ≤ 1099511627776) (hs : K.Pairwise (· ≤ ·)) :
    Calls Tryz.prog 29 #[.slice (some ⟨g, 0, none⟩) n c, .int .i64 x] w fun e w' => e = .returned (.tuple #[.int .i64 (K.countP (· < x) : Nat), .bool (K.contains x)]) ∧ ∃ q, w' = w.drewN q := by
  have hc := AnyG.slices_BinarySearch_int laidFind g 0 n c K x w (by omega) (by omega) (fun j hj => by
    have hiv : j < (ivals K).length := by unfold ivals; rw [List.length_map]; exact hj
    obtain ⟨g', cg, hv, -, -, hce, -⟩ := row_store h hiv
    simp only [Value.slice.injEq, Option.some.injEq, Addr.mk.injEq, and_true] at hv
    obtain ⟨rfl, -⟩ := hv
    rw [Nat.zero_add, hce]
    have e : (ivals K)[j] = .int .i64 K[j] := List.getElem_map _
    rw [e, List.getD_eq_getElem?_getD, List.getElem?_eq_getElem hj]
    rfl) (by rw [← hn, List.take_length]; exact hs)
  rw [show K.take n = K by rw [← hn, List.take_length]] at hc
  change Calls Tryz.prog 29 _ _ _ at hc
  exact hc
set_option maxHeartbeats 2000000 in
theorem floor_any (g c n B : Nat) (K : List Int) (x : Int) (w : World) (h : w.ownsRow B 2 1 (.slice (some ⟨g, 0, none⟩) n c) (ivals K).length (ivals K)) (hn : K.length = n) (hl : n ≤ 1099511627776) (hs : K.Pairwise (· ≤ ·)) :
    Calls Tryz.prog 15 #[.slice (some ⟨g, 0, none⟩) n c, .int .i64 x] w fun e w' => e = .returned (.int .i64 (K.countP (· < x) : Nat)) ∧ ∃ q, w' = w.drewN q := by
  have HS := hid (search_any g c n B K x w h hn hl hs)
  generalize K.countP (· < x) = m at *
  generalize K.contains x = bb at *
  clear h hn hs
  go_enter Tryz.func15, Tryz.ntmps15
  go_wp2_with fail
  refine HS.out.mono ?_
  rintro e w2 ⟨rfl, q, hq⟩
  go_wp2_with fail
  go_ret
  exact ⟨rfl, q, by first | exact hq | rfl⟩
set_option maxHeartbeats 2000000 in
theorem find_any (g c n B : Nat) (K : List Int) (x : Int) (w : World) (h : w.ownsRow B 2 1 (.slice (some ⟨g, 0, none⟩) n c) (ivals K).length (ivals K)) (hn : K.length = n) (hl : n ≤ 1099511627776) (hs : K.Pairwise (· ≤ ·)) :
    Calls Tryz.prog 12 #[.slice (some ⟨g, 0, none⟩) n c, .int .i64 x] w fun e w' => e = .returned (.tuple #[.int .i64 (if K.contains x then K.countP (· < x) else 0 : Nat), .bool (K.contains x)]) ∧ ∃ q, w' = w.drewN q := by
  have HS := hid (search_any g c n B K x w h hn hl hs)
  generalize K.countP (· < x) = m at *
  generalize K.contains x = bb at *
  clear h hn hs
  cases bb with
  | true =>
    go_enter Tryz.func12, Tryz.ntmps12
    go_wp2_with fail
    refine HS.out.mono ?_
    rintro e w2 ⟨rfl, q, hq⟩
    go_wp2_with fail
    go_ret2
    exact ⟨rfl, q, by first | exact hq | rfl⟩
  | false =>
    go_enter Tryz.func12, Tryz.ntmps12
    go_wp2_with fail
    refine HS.out.mono ?_
    rintro e w2 ⟨rfl, q, hq⟩
    go_wp2_with fail
    go_ret2
    exact ⟨rfl, q, by first | exact hq | rfl⟩
end Go.Proofs.YtecpdpbmmgnjiaaGreat
