/-
  dict.Build of whole numbers.
-/
import Derived.Test.YtecpdpbmmgnjiaaGreatDGather
import Derived.Test.YtecpdpbmmgnjiaaGreatDNumber
import Derived.Test.YtecpdpbmmgnjiaaGreatDCodes
namespace Go.Proofs.YtecpdpbmmgnjiaaGreat
open Go.ChangeShapes Go.WideShapes Go.ChangeAt Go.RowKit Cu

theorem dk_mem (l : List Int) (x : Int) : x ∈ dk l ↔ x ∈ l := by
  suffices h : ∀ (l ks : List Int), x ∈ l.foldl addK ks ↔ x ∈ ks ∨ x ∈ l by have := h l []; simpa [dk] using this
  intro l
  induction l with
  | nil => intro ks; simp
  | cons y l ih =>
    intro ks
    rw [List.foldl_cons, ih]
    unfold addK
    split
    · rename_i hy
      constructor
      · rintro (h | h)
        · exact .inl h
        · exact .inr (List.mem_cons_of_mem _ h)
      · rintro (h | h)
        · exact .inl h
        · rcases List.mem_cons.1 h with rfl | h
          · exact .inl hy
          · exact .inr h
    · simp [or_assoc]
/-- The keys and the codes of a list. -/
def keysI (l : List Int) : List Int := sortI (dk l)
def codesI (l : List Int) : List Nat := l.map fun x => (keysI l).idxOf x
theorem keysI_mem (l : List Int) (x : Int) : x ∈ keysI l ↔ x ∈ l := (sortI_mem _ _).trans (dk_mem l x)
theorem codes_eq (l : List Int) : l.map (codeF (dk l) (codeTo (keysI l) (dk l).length)) = codesI l := by
  unfold codesI
  apply List.map_congr_left
  intro x hx
  unfold codeF
  rw [if_pos ((dk_mem l x).2 hx), ← sortI_len (dk l)]
  exact codeTo_all _ x ((keysI_mem l x).2 hx)
set_option maxRecDepth 20000 in
set_option maxHeartbeats 8000000 in
theorem build_any (a : Option Addr) (l : List Int) (c : Nat) (w : World) (hA : IntsA w a l) (hin : ∀ x ∈ l, In64 x) (hn : l.length ≤ 4294967296) :
    Calls Tryz.prog 8 #[.slice a l.length c] w fun e w' => ∃ g1 c1 a2 c2, e = .returned (.tuple #[.slice (some ⟨g1, 0, none⟩) (keysI l).length c1, .slice a2 l.length c2]) ∧ w'.ownsRow w.heap.size 2 1 (.slice (some ⟨g1, 0, none⟩) (keysI l).length c1) (ivals (keysI l)).length (ivals (keysI l)) ∧ w'.ownsRow w.heap.size 58 1 (.slice a2 l.length c2) (cvals (codesI l)).length (cvals (codesI l)) ∧ Below w.heap.size w w' := by
  have HA := hid hA
  have HIN := hid hin
  have HG := hid (gather_any a l c (l.length : Int) w hA hin (by omega))
  clear hA hin
  go_enter Tryz.func8, Tryz.ntmps8
  go_wp2_with fail
  refine HG.out.mono ?_
  rintro e w1 ⟨mb, k, rfl, hmb, hM, hk, hor, hb1⟩
  have hkl : k = l.length := by
    rcases hor with h | h
    · exact h
    · have := dk_len (l.take k)
      rw [List.length_take] at this
      omega
  subst hkl
  rw [List.take_length] at hM
  have HB1 := hid hb1
  have HL1 : Hid (Lots (w1.alloc (.cells #[.map (some mb), .slice none 0 0] 50)) w1.heap.size mb (dk l) zeroF) := by
    have hnw := heap_new w1 (.cells #[.map (some mb), .slice none 0 0] 50)
    exact ⟨⟨by rw [cell_of_row _ _ _ _ _ _ hnw]; rfl, by rw [cell_of_row _ _ _ _ _ _ hnw]; rfl⟩, by have := hM.blt; omega, by simp, hM.later (below_new _ _)⟩
  have HB2 := hid (below_up hb1 (below_new w1 (.cells #[.map (some mb), .slice none 0 0] 50)))
  have HMB := hid hmb
  clear HG hmb hM hk hor hb1
  go_wp2_with fail
  obtain ⟨wA, hwA⟩ : ∃ wA, w1.alloc (.cells #[.map (some mb), .slice none 0 0] 50) = wA := ⟨_, rfl⟩
  rw [hwA] at HL1 HB2 ⊢
  generalize w1.heap.size = ob at *
  have hdl : (dk l).length ≤ 4294967296 := by have := dk_len l; omega
  refine (numberD_any ob mb (dk l) wA HL1.out hdl).mono ?_
  rintro e w3 ⟨g, cg, rfl, hr3, hL3, hg3⟩
  have hb3 : Below w.heap.size w w3 := HB2.out.grown hg3 HB2.out.size (fun j hj => by injection hj with hj; rw [← hj]; exact HMB.out)
  have hr3' := row_low hr3 HB2.out.size
  have HC := hid (codesOf_any ob mb (dk l) (codeTo (keysI l) (dk l).length) a l c w3 hL3 (HA.out.later hb3) HIN.out (by omega))
  rw [codes_eq] at HC
  have HB3 := hid hb3
  have R3 : Hid (w3.ownsRow w.heap.size 2 1 (.slice (some ⟨g, 0, none⟩) (keysI l).length cg) (ivals (keysI l)).length (ivals (keysI l))) := by
    have e : (keysI l).length = (dk l).length := sortI_len _
    rw [e]
    exact hr3'
  have HKL : Hid ((dk l).length = (keysI l).length) := (sortI_len _).symm
  rw [HKL.out]
  clear hr3 hr3' hL3 hg3 hb3 hwA HL1 HB2 HB1 HMB
  go_wp2_with fail
  refine HC.out.mono ?_
  rintro e w4 ⟨a2, c2, rfl, hr4, hb4⟩
  have HF := hid (And.intro (row_later R3.out hb4) (And.intro (row_low hr4 HB3.out.size) (below_up HB3.out hb4)))
  clear hr4 hb4 HC R3 HB3
  go_wp2_with fail
  go_ret2
  exact ⟨g, cg, a2, c2, rfl, HF.out.1, HF.out.2.1, HF.out.2.2⟩
end Go.Proofs.YtecpdpbmmgnjiaaGreat
