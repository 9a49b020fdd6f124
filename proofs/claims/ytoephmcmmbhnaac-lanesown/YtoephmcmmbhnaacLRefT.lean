/-
  THE DOCUMENT's OWN Test AND Between; twin, large.
-/
import Derived.Test.YtoephmcmmbhnaacLRefP
import Derived.Test.YtoephmcmmbhnaacLLike
namespace Go.Proofs.Ytoephmcmmbhnaac.Ln
open Go.RowKit Go.Sort

theorem infoBool : (Try.prog.info? 4).map (fun i => (i.zero, i.size, i.bytes)) = some (some (.bool false), 1, 1) := by kernel_rfl
def bvals (n : Nat) (f : Nat → Bool) : List Value := (List.range n).map fun j => .bool (f j)
theorem bvals_len (n : Nat) (f : Nat → Bool) : (bvals n f).length = n := by simp [bvals]
theorem bvals_snoc (n : Nat) (f : Nat → Bool) : bvals n f ++ [.bool (f n)] = bvals (n + 1) f := by simp [bvals, List.range_succ]
/-- A row of bools of the call's own. -/
def OwnB (w : World) (B : Nat) (v : Value) (n : Nat) (f : Nat → Bool) : Prop := w.ownsRow B 4 1 v n (bvals n f)
theorem OwnB.nil (w : World) (B : Nat) (f : Nat → Bool) : OwnB w B (.slice none 0 0) 0 f := ⟨by simp [bvals], .inl ⟨rfl, rfl⟩⟩
theorem OwnB.form {w : World} {B : Nat} {v : Value} {n : Nat} {f : Nat → Bool} (h : OwnB w B v n f) : ∃ a0 c, v = .slice a0 n c ∧ BNums w a0 n f := by
  rcases h.2 with ⟨rfl, h0⟩ | ⟨g, cap, cur, hv, hb, hg, hn, hm, hs, ht⟩
  · have h1 : n = 0 := by simpa using h0
    subst h1
    exact ⟨none, 0, rfl, fun j hj => by omega⟩
  · refine ⟨_, cap, hv, fun j hj => ⟨g, 0, rfl, (Array.getElem?_eq_some_iff.1 hg).1, ?_⟩⟩
    have e1 : (bvals n f)[j]? = some (.bool (f j)) := by simp [bvals, hj]
    rw [← ht, List.getElem?_take, if_pos (by omega)] at e1
    simp only [Nat.zero_add]
    simp [World.cell?, hg]
    simpa using e1
theorem run_oneB {w : World} {B : Nat} {v : Value} {n : Nat} {f : Nat → Bool} (ho : OwnB w B v n f) (hb : n ≤ 16777216) (hB : B ≤ w.heap.size) (x : Bool) (hx : x = f n) :
    ∃ g c w', (Builtin.append_ #[42, 42] 42 #[v, .slice (some ⟨w.heap.size, 0, none⟩) 1 1]).run Try.prog (w.alloc (.cells #[.bool x] 4)) = .ok (.slice (some ⟨g, 0, none⟩) (n + 1) c) w' ∧ OwnB w' B (.slice (some ⟨g, 0, none⟩) (n + 1) c) (n + 1) f ∧ Below B w w' := by
  subst hx
  obtain ⟨i0, hi0, hz0, hz1, hz2⟩ := info_parts infoBool
  have ho2 : (w.alloc (.cells #[.bool (f n)] 4)).ownsRow B 4 1 v n (bvals n f) := World.ownsRow.alloc ho _
  obtain ⟨g, c, w', hr, h1, h2, _, _⟩ := run_append_lies (P := Try.prog) (w.alloc (.cells #[.bool (f n)] 4)) 42 42 B 4 i0 (.bool false) 1 1 Try.underlying42 hi0 hz0 hz1 hz2 rfl (by decide) v n _ ho2 ⟨w.heap.size, 0, none⟩ 1 1 [.bool (f n)] rfl (cell_one_new _ _ _) (by simp [Value.oneCell']) (by omega) (by simp [maxLen]; omega) (by omega) (by simp; omega) _ rfl
  rw [bvals_snoc] at h1
  exact ⟨g, c, w', hr, h1, ((Below.refl B w).alloc hB _).grown h2 (by simp; omega) (fun j hj => (World.ownsRow.lt ho j hj).1)⟩

/-- A reference's answer: bools and an error. -/
def BAns (w : World) (E : Int) (n : Nat) (f : Nat → Bool) (e : Ending) (w' : World) : Prop :=
  Below w.heap.size w w' ∧ ((E ≠ 0 ∧ e = .returned (.tuple #[.slice none 0 0, .int .i64 E])) ∨ (E = 0 ∧ ∃ a0 c, e = .returned (.tuple #[.slice a0 n c, .int .i64 0]) ∧ BNums w' a0 n f))

set_option maxHeartbeats 400000 in
theorem twin_any (a0 : Option Addr) (n c : Nat) (B : Nat → Nat) (w : World) (hn : n ≤ 140737488351232) (hN : Nums w .u8 a0 n B) (ha : a0 = none → n = 0 ∧ c = 0) :
    Calls Try.prog 7 #[.slice a0 n c] w fun e w' => ∃ a1 c1, e = .returned (.slice a1 n c1) ∧ n ≤ c1 ∧ c1 ≤ maxLen ∧ Nums w' .u8 a1 n B ∧ Below w.heap.size w w' := by
  obtain ⟨v', w', hr, hO, hg, hv⟩ := run_many (t := 29) (ty := 29) (B := w.heap.size) Try.underlying29 infoU8 (Own.nil w w.heap.size 5 .u8 B) hN ha (by omega) (by omega) (Nat.le_refl _)
  have HO : Hid (Own w' w.heap.size 5 .u8 v' n B) := by
    have h2 : Own w' w.heap.size 5 .u8 v' n (cat 0 B B) := by simpa using hO
    exact h2.ext fun j _ => by unfold cat; simp
  have HB : Hid (Below w.heap.size w w') := (Below.refl _ w).grown hg (Nat.le_refl _) (fun k hk => by simp [Value.ownBlock] at hk)
  have HR : Hid ((Builtin.append_ #[29, 29] 29 #[.slice none 0 0, .slice a0 n c]).run Try.prog w = .ok v' w') := hr
  clear hO hg hv hr
  go_enter Try.func7, Try.ntmps7
  go_wp2_with (at_builtin; refine wpList_app (by rfl) (by rfl) HR.out ?_)
  go_ret
  obtain ⟨a1, c1, rfl, h1, h2, _⟩ := HO.out.form
  exact ⟨a1, c1, rfl, h1, h2, HO.out.nums, HB.out⟩

end Go.Proofs.Ytoephmcmmbhnaac.Ln
