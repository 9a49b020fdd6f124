/-
  allFit; slices.IndexFunc. (Written by mkidx.py.)
-/
import Derived.Test.YtobmehajknmniaaGreatZSound
namespace Go.Proofs.YtobmehajknmniaaGreat
open Go.RowKit Crc Cu Vl
attribute [local go_sem] run_store_float

/-- Where the first one is of which something holds, or -1. -/
def IdxP (P : V → Bool) (l : List V) (r : Int) : Prop := (r = -1 ∧ ∀ v ∈ l, P v = false) ∨ ∃ (i : Nat) (v : V), r = (i : Int) ∧ l[i]? = some v ∧ P v = true ∧ ∀ j u, j < i → l[j]? = some u → P u = false
set_option maxHeartbeats 2000000 in
theorem fitc_any (c : Col) (gB : Nat) (v : V) (w : World) (hx : Bx w gB (ca c) 23) (hv : VOk v) : Calls Tryz.prog 44 #[vv v, .pointer (some ⟨gB, 0, none⟩)] w fun e w' => e = .returned (.bool (!fitB c v)) ∧ Below w.heap.size w w' := by
  have HF : Hid (∀ w, Calls Tryz.prog 28 #[cv c, vv v] w fun e w' => e = .returned (.bool (fitB c v)) ∧ Below w.heap.size w w') := fun w => fits_any c.nm c.T c.nb v.K v.I v.b v.s w hv.b
  have b1 := below_new w (.cells #[.int .i64 v.K, .int .i64 v.I, .float .f64 v.b, .string v.s] 27)
  obtain ⟨d0, d1, d2⟩ := (hx.later b1).col
  have B := hid b1
  clear b1 hx hv
  generalize fitB c v = q at *
  obtain ⟨nm, T, nb⟩ := c
  obtain ⟨K, I, b, s⟩ := v
  unfold vv cv at *
  dsimp only at *
  go_enter Tryz.func44, Tryz.ntmps44
  go_wp2_with fail
  refine (HF.out _).mono ?_
  rintro e w1 ⟨rfl, hb⟩
  replace B := hid (below_up B.out hb)
  clear hb
  go_wp2_with fail
  go_ret
  exact ⟨rfl, B.out⟩
set_option maxRecDepth 4000 in
set_option maxHeartbeats 4000000 in
theorem index_fit (c : Col) (gB : Nat) (a2 : Option Addr) (l : List V) (c2 : Nat) (w : World) (hx : Bx w gB (ca c) 23) (hv : ∀ v ∈ l, VOk v) (hL : Lst vc 4 w a2 l) (hl : l.length ≤ 140737488355328) :
    Calls Tryz.prog 78 #[.slice a2 l.length c2, .func (.func 44) #[] #[.pointer (some ⟨gB, 0, none⟩)]] w fun e w' => ∃ r, e = .returned (.int .i64 r) ∧ IdxP (fun v => !fitB c v) l r ∧ Below w.heap.size w w' := by
  have HP : Hid (∀ v W, VOk v → Below w.heap.size w W → Calls Tryz.prog 44 #[vv v, .pointer (some ⟨gB, 0, none⟩)] W fun e w' => e = .returned (.bool ((fun v => !fitB c v) v)) ∧ Below W.heap.size W w') := fun v W hv hW => fitc_any c gB v W (hx.later hW) hv
  have HV := hid hv
  have HLL := hid hL
  generalize hpp : (fun v => !fitB c v) = p at *
  clear hv hL hpp
  go_enter Tryz.func78, Tryz.ntmps78
  go_wp2_with fail
  go_loopw [8] (fun ix wr => ∃ i : Nat, i ≤ l.length ∧ ix = .int .i64 i ∧ Hid (∀ j u, j < i → l[j]? = some u → p u = false) ∧ Hid (Below w.heap.size w wr)) (fun ix _ => l.length - (intOf ix).toNat)
  case atStart => exact ⟨0, Nat.zero_le _, rfl, fun j u hj => by omega, Below.refl _ _⟩
  case round =>
    obtain ⟨i, hi, rfl, HE, HBl⟩ := hrel
    rename World => wr
    by_cases hlt : i < l.length
    · have hii : (i : Int) < (l.length : Int) := by omega
      obtain ⟨g, o, rfl, _, k0, k1, k2, k3⟩ := (HLL.out.later HBl.out).cell4 hlt
      have HLI := hid (List.getElem?_eq_getElem hlt)
      have HVi := hid (HV.out l[i] (List.getElem_mem hlt))
      generalize l[i] = v at *
      have HPv := hid (HP.out v wr HVi.out HBl.out)
      have HN : Hid (p v = false → ∀ j u, j < i + 1 → l[j]? = some u → p u = false) := fun hh j u hj hu => by
        by_cases e : j = i
        · subst e
          rw [HLI.out] at hu
          cases hu
          exact hh
        · exact HE.out j u (by omega) hu
      have HY : Hid (p v = true → IdxP p l (i : Int)) := fun hh => .inr ⟨i, v, rfl, HLI.out, hh, HE.out⟩
      generalize p v = q at *
      obtain ⟨K, I, b, s⟩ := v
      unfold vv at HPv
      dsimp only at *
      clear HLI HVi HE
      go_wp2_with fail
      refine HPv.out.mono ?_
      rintro e w2 ⟨rfl, hb⟩
      have B2 := hid (below_up HBl.out hb)
      clear hb HBl k0 k1 k2 k3
      cases q
      · have HN2 := hid (HN.out rfl)
        go_wp2_with fail
        exact ⟨⟨i + 1, by omega, by go_num, HN2, B2⟩, by simp [intOf]; omega⟩
      · have HY2 := hid (HY.out rfl)
        go_wp2_with fail
        go_ret
        exact ⟨_, rfl, HY2.out, B2.out⟩
    · obtain rfl : i = l.length := by omega
      have HT : Hid (IdxP p l (-1)) := .inl ⟨rfl, fun v hv => by
        obtain ⟨j, hj, rfl⟩ := List.mem_iff_getElem.1 hv
        exact HE.out j _ hj (List.getElem?_eq_getElem hj)⟩
      go_wp2_with fail
      go_ret
      exact ⟨_, rfl, HT.out, HBl.out⟩
set_option maxRecDepth 4000 in
set_option maxHeartbeats 4000000 in
theorem index_nul  (a2 : Option Addr) (l : List V) (c2 : Nat) (w : World)  (hv : ∀ v ∈ l, VOk v) (hL : Lst vc 4 w a2 l) (hl : l.length ≤ 140737488355328) :
    Calls Tryz.prog 78 #[.slice a2 l.length c2, .func (.func 24) #[] #[]] w fun e w' => ∃ r, e = .returned (.int .i64 r) ∧ IdxP (nulB) l r ∧ Below w.heap.size w w' := by
  have HP : Hid (∀ v W, VOk v → Below w.heap.size w W → Calls Tryz.prog 24 #[vv v] W fun e w' => e = .returned (.bool (nulB v)) ∧ Below W.heap.size W w') := fun v W hv hW => nul_any v W hv
  have HV := hid hv
  have HLL := hid hL
  generalize hpp : (nulB) = p at *
  clear hv hL hpp
  go_enter Tryz.func78, Tryz.ntmps78
  go_wp2_with fail
  go_loopw [8] (fun ix wr => ∃ i : Nat, i ≤ l.length ∧ ix = .int .i64 i ∧ Hid (∀ j u, j < i → l[j]? = some u → p u = false) ∧ Hid (Below w.heap.size w wr)) (fun ix _ => l.length - (intOf ix).toNat)
  case atStart => exact ⟨0, Nat.zero_le _, rfl, fun j u hj => by omega, Below.refl _ _⟩
  case round =>
    obtain ⟨i, hi, rfl, HE, HBl⟩ := hrel
    rename World => wr
    by_cases hlt : i < l.length
    · have hii : (i : Int) < (l.length : Int) := by omega
      obtain ⟨g, o, rfl, _, k0, k1, k2, k3⟩ := (HLL.out.later HBl.out).cell4 hlt
      have HLI := hid (List.getElem?_eq_getElem hlt)
      have HVi := hid (HV.out l[i] (List.getElem_mem hlt))
      generalize l[i] = v at *
      have HPv := hid (HP.out v wr HVi.out HBl.out)
      have HN : Hid (p v = false → ∀ j u, j < i + 1 → l[j]? = some u → p u = false) := fun hh j u hj hu => by
        by_cases e : j = i
        · subst e
          rw [HLI.out] at hu
          cases hu
          exact hh
        · exact HE.out j u (by omega) hu
      have HY : Hid (p v = true → IdxP p l (i : Int)) := fun hh => .inr ⟨i, v, rfl, HLI.out, hh, HE.out⟩
      generalize p v = q at *
      obtain ⟨K, I, b, s⟩ := v
      unfold vv at HPv
      dsimp only at *
      clear HLI HVi HE
      go_wp2_with fail
      refine HPv.out.mono ?_
      rintro e w2 ⟨rfl, hb⟩
      have B2 := hid (below_up HBl.out hb)
      clear hb HBl k0 k1 k2 k3
      cases q
      · have HN2 := hid (HN.out rfl)
        go_wp2_with fail
        exact ⟨⟨i + 1, by omega, by go_num, HN2, B2⟩, by simp [intOf]; omega⟩
      · have HY2 := hid (HY.out rfl)
        go_wp2_with fail
        go_ret
        exact ⟨_, rfl, HY2.out, B2.out⟩
    · obtain rfl : i = l.length := by omega
      have HT : Hid (IdxP p l (-1)) := .inl ⟨rfl, fun v hv => by
        obtain ⟨j, hj, rfl⟩ := List.mem_iff_getElem.1 hv
        exact HE.out j _ hj (List.getElem?_eq_getElem hj)⟩
      go_wp2_with fail
      go_ret
      exact ⟨_, rfl, HT.out, HBl.out⟩
theorem idx_all {c : Col} {l : List V} {r : Int} (h : IdxP (fun v => !fitB c v) l r) : (!decide (0 ≤ r)) = l.all (fitB c) := by
  rcases h with ⟨rfl, h⟩ | ⟨i, v, rfl, h1, h2, _⟩
  · have : l.all (fitB c) = true := by
      rw [List.all_eq_true]
      intro v hv
      simpa using h v hv
    rw [this]; rfl
  · have : l.all (fitB c) = false := by
      rw [List.all_eq_false]
      exact ⟨v, List.mem_of_getElem? h1, by simpa using h2⟩
    rw [this]; simp
set_option maxHeartbeats 2000000 in
theorem allFit_any (c : Col) (a2 : Option Addr) (l : List V) (c2 : Nat) (w : World) (hv : ∀ v ∈ l, VOk v) (hL : Lst vc 4 w a2 l) (hl : l.length ≤ 140737488355328) :
    Calls Tryz.prog 22 #[cv c, .slice a2 l.length c2] w fun e w' => e = .returned (.bool (l.all (fitB c))) ∧ Below w.heap.size w w' := by
  have HC : Hid (∀ W, Below w.heap.size w W → Bx W w.heap.size (ca c) 23 → Calls Tryz.prog 43 #[.slice a2 l.length c2, .func (.func 44) #[] #[.pointer (some ⟨w.heap.size, 0, none⟩)]] W fun e w' => e = .returned (.bool (!l.all (fitB c))) ∧ Below W.heap.size W w') := fun W hW hx => by
    have HI := hid (index_fit c w.heap.size a2 l c2 W hx hv (hL.later hW) hl)
    have HA := hid fun r h => idx_all (c := c) (l := l) (r := r) h
    clear hv hL hx
    go_enter Tryz.func43, Tryz.ntmps43
    go_wp2_with fail
    refine HI.out.mono ?_
    rintro e w1 ⟨r, rfl, hr, hb⟩
    have HR := hid (HA.out r hr)
    have HB := hid hb
    clear hr hb
    go_wp2_with fail
    go_ret
    exact ⟨ret_bool (by rw [← HR.out]; simp), HB.out⟩
  have hx : Bx (w.alloc (.cells (ca c) 23)) w.heap.size (ca c) 23 := Bx.new w _ _
  have HX := hid (HC.out _ (below_new w _) hx)
  have B := hid (below_new w (.cells (ca c) 23))
  generalize l.all (fitB c) = q at *
  clear hx HC hv hL
  obtain ⟨nm, T, nb⟩ := c
  unfold cv
  unfold ca at HX B
  dsimp only at *
  go_enter Tryz.func22, Tryz.ntmps22
  go_wp2_with fail
  refine HX.out.mono ?_
  rintro e w1 ⟨rfl, hb⟩
  replace B := hid (below_up B.out hb)
  clear hb
  go_wp2_with fail
  go_ret
  exact ⟨ret_bool (by simp), B.out⟩
end Go.Proofs.YtobmehajknmniaaGreat
