/-
  holds, Test. (Written by mkhold.py.)
-/
import Derived.Test.YthgnibphhiaecaaGreatAVals
namespace Go.Proofs.YthgnibphhiaecaaGreat
open Go.ChangeShapes Go.WideShapes Go.ChangeAt Go.RowKit Cu Vl
attribute [local go_sem] run_store_float

theorem size_list (x : ByteArray) : x.toList.length = x.size := by rw [Go.ByteArray.toList_eq]; rfl
theorem extract_list (x : ByteArray) (n : Nat) : (x.extract 0 n).toList = x.toList.take n := by
  rw [Go.ByteArray.toList_eq, Go.ByteArray.toList_eq, ByteArray.data_extract, Array.toList_extract]
  simp
theorem prf_iff {x v : ByteArray} : prfB x v = true ↔ v.toList <+: x.toList := by unfold prfB; exact List.isPrefixOf_iff_prefix
theorem prf_cut (x v : ByteArray) : ((x.extract 0 v.size).toList == v.toList) = prfB x v := by
  rw [Bool.eq_iff_iff, prf_iff, beq_iff_eq, extract_list, List.prefix_iff_eq_take, size_list]
  exact ⟨fun h => h.symm, fun h => h.symm⟩
theorem prf_long {x v : ByteArray} (h : ¬ v.size ≤ x.size) : prfB x v = false := Bool.not_eq_true _ |>.mp fun hc => by
  have := (prf_iff.1 hc).length_le
  rw [size_list, size_list] at this
  omega
set_option maxHeartbeats 1000000 in
theorem pre_lite (x v : ByteArray) (w : World) (_hx : x.size ≤ 281474976710656) (_hv : v.size ≤ 281474976710656) : Calls Tryz.prog 92 #[.string x, .string v] w fun e w' => e = .returned (.bool (prfB x v)) ∧ w' = w := by
  by_cases h : v.size ≤ x.size
  · have hi : (v.size : Int) ≤ (x.size : Int) := by omega
    go_enter Tryz.func92, Tryz.ntmps92
    go_wp2_with fail
    go_ret
    exact ⟨ret_bool (prf_cut x v), rfl⟩
  · rw [prf_long h]
    have hi : ¬ (v.size : Int) ≤ (x.size : Int) := by omega
    go_enter Tryz.func92, Tryz.ntmps92
    go_wp2_with fail
    go_ret
    exact ⟨rfl, rfl⟩
set_option maxHeartbeats 1000000 in
theorem pre_any (x v : ByteArray) (w : World) (hx : x.size ≤ 281474976710656) (hv : v.size ≤ 281474976710656) : Calls Tryz.prog 78 #[.string x, .string v] w fun e w' => e = .returned (.bool (prfB x v)) ∧ w' = w := by
  have HP := fun w => pre_lite x v w hx hv
  generalize prfB x v = q at *
  go_enter Tryz.func78, Tryz.ntmps78
  go_wp2_with (go_at_call 92; refine (HP _).mono ?_; rintro e w' ⟨rfl, rfl⟩)
  go_ret
  exact ⟨rfl, rfl⟩
set_option maxHeartbeats 1000000 in
theorem stand_any (op k : Int) (w : World) : Calls Tryz.prog 74 #[.int .i64 op, .int .i64 k] w fun e w' => e = .returned (.bool (stdB op k)) ∧ w' = w := by
  by_cases h : op = 1 ∨ op = 2 ∨ op = 3 ∨ op = 4 ∨ op = 5 ∨ op = 6
  · rcases h with rfl | rfl | rfl | rfl | rfl | rfl
    all_goals
      go_enter Tryz.func74, Tryz.ntmps74
      go_wp2_with fail
      go_ret
      exact ⟨ret_bool (by simp [stdB] <;> first | rfl | (rw [Bool.eq_iff_iff]; simp)), rfl⟩
  · have h1 : (op == 1) = false := by simp; omega
    have h2 : (op == 2) = false := by simp; omega
    have h3 : (op == 3) = false := by simp; omega
    have h4 : (op == 4) = false := by simp; omega
    have h5 : (op == 5) = false := by simp; omega
    have h6 : (op == 6) = false := by simp; omega
    have hr : stdB op k = false := by unfold stdB; repeat (rw [if_neg (by omega)])
    rw [hr]
    clear h hr
    go_enter Tryz.func74, Tryz.ntmps74
    go_wp2_with fail
    go_ret
    exact ⟨rfl, rfl⟩
set_option maxHeartbeats 1000000 in
theorem alike_one (v : V) (gB : Nat) (x : V) (w : World) (hx : Bx w gB (va v) 25) (hv : VOk v) (hxo : VOk x) : Calls Tryz.prog 77 #[vv x, .pointer (some ⟨gB, 0, none⟩)] w fun e w' => e = .returned (.bool (decide (cmpA v x = 0))) ∧ Below w.heap.size w w' := by
  have HC := hid fun w => compareA_any v x w hv hxo
  have b1 := below_new w (.cells (va x) 25)
  obtain ⟨k0, k1, k2, k3⟩ := (hx.later b1).val
  obtain ⟨c0, c1, c2, c3⟩ := (Bx.new w (va x) 25).val
  have B := hid b1
  generalize cmpA v x = r at *
  obtain ⟨K, I, b, s⟩ := v
  obtain ⟨K', I', b', s'⟩ := x
  unfold vv at *
  unfold va at *
  dsimp only at *
  clear hx hv hxo b1
  go_enter Tryz.func77, Tryz.ntmps77
  go_wp2_with fail
  refine (HC.out _).mono ?_
  rintro e w1 ⟨rfl, hb⟩
  replace B := hid (below_up B.out hb)
  clear hb
  go_wp2_with fail
  go_ret
  exact ⟨ret_bool (by rw [Bool.eq_iff_iff]; simp), B.out⟩
set_option maxRecDepth 4000 in
set_option maxHeartbeats 4000000 in
theorem index_alk (vv0 : V) (hv0 : VOk vv0) (gB : Nat) (a2 : Option Addr) (l : List V) (c2 : Nat) (w : World) (hx : Bx w gB (va vv0) 25) (hv : ∀ v ∈ l, VOk v) (hL : Lst vc 4 w a2 l) (hl : l.length ≤ 140737488355328) :
    Calls Tryz.prog 91 #[.slice a2 l.length c2, .func (.func 77) #[] #[.pointer (some ⟨gB, 0, none⟩)]] w fun e w' => ∃ r, e = .returned (.int .i64 r) ∧ IdxP (fun x => decide (cmpA vv0 x = 0)) l r ∧ Below w.heap.size w w' := by
  have HP : Hid (∀ v W, VOk v → Below w.heap.size w W → Calls Tryz.prog 77 #[vv v, .pointer (some ⟨gB, 0, none⟩)] W fun e w' => e = .returned (.bool ((fun x => decide (cmpA vv0 x = 0)) v)) ∧ Below W.heap.size W w') := fun v W hv hW => alike_one vv0 gB v W (hx.later hW) hv0 hv
  have HV := hid hv
  have HLL := hid hL
  generalize hpp : (fun x => decide (cmpA vv0 x = 0)) = p at *
  clear hv hL hpp
  go_enter Tryz.func91, Tryz.ntmps91
  go_wp2_with fail
  go_loopw [8] (fun ix wr => ∃ i : Nat, i ≤ l.length ∧ ix = .int .i64 i ∧ Hid (∀ j u, j < i → l[j]? = some u → p u = false) ∧ Hid (Below w.heap.size w wr)) (fun ix _ => l.length - (intOf ix).toNat)
  case atStart => exact ⟨0, Nat.zero_le _, rfl, fun j u hj => by omega, Below.refl _ _⟩
  case round =>
    obtain ⟨i, hi, rfl, HE, HBl⟩ := hrel
    rename World => wr
    by_cases hlt : i < l.length
    · have hii : (i : Int) < (l.length : Int) := by omega
      obtain ⟨g, o, rfl, _, k0, k1, k2, k3⟩ := (HLL.out.later HBl.out).cell4 hlt
      have HLI := hid (List.getElem?_eq_getElem hlt)
      have HVi := hid (HV.out l[i] (List.getElem_mem hlt))
      generalize l[i] = v at *
      have HPv := hid (HP.out v wr HVi.out HBl.out)
      have HN : Hid (p v = false → ∀ j u, j < i + 1 → l[j]? = some u → p u = false) := fun hh j u hj hu => by
        by_cases e : j = i
        · subst e
          rw [HLI.out] at hu
          cases hu
          exact hh
        · exact HE.out j u (by omega) hu
      have HY : Hid (p v = true → IdxP p l (i : Int)) := fun hh => .inr ⟨i, v, rfl, HLI.out, hh, HE.out⟩
      generalize p v = q at *
      obtain ⟨K, I, b, s⟩ := v
      unfold vv at HPv
      dsimp only at *
      clear HLI HVi HE
      go_wp2_with fail
      refine HPv.out.mono ?_
      rintro e w2 ⟨rfl, hb⟩
      have B2 := hid (below_up HBl.out hb)
      clear hb HBl k0 k1 k2 k3
      cases q
      · have HN2 := hid (HN.out rfl)
        go_wp2_with fail
        exact ⟨⟨i + 1, by omega, by go_num, HN2, B2⟩, by simp [intOf]; omega⟩
      · have HY2 := hid (HY.out rfl)
        go_wp2_with fail
        go_ret
        exact ⟨_, rfl, HY2.out, B2.out⟩
    · obtain rfl : i = l.length := by omega
      have HT : Hid (IdxP p l (-1)) := .inl ⟨rfl, fun v hv => by
        obtain ⟨j, hj, rfl⟩ := List.mem_iff_getElem.1 hv
        exact HE.out j _ hj (List.getElem?_eq_getElem hj)⟩
      go_wp2_with fail
      go_ret
      exact ⟨_, rfl, HT.out, HBl.out⟩
set_option maxHeartbeats 1000000 in
theorem index_alk_has (vv0 : V) (hv0 : VOk vv0) (gB : Nat) (a2 : Option Addr) (l : List V) (c2 : Nat) (w : World) (hx : Bx w gB (va vv0) 25) (hv : ∀ v ∈ l, VOk v) (hL : Lst vc 4 w a2 l) (hl : l.length ≤ 140737488355328) :
    Calls Tryz.prog 76 #[.slice a2 l.length c2, .func (.func 77) #[] #[.pointer (some ⟨gB, 0, none⟩)]] w fun e w' => e = .returned (.bool (l.any (fun x => decide (cmpA vv0 x = 0)))) ∧ Below w.heap.size w w' := by
  have HI := hid (index_alk vv0 hv0 gB a2 l c2 w hx hv hL hl)
  have HA := hid fun r h => idx_any (P := fun x => decide (cmpA vv0 x = 0)) (l := l) (r := r) h
  clear hv hL hx
  go_enter Tryz.func76, Tryz.ntmps76
  go_wp2_with fail
  refine HI.out.mono ?_
  rintro e w1 ⟨r, rfl, hr, hb⟩
  have HR := hid (HA.out r hr)
  have HB := hid hb
  clear hr hb
  go_wp2_with fail
  go_ret
  exact ⟨ret_bool HR.out, HB.out⟩
end Go.Proofs.YthgnibphhiaecaaGreat
