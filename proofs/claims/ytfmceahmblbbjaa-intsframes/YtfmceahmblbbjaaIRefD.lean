/-
  The document's ToFrame of chapter 19, one shape of its codes. (Written by mkiref.py.)
-/
import Derived.Test.YtfmceahmblbbjaaIRef0
namespace Go.Proofs.Ytfmceahmblbbjaa
open Go.ChangeShapes Go.WideShapes Go.ChangeAt Go.RowKit It

set_option maxRecDepth 4000 in
set_option maxHeartbeats 32000000 in
theorem refFrame_d (op b c : Int) (n : Nat) (w : World) (hb : In b) (hc : In c) (hn : n ≤ 64) (ho : opI op = true) (hk : b ≤ c ∧ (c - b).toNat ≤ last b n ∧ ¬ 0 < (c - b).toNat ∧ (c - b).toNat < last b n) : Calls Try.prog 4 #[.int .i64 op, .int .i64 c, .int .i64 b, .int .i64 (n : Int)] w fun e w' => e = .returned (.tuple #[.int .i64 (toO op b c (last b n)), .int .u64 (toV op b c (last b n) : Int), .bool (allF op b c (last b n)), .bool (nonF op b c (last b n))]) ∧ Below w.heap.size w w' := by
  have hres : Try.f4.results = #[.tmp 8, .tmp 9, .tmp 10, .tmp 11] := by kernel_rfl
  have HRES := hid hres
  clear hres
  have HSt := hid fun a w => stands_any op a c w ho
  have HLC := hid (last_cases b n hb hn)
  have HSI : Hid (allF op b c (last b n) = false → nonF op b c (last b n) = false → b ≤ c) := fun h1 h2 => some_in ho h1 h2
  have HAll : Hid (allF op b c (last b n) = (codes b c (last b n)).all fun u => stdI op (b + u) c) := rfl
  have HNon : Hid (nonF op b c (last b n) = (codes b c (last b n)).all fun u => !stdI op (b + u) c) := rfl
  have HCl : Hid (∀ u ∈ codes b c (last b n), wrap64 (IntKind.u64.wrap (IntKind.u64.wrap b + (u : Int))) = b + u) := fun u hu => back_wrap hb (Nat.le_trans (codes_le hu) (last_le b n))
  have HTO : Hid (toO op b c (last b n) = if (allF op b c (last b n) || nonF op b c (last b n)) = true then 0 else op) := rfl
  have HTV : Hid (toV op b c (last b n) = if (allF op b c (last b n) || nonF op b c (last b n)) = true then 0 else (c - b).toNat) := rfl
  have HCo : Hid (codes b c (last b n) = if b ≤ c ∧ c ≤ b + (last b n : Nat) then [0, last b n, (c - b).toNat] ++ (if 0 < (c - b).toNat then [(c - b).toNat - 1] else []) ++ (if (c - b).toNat < last b n then [(c - b).toNat + 1] else []) else [0, last b n]) := rfl
  have HLl : Hid (last b n < 18446744073709551616) := Nat.lt_of_le_of_lt (last_le b n) (room_lt hb)
  obtain ⟨m, hm, hm1, hm2⟩ := at_wrap hb hc
  have HM2 := hid hm2
  have hrm := room_wrap hb
  have HS := hid (shl_in n hn)
  have hn0 : ¬ (n : Int) < 0 := by omega
  have hn1 : ¬ 64 < (n : Int) := by omega
  have hnw : IntKind.u64.wrap (n : Int) = (n : Int) := by simp only [IntKind.wrap_u64]; omega
  have hop1 : ¬ op < 1 := by unfold opI at ho; simp at ho; omega
  have hop2 : ¬ 6 < op := by unfold opI at ho; simp at ho; omega
  obtain ⟨L, hL⟩ : ∃ L, last b n = L := ⟨_, rfl⟩
  try rw [hL] at hk
  have HK := hid hk
  clear hk
  rw [hL] at HLC HSI HAll HNon HCl HTO HTV HCo HLl ⊢
  generalize allF op b c L = al at *
  generalize nonF op b c L = no at *
  generalize toO op b c L = to at *
  generalize toV op b c L = tv at *
  clear hm2 hn ho hL
  have HW : Hid ((¬ (b ≤ c ∧ m ≤ L) ∧ codes b c L = [0, L]) ∨ ((b ≤ c ∧ m ≤ L) ∧ m = (c - b).toNat ∧ codes b c L = [0, L, m] ++ (if 0 < m then [m - 1] else []) ++ (if m < L then [m + 1] else []))) := by
    by_cases h : b ≤ c ∧ c ≤ b + (L : Nat)
    · have e := HM2.out h.1
      refine .inr ⟨⟨h.1, by omega⟩, e, ?_⟩
      rw [HCo.out, if_pos h, e]
    · refine .inl ⟨fun h2 => h ⟨h2.1, ?_⟩, ?_⟩
      · have e := HM2.out h2.1
        omega
      · rw [HCo.out, if_neg h]
  clear HCo
  generalize codes b c L = cs at *
  have hL64 := HLl.out
  have hcb : (b ≤ c ∧ m ≤ L) ∨ (b ≤ c ∧ ¬ m ≤ L) ∨ ¬ b ≤ c := by
    by_cases h1 : b ≤ c
    · by_cases h2 : m ≤ L
      · exact .inl ⟨h1, h2⟩
      · exact .inr (.inl ⟨h1, h2⟩)
    · exact .inr (.inr h1)
  generalize hrr : room b = rm at *
  clear hrr
  generalize hxx : 2 ^ n - 1 = x at *
  clear hxx
  have O1 : OwnL (one encU) 1 (w.alloc (.cells #[.int .u64 0, .int .u64 (L : Int)] 22)) w.heap.size 22 (.slice (some ⟨w.heap.size, 0, none⟩) 2 2) [0, L] := two_lst w 0 L
  have B1 : Below w.heap.size w (w.alloc (.cells #[.int .u64 0, .int .u64 (L : Int)] 22)) := below_newI w _
  have hsz : (w.alloc (.cells #[.int .u64 0, .int .u64 (L : Int)] 22)).heap.size = w.heap.size + 1 := by simp
  have hshape : (¬ b ≤ c ∧ cs = [0, L]) ∨ (b ≤ c ∧ ¬ m ≤ L ∧ cs = [0, L]) ∨ (b ≤ c ∧ m ≤ L ∧ ¬ 0 < m ∧ ¬ m < L ∧ cs = [0, L, m]) ∨ (b ≤ c ∧ m ≤ L ∧ ¬ 0 < m ∧ m < L ∧ cs = [0, L, m, m + 1]) ∨ (b ≤ c ∧ m ≤ L ∧ 0 < m ∧ ¬ m < L ∧ cs = [0, L, m, m - 1]) ∨ (b ≤ c ∧ m ≤ L ∧ 0 < m ∧ m < L ∧ cs = [0, L, m, m - 1, m + 1]) := by
    rcases HW.out with ⟨h1, h2⟩ | ⟨⟨h1, h2⟩, _, h3⟩
    · by_cases h : b ≤ c
      · exact .inr (.inl ⟨h, fun k => h1 ⟨h, k⟩, h2⟩)
      · exact .inl ⟨h, h2⟩
    · right; right
      by_cases k1 : 0 < m <;> by_cases k2 : m < L
      · rw [if_pos k1, if_pos k2] at h3; exact .inr (.inr (.inr ⟨h1, h2, k1, k2, h3⟩))
      · rw [if_pos k1, if_neg k2] at h3; exact .inr (.inr (.inl ⟨h1, h2, k1, k2, h3⟩))
      · rw [if_neg k1, if_pos k2] at h3; exact .inr (.inl ⟨h1, h2, k1, k2, h3⟩)
      · rw [if_neg k1, if_neg k2] at h3; exact .inl ⟨h1, h2, k1, k2, h3⟩
  clear HW hcb
  have HFin : Hid (∀ i, i < cs.length → (cs.take (i + 1)).all (fun u => stdI op (b + (u : Int)) c) = ((cs.take i).all (fun u => stdI op (b + (u : Int)) c) && stdI op (b + (cs.getD i 0 : Nat)) c) ∧ (cs.take (i + 1)).all (fun u => !stdI op (b + (u : Int)) c) = ((cs.take i).all (fun u => !stdI op (b + (u : Int)) c) && !stdI op (b + (cs.getD i 0 : Nat)) c) ∧ wrap64 (IntKind.u64.wrap (IntKind.u64.wrap b + (cs.getD i 0 : Nat))) = b + (cs.getD i 0 : Nat)) := fun i hi => by
    have e : cs.getD i 0 = cs[i] := by simp [List.getD, List.getElem?_eq_getElem hi]
    rw [e]
    exact ⟨all_step hi, all_step hi, HCl.out _ (List.getElem_mem hi)⟩
  clear HCl
  rcases hshape with ⟨h1, hcs⟩ | ⟨h1, h2, hcs⟩ | ⟨h1, h2, h3, h4, hcs⟩ | ⟨h1, h2, h3, h4, hcs⟩ | ⟨h1, h2, h3, h4, hcs⟩ | ⟨h1, h2, h3, h4, hcs⟩
  · subst hcs
    exfalso
    have hk := HK.out
    by_cases hbc : b ≤ c
    · have e := HM2.out hbc
      omega
    · omega
  · subst hcs
    exfalso
    have hk := HK.out
    by_cases hbc : b ≤ c
    · have e := HM2.out hbc
      omega
    · omega
  · subst hcs
    exfalso
    have hk := HK.out
    by_cases hbc : b ≤ c
    · have e := HM2.out hbc
      omega
    · omega
  · subst hcs
    clear HK
    have h2i : (m : Int) ≤ (L : Int) := by omega
    have h3i : ¬ (0 : Int) < (m : Int) := by omega
    have h4i : (m : Int) < (L : Int) := by omega
    have hma : IntKind.u64.wrap ((m : Int) + 1) = ((m + 1 : Nat) : Int) := by simp only [IntKind.wrap_u64]; omega
    obtain ⟨g1, c1, w1, r1, o1, b1⟩ := one_lst O1 (by simp) (by simp) (m)
    simp only [List.length_cons, List.length_nil, Nat.zero_add, Nat.reduceAdd, List.cons_append, List.nil_append] at r1 o1
    rw [hsz] at r1
    have B2 := B1.trans b1
    have hs1 : w.heap.size ≤ w1.heap.size := B2.size
    have R1 := hid r1
    clear r1 b1
    obtain ⟨g2, c2, w2, r2, o2, b2⟩ := one_lst o1 (by simp) (hs1) (m + 1)
    simp only [List.length_cons, List.length_nil, Nat.zero_add, Nat.reduceAdd, List.cons_append, List.nil_append] at r2 o2
    have B3 := B2.trans b2
    have hs2 : w.heap.size ≤ w2.heap.size := B3.size
    have R2 := hid r2
    clear r2 b2
    rcases HLC.out with ⟨l1, l2⟩ | ⟨l1, l2, l3⟩ | ⟨l1, l2, l3⟩
    all_goals
      clear HLC
      have hS := HS.out
      first | (have hxr : (x : Int) < (rm : Int) := by omega) | (have hxr : ¬ (x : Int) < (rm : Int) := by omega) | skip
      first | (subst l3) | (subst l2)
      go_enter Try.func4, Try.ntmps4
      go_wp2_with (first | (at_builtin; refine wpList_app (by rfl) (by rfl) R1.out ?_; clear R1) | (at_builtin; refine wpList_app (by rfl) (by rfl) R2.out ?_; clear R2))
      obtain ⟨a9, c9, e9, -, -, -, hl9, -⟩ := OwnL.form encU_len o2
      cases e9
      have HL9 := hid hl9
      have HBW := hid B3
      clear hl9
      simp only [List.length_cons, List.length_nil, Nat.zero_add, Nat.reduceAdd] at HFin
      go_loopw [10, 11, 15] (fun A N ix wr => ∃ i : Nat, i ≤ 4 ∧ ix = .int .i64 i ∧ A = .bool (([0, L, m, m + 1].take i).all (fun u => stdI op (b + (u : Int)) c)) ∧ N = .bool (([0, L, m, m + 1].take i).all (fun u => !stdI op (b + (u : Int)) c)) ∧ wr = w2) (fun _ _ ix _ => 4 - (intOf ix).toNat)
      case atStart => exact ⟨0, by omega, rfl, rfl, rfl, rfl⟩
      case round =>
        obtain ⟨i, hi, rfl, rfl, rfl, hw⟩ := hrel
        rename World => wr
        subst wr
        by_cases hlt : i < 4
        · have hii : (i : Int) < 4 := by omega
          obtain ⟨f1, f2, f3⟩ := HFin.out i hlt
          obtain ⟨gg, oo, eg, hg, hcell⟩ := HL9.out i ([0, L, m, m + 1].getD i 0) (by have : i < ([0, L, m, m + 1]).length := hlt; simp [List.getD, List.getElem?_eq_getElem this])
          cases eg
          have hc0 := hcell 0 _ rfl
          simp only [Nat.mul_one, Nat.add_zero, Nat.zero_add] at hc0
          unfold encU at hc0
          have F1 := hid f1
          have F2 := hid f2
          have F3 := hid f3
          clear f1 f2 f3 hcell
          generalize ([0, L, m, m + 1].take i).all (fun u => stdI op (b + (u : Int)) c) = A at *
          generalize ([0, L, m, m + 1].take i).all (fun u => !stdI op (b + (u : Int)) c) = N at *
          generalize [0, L, m, m + 1].getD i 0 = u at *
          go_wp2_with fail
          rw [F3.out]
          refine (HSt.out _ _).mono ?_
          rintro e wy ⟨rfl, hw⟩
          subst wy
          generalize stdI op (b + (u : Int)) c = sb at *
          cases A <;> cases N <;> cases sb
          all_goals go_wp2_with fail
          all_goals exact ⟨⟨i + 1, by omega, by go_num, by rw [F1.out]; rfl, by rw [F2.out]; rfl, by first | trivial | rfl⟩, by simp [intOf]; omega⟩
        · obtain rfl : i = 4 := by omega
          have hal : al = ([0, L, m, m + 1].take 4).all (fun u => stdI op (b + (u : Int)) c) := HAll.out
          have hno : no = ([0, L, m, m + 1].take 4).all (fun u => !stdI op (b + (u : Int)) c) := HNon.out
          rw [← hal, ← hno]
          clear hal hno HAll HNon HFin HL9
          cases al <;> cases no
          ·
            have hbc := HSI.out rfl rfl
            have hto := HTO.out
            have htv := HTV.out
            rw [if_neg (by simp)] at hto htv
            rw [← HM2.out hbc] at htv
            subst hto htv
            clear HSI HTO HTV HM2
            go_wp2_with fail
            (try simp only [Exit.inBlock, Exit.then])
            refine bodyPost_ret (results_tmp4 HRES.out _ _ _) rfl ?_
            exact ⟨rfl, HBW.out⟩
          ·
            have hto := HTO.out
            have htv := HTV.out
            rw [if_pos (by simp)] at hto htv
            subst hto htv
            clear HSI HTO HTV HM2
            go_wp2_with fail
            (try simp only [Exit.inBlock, Exit.then])
            refine bodyPost_ret (results_tmp4 HRES.out _ _ _) rfl ?_
            exact ⟨rfl, HBW.out⟩
          ·
            have hto := HTO.out
            have htv := HTV.out
            rw [if_pos (by simp)] at hto htv
            subst hto htv
            clear HSI HTO HTV HM2
            go_wp2_with fail
            (try simp only [Exit.inBlock, Exit.then])
            refine bodyPost_ret (results_tmp4 HRES.out _ _ _) rfl ?_
            exact ⟨rfl, HBW.out⟩
          ·
            have hto := HTO.out
            have htv := HTV.out
            rw [if_pos (by simp)] at hto htv
            subst hto htv
            clear HSI HTO HTV HM2
            go_wp2_with fail
            (try simp only [Exit.inBlock, Exit.then])
            refine bodyPost_ret (results_tmp4 HRES.out _ _ _) rfl ?_
            exact ⟨rfl, HBW.out⟩
  · subst hcs
    exfalso
    have hk := HK.out
    by_cases hbc : b ≤ c
    · have e := HM2.out hbc
      omega
    · omega
  · subst hcs
    exfalso
    have hk := HK.out
    by_cases hbc : b ≤ c
    · have e := HM2.out hbc
      omega
    · omega
end Go.Proofs.Ytfmceahmblbbjaa
