/-
  The law's words, numberRuns, textRuns, modelNumbers, modelTexts.
-/
import Derived.Test.YtmpogcneilaeaaaRRefF
import Derived.Deep.RegionHeld3
namespace Go.Proofs.Ytmpogcneilaeaaa
open Go.ChangeShapes Go.WideShapes Go.ChangeAt Go.RowKit Rn Cu

abbrev OwnT (w : World) (B : Nat) (v : Value) (l : List ByteArray) : Prop := OwnL (one Value.string) 1 w B 9 v l
theorem infoT : (Try.prog.info? 9).map (fun i => (i.zero, i.size, i.bytes)) = some (some (.string ByteArray.empty), 1, 16) := by kernel_rfl
theorem run_oneT {w : World} {B : Nat} {v : Value} {r : List ByteArray} (ho : OwnT w B v r) (hb : (r.length + 1) * 16 ≤ 140737488355328) (hB : B ≤ w.heap.size) (x : ByteArray) :
    ∃ g c w', (Builtin.append_ #[23, 23] 23 #[v, .slice (some ⟨w.heap.size, 0, none⟩) 1 1]).run Try.prog (w.alloc (.cells #[.string x] 9)) = .ok (.slice (some ⟨g, 0, none⟩) (r.length + 1) c) w' ∧ OwnT w' B (.slice (some ⟨g, 0, none⟩) (r.length + 1) c) (r ++ [x]) ∧ Below B w w' := by
  obtain ⟨g, c, w', h1, h2, h3, _⟩ := lst_one (one_len Value.string) (by decide) (one_cell (fun _ => rfl)) (t := 23) (ty := 23) (by0 := 16) Try.underlying23 infoT rfl ho hb (by decide) hB x #[.string x] rfl
  exact ⟨g, c, w', h1, h2, h3⟩
theorem map_take_snoc {α β : Type} {f : α → β} {l : List α} {i : Nat} (hi : i < l.length) : (l.take i).map f ++ [f l[i]] = (l.take (i + 1)).map f := by
  rw [List.take_add_one, List.getElem?_eq_getElem hi, List.map_append]; rfl
set_option maxRecDepth 4000 in
set_option maxHeartbeats 2000000 in
theorem words_any (a : Option Addr) (l : List Int) (c : Nat) (w : World) (hA : VlsInt w a l) (hn : l.length * 16 ≤ 140737488355328) :
    Calls Try.prog 10 #[.slice a l.length c] w fun e w' => ∃ v, e = .returned v ∧ OwnT w' w.heap.size v (l.map wrd) ∧ Below w.heap.size w w' := by
  have HA := hid hA
  have HBB : Hid (∀ i, i < l.length → (i + 1) * 16 ≤ 140737488355328) := fun i hi => by omega
  clear hA
  go_enter Try.func10, Try.ntmps10
  go_wp2_with fail
  go_loopw [3, 4] (fun x y wr => ∃ i : Nat, i ≤ l.length ∧ y = .int .i64 (i : Int) ∧ Hid (OwnT wr w.heap.size x ((l.take i).map wrd)) ∧ Hid (Below w.heap.size w wr)) (fun _ y _ => l.length - (intOf y).toNat)
  case atStart => exact ⟨0, Nat.zero_le _, rfl, OwnL.nil _ _ _ _ _, Below.refl _ _⟩
  case round =>
    obtain ⟨i, hi, rfl, HO, HBl⟩ := hrel
    rename World => wr
    by_cases hlt : i < l.length
    · have hii : (i : Int) < (l.length : Int) := by omega
      obtain ⟨g, o, rfl, _, k1⟩ := (Lst.later HA.out HBl.out).cell1 hlt
      have hlen : ((l.take i).map wrd).length = i := by rw [List.length_map, List.length_take]; omega
      have HW := hid (rWord l[i] wr)
      have HE := hid (map_take_snoc (f := wrd) hlt)
      have hbb := HBB.out i hlt
      generalize l[i] = x at *
      go_wp2_with (first
        | (go_at_call 32
           refine HW.out.mono ?_
           rintro e w2 ⟨rfl, hb2⟩
           obtain ⟨g3, c3, w3, R3, H3, B3⟩ := run_oneT (w := w2) (OwnL.later HO.out hb2) (by rw [hlen]; exact hbb) (Nat.le_trans HBl.out.size hb2.size) (wrd x)
           rw [hlen] at R3 H3
           rw [HE.out] at H3
           have R3' := hid R3
           have H3' := hid H3
           have B3' : Hid (Below w.heap.size w w3) := (below_up HBl.out hb2).trans B3
           clear R3 H3 B3 hb2 HW HO)
        | (at_builtin; refine wpList_app (by rfl) (by rfl) R3'.out ?_; clear R3'))
      exact ⟨⟨i + 1, by omega, by go_num, H3', B3'⟩, by simp [intOf]; omega⟩
    · obtain rfl : i = l.length := by omega
      rw [List.take_length] at HO
      go_wp2_with fail
      go_ret
      exact ⟨_, rfl, HO.out, HBl.out⟩
/-- An append whose run is known, in a region that draws. -/
theorem oper_appR {a : Act} {w : World} {K : Act → World → Prop} {Q : Exit → Act → World → Prop} {d : Option Nat} {s x : Operand} {t ty : TypeId} {pos : String} {aft : Array Edge} {gd : Option (Nat × Bool)}
    {v u v' : Value} {w' : World} (hs : a.eval s = v) (hx : a.eval x = u)
    (hr : (Builtin.append_ #[t, t] ty #[v, u]).run Try.prog w = .ok v' w') (h : K (a.put d v') w') :
    Oper.wp Try.prog { dst := d, op := .call { callee := .builtin .append, args := #[s, x], argTypes := #[t, t] }, type := ty, pos := pos, after := aft, guard := gd } a w K Q := by
  unfold Oper.wp execOp
  simp only [resolve, invoke, builtin, Sem.run_bind, Sem.run_pure, Result.andThen_ok, List.map_toArray, List.map_cons, List.map_nil, hs, hx, hr]
  exact h
theorem below_drew {B : Nat} {a w : World} (h : Below B a w) : Below B a w.drew := ⟨h.os, h.tape, h.output, h.size, h.block⟩
theorem mapR_take_snoc {α β : Type} {f : α → β} {r : List (α × Int)} {i : Nat} (hi : i < r.length) : mapR f (r.take i) ++ [(f r[i].1, r[i].2)] = mapR f (r.take (i + 1)) := by
  unfold mapR
  rw [List.take_add_one, List.getElem?_eq_getElem hi, List.map_append]; rfl
set_option maxRecDepth 4000 in
set_option maxHeartbeats 2000000 in
theorem numberRuns_any (a : Option Addr) (r : List (Int × Int)) (c : Nat) (w : World) (hA : Lst (two Value.string) 2 w a (mapR wrd r)) (hn : r.length * 24 ≤ 140737488355328) (hin : ∀ p ∈ r, In64 p.1) :
    Calls Try.prog 8 #[.slice a r.length c] w fun e w' => ∃ v, e = .returned v ∧ OwnRInt w' w.heap.size v r ∧ Below w.heap.size w w' := by
  have HA := hid hA
  have HIN := hid hin
  have HBB : Hid (∀ i, i < r.length → (i + 1) * 16 ≤ 140737488355328) := fun i hi => by omega
  have hlr := mapR_len wrd r
  have HLR := hid hlr
  clear hA hin hlr
  go_enter Try.func8, Try.ntmps8
  go_wp2_with fail
  go_loopw [3, 4] (fun x y wr => ∃ i : Nat, i ≤ r.length ∧ y = .int .i64 (i : Int) ∧ Hid (OwnRInt wr w.heap.size x (r.take i)) ∧ Hid (Below w.heap.size w wr)) (fun _ y _ => r.length - (intOf y).toNat)
  case atStart => exact ⟨0, Nat.zero_le _, rfl, OwnL.nil _ _ _ _ _, Below.refl _ _⟩
  case round =>
    obtain ⟨i, hi, rfl, HO, HBl⟩ := hrel
    rename World => wr
    by_cases hlt : i < r.length
    · have hii : (i : Int) < (r.length : Int) := by omega
      obtain ⟨g, o, rfl, hgw, k1, k2⟩ := HA.out.cell2 (show i < (mapR wrd r).length by rw [HLR.out]; exact hlt)
      rw [show (mapR wrd r)[i]'(by rw [HLR.out]; exact hlt) = (wrd r[i].1, r[i].2) by simp [mapR]] at k1 k2
      dsimp only at k1 k2
      have hlen : (r.take i).length = i := by rw [List.length_take]; omega
      have HN := hid (rNumber r[i].1 wr.drew (HIN.out _ (List.getElem_mem hlt)))
      obtain ⟨g3, c3, w3, R3, H3, B3⟩ := run_oneRInt (w := wr.drew) (OwnL.later HO.out (below_drew (Below.refl _ wr))) (by rw [hlen]; exact HBB.out i hlt) HBl.out.size r[i].1 r[i].2
      rw [hlen] at R3 H3
      rw [show r.take i ++ [(r[i].1, r[i].2)] = r.take (i + 1) by rw [List.take_add_one, List.getElem?_eq_getElem hlt]; rfl] at H3
      have H3' := hid H3
      have B3' : Hid (Below w.heap.size w w3) := (below_drew HBl.out).trans B3
      generalize r[i].1 = x at *
      generalize r[i].2 = n at *
      rw [show wr.drew.heap.size = wr.heap.size from rfl] at R3
      have R3' := hid R3
      have hk : ∀ W, Below w.heap.size w W → W.cell? ⟨g, o + i * 2, none⟩ = some (.string (wrd x)) ∧ W.cell? ⟨g, o + i * 2 + 1, none⟩ = some (.int .i64 n) := fun W hW => ⟨(hW.cell (p := ⟨g, o + i * 2, none⟩) hgw).trans k1, (hW.cell (p := ⟨g, o + i * 2 + 1, none⟩) hgw).trans k2⟩
      have hk0 := hk wr.drew (below_drew HBl.out)
      have hka := hk (wr.alloc (.cells #[.int .i64 x, .int .i64 n] 37)).drew (below_drew (HBl.out.alloc HBl.out.size _))
      have hkb := hk w3 B3'.out
      clear hk k1 k2
      have HK0 := hid hk0
      have HKa := hid hka
      have HKb := hid hkb
      clear hk0 hka hkb
      clear R3 H3 B3
      go_wp2_with fail
      go_region_held3 (fun W => W.cell? ⟨g, o + i * 2, none⟩ = some (.string (wrd x)) ∧ W.cell? ⟨g, o + i * 2 + 1, none⟩ = some (.int .i64 n)) (first | exact HK0 | exact HKa | exact HKb) (first | (go_at_call 40; refine HN.out.mono ?_; rintro e w2 ⟨rfl, hw2⟩; subst w2) | (rw [if_pos (by rfl)]; refine oper_appR (by rfl) (by rfl) R3'.out ?_))
      go_wp2_with fail
      exact ⟨⟨i + 1, by omega, by go_num, H3', B3'⟩, by simp [intOf]; omega⟩
    · obtain rfl : i = r.length := by omega
      rw [List.take_length] at HO
      go_wp2_with fail
      go_ret
      exact ⟨_, rfl, HO.out, HBl.out⟩
end Go.Proofs.Ytmpogcneilaeaaa
