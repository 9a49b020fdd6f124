/-
  PutInts, PutTexts.
-/
import Derived.Test.YtokcmioipdennaaRFoldInt
import Derived.Test.YtokcmioipdennaaRBytes
import Derived.Test.YtokcmioipdennaaPPut2
import Derived.Deep.RegionHeld3
namespace Go.Proofs.Ytokcmioipdennaa
open Go.ChangeShapes Go.WideShapes Go.ChangeAt Go.RowKit Rn Cu

/-- append of bytes, and what it may have written. -/
theorem run_appG {w : World} {B : Nat} {v : Value} {l r : List Nat} {a0 : Option Addr} {c : Nat} (ho : Own w B 5 .u8 v l.length (ofL l)) (hN : Bytes w a0 r) (ha : a0 = none → r.length = 0 ∧ c = 0) (hb : l.length + r.length ≤ 140737488355328) (hB : B ≤ w.heap.size) :
    ∃ v' w', (Builtin.append_ #[34, 34] 34 #[v, .slice a0 r.length c]).run Try.prog w = .ok v' w' ∧ Own w' B 5 .u8 v' (l ++ r).length (ofL (l ++ r)) ∧ (∀ b0, Below B b0 w → Below B b0 w') ∧ w.grownBy w' v.ownBlock := by
  obtain ⟨v', w', hr, h1, h2, _⟩ := run_many (t := 34) (ty := 34) (c := c) Try.underlying34 infoU8 ho hN ha (by omega) (by omega) hB
  refine ⟨v', w', hr, ?_, fun b0 h => h.grown h2 hB (fun j hj => (ho.lt j hj).1), h2⟩
  rw [List.length_append]
  exact h1.ext fun j _ => (ofL_append l r j).symm
/-- An append whose run is known, in a region that draws. -/
theorem oper_appP {a : Act} {w : World} {K : Act → World → Prop} {Q : Exit → Act → World → Prop} {d : Option Nat} {s x : Operand} {t ty : TypeId} {pos : String} {aft : Array Edge} {gd : Option (Nat × Bool)}
    {v u v' : Value} {w' : World} (hs : a.eval s = v) (hx : a.eval x = u)
    (hr : (Builtin.append_ #[t, t] ty #[v, u]).run Try.prog w = .ok v' w') (h : K (a.put d v') w') :
    Oper.wp Try.prog { dst := d, op := .call { callee := .builtin .append, args := #[s, x], argTypes := #[t, t] }, type := ty, pos := pos, after := aft, guard := gd } a w K Q := by
  unfold Oper.wp execOp
  simp only [resolve, invoke, builtin, Sem.run_bind, Sem.run_pure, Result.andThen_ok, List.map_toArray, List.map_cons, List.map_nil, hs, hx, hr]
  exact h

set_option maxRecDepth 4000 in
set_option maxHeartbeats 2000000 in
theorem putInt (a : Option Addr) (l : List Int) (c : Nat) (w : World) (hA : VlsInt w a l) (hn : l.length * 16 ≤ 140737488355328) (hb : (encR evI (foldR l)).length + 20 ≤ 140737488355328) (hin : ∀ x ∈ l, -9223372036854775808 ≤ x ∧ x ≤ 9223372036854775807) :
    Calls Try.prog 37 #[.slice a l.length c, .func (.func 38) #[] #[]] w fun e w' => ∃ v, e = .returned v ∧ NewL w w' v (encR evI (foldR l)) := by
  have HF := hid (foldInt a l c w hA hn)
  have hfl := fold_len l
  have HLE : Hid (∀ p ∈ foldR l, 1 ≤ p.2 ∧ p.2 ≤ (l.length : Int) ∧ -9223372036854775808 ≤ p.1 ∧ p.1 ≤ 9223372036854775807) := fun p hp => ⟨(fold_le hp).1, (fold_le hp).2, hin p.1 (by have := fold_mem hp; exact this)⟩
  have hll : l.length ≤ 140737488355328 := by omega
  generalize foldR l = r at *
  have hrl : r.length ≤ 140737488355328 := by omega
  clear hA hn hfl hin
  go_enter Try.func37, Try.ntmps37
  go_wp2_with (first
    | (go_at_call 17
       refine HF.out.mono ?_
       rintro e w1 ⟨v1, rfl, h1, hb1⟩
       obtain ⟨a1, c1, rfl, -, -, hz1, hL1, -⟩ := h1.form (two_len (Value.int .i64))
       have HU := hid (pPutUvarint none [] 0 r.length w1 (fun j hj => by simp at hj) (fun _ => ⟨rfl, rfl⟩) (by omega) (by simp))
       rw [List.nil_append] at HU
       have HL := hid hL1
       have HB1 := hid hb1
       clear h1 hb1 hL1 hz1 HF)
    | (go_at_call 51
       refine HU.out.mono ?_
       rintro e w2 ⟨v2, rfl, h2⟩
       have H2 : Hid (NewL w1 w2 v2 (encP evI r 0)) := by rw [encP_zero]; exact h2
       clear h2 HU))
  go_loopw [6, 17] (fun x y wr => ∃ i : Nat, i ≤ r.length ∧ y = .int .i64 (i : Int) ∧ Hid (NewL w1 wr x (encP evI r i))) (fun _ y _ => r.length - (intOf y).toNat)
  case atStart => exact ⟨0, Nat.zero_le _, rfl, H2⟩
  case round =>
    clear H2
    obtain ⟨i, hi, rfl, HO⟩ := hrel
    rename World => wr
    by_cases hlt : i < r.length
    · have hii : (i : Int) < (r.length : Int) := by omega
      obtain ⟨g, o, rfl, hgw, k1, k2⟩ := (HL.out.later HO.out.2).cell2 hlt
      have hp := HLE.out _ (List.getElem_mem hlt)
      have HE := hid (encP_next evI hlt)
      have hel := encP_le evI r (i + 1)
      rw [HE.out] at hel
      generalize r[i].1 = x at *
      obtain ⟨n, hn⟩ : ∃ n : Nat, r[i].2 = (n : Int) := ⟨r[i].2.toNat, by omega⟩
      rw [hn] at k2 hp HE hel
      rw [show ((n : Int)).toNat = n by omega] at HE hel
      clear hn
      go_wp2_with fail
      obtain ⟨bx, hbx⟩ : ∃ bx, wr.heap.size = bx := ⟨_, rfl⟩
      have hb0 : Below wr.heap.size wr (wr.alloc (.cells #[(Value.int .i64) x, .int .i64 (n : Int)] 44)) := below_new wr _
      have hbox : (wr.alloc (.cells #[(Value.int .i64) x, .int .i64 (n : Int)] 44)).heap[wr.heap.size]? = some (.cells #[(Value.int .i64) x, .int .i64 (n : Int)] 44 (0, 0)) := heap_alloc_new wr _
      have hsz : (wr.alloc (.cells #[(Value.int .i64) x, .int .i64 (n : Int)] 44)).heap.size = wr.heap.size + 1 := by simp
      rw [hbx] at hbox ⊢
      obtain ⟨W0, hW0⟩ : ∃ W0, wr.alloc (.cells #[(Value.int .i64) x, .int .i64 (n : Int)] 44) = W0 := ⟨_, rfl⟩
      rw [hW0] at hb0 hbox hsz ⊢
      have hbl : bx < W0.heap.size := by omega
      have hK : Hid (∀ W, Below W0.heap.size W0 W → W.cell? ⟨bx, 0, none⟩ = some ((Value.int .i64) x) ∧ W.cell? ⟨bx, 1, none⟩ = some (.int .i64 (n : Int))) := fun W hW => by
        have hr := (hW.block bx hbl).trans hbox
        exact ⟨by rw [cell_of_row _ _ _ _ _ _ hr]; rfl, by rw [cell_of_row _ _ _ _ _ _ hr]; rfl⟩
      have hbd : Below W0.heap.size W0 W0.drew := below_drewN (Below.refl _ W0) 1
      have HK0 := hid (hK.out W0.drew hbd)
      have hwn : IntKind.u64.wrap (n : Int) = (n : Int) := by rw [IntKind.wrap_u64]; omega
      have HUn := hid (pPutUvarint none [] 0 n W0.drew (fun j hj => by simp at hj) (fun _ => ⟨rfl, rfl⟩) (by omega) (by simp))
      rw [List.nil_append] at HUn
      have hun := uv_le n
      rw [List.length_append, List.length_append] at hel
      have HBd := hid hbd
      have HO0 : Hid (NewL w1 W0 u6 (encP evI r i)) := ⟨HO.out.1.later hb0, below_up HO.out.2 hb0⟩
      have HNB : Hid (u6.ownBlock ≠ some bx) := fun e => by have := (HO.out.1.lt bx e).2; omega
      have HBL := hid hbl
      have hp1 := hp.2.2
      have hel2 : (encP evI r i).length + ((uv n).length + (evI x).length) + 20 ≤ 140737488355328 := by omega
      have HEL2 : Hid ((encP evI r i).length + (uv n ++ evI x).length ≤ 140737488355328) := by show _ ≤ _; rw [List.length_append]; omega
      have HP1 := hid hp1
      clear hb0 hbox hsz hW0 hbl hbd hp hp1 hel hel2 k1 k2 HO hbx
      go_region_held3 (fun W => W.cell? ⟨bx, 0, none⟩ = some ((Value.int .i64) x) ∧ W.cell? ⟨bx, 1, none⟩ = some (.int .i64 (n : Int))) (first | exact HK0 | exact HK3 | exact HK4 | exact HK5) (first
        | (go_at_call 51
           refine HUn.out.mono ?_
           rintro e w3 ⟨v3, rfl, h3⟩
           obtain ⟨a3, c3, rfl, hz3, hB3⟩ := h3.form
           have HPV := hid (pPutVarint a3 (uv n) c3 x w3 hB3 hz3 HP1.out.1 HP1.out.2 (by omega))
           have HB3 : Hid (Below W0.heap.size W0 w3) := below_up HBd.out h3.2
           have HK3 := hid (hK.out w3 HB3.out)
           clear h3 hz3 hB3 HUn)
        | (go_at_call 38
           refine HPV.out.mono ?_
           rintro e w4 ⟨v4, rfl, h4⟩
           obtain ⟨a4, c4, rfl, hz4, hB4⟩ := h4.form
           have HB4 : Hid (Below W0.heap.size W0 w4) := below_up HB3.out h4.2
           obtain ⟨v5, w5, R5, o5, b5, g5⟩ := run_appG (c := c4) (HO0.out.1.later HB4.out) hB4 hz4 HEL2.out (Nat.le_trans HO0.out.2.size HB4.out.size)
           rw [List.length_append] at R5
           have R5' := hid R5
           have O5 : Hid (NewL w1 w5 v5 (encP evI r (i + 1))) := by rw [HE.out]; exact ⟨o5, b5 w1 (below_up HO0.out.2 HB4.out)⟩
           have k45 : w5.heap[bx]? = w4.heap[bx]? := g5.block bx (Nat.lt_of_lt_of_le HBL.out HB4.out.size) (fun e => HNB.out e.symm)
           have HK5 : Hid (w5.cell? ⟨bx, 0, none⟩ = some ((Value.int .i64) x) ∧ w5.cell? ⟨bx, 1, none⟩ = some (.int .i64 (n : Int))) := by
             have h7 := hK.out w4 HB4.out
             exact ⟨(World.cell?_of_block (a := ⟨bx, 0, none⟩) k45).trans h7.1, (World.cell?_of_block (a := ⟨bx, 1, none⟩) k45).trans h7.2⟩
           have HK4 := hid (hK.out w4 HB4.out)
           clear h4 hz4 hB4 HPV R5 o5 b5 g5 k45)
        | (rw [if_pos (by rfl)]; refine oper_appP (by rfl) (by rfl) R5'.out ?_))
      all_goals go_wp2_with fail
      all_goals exact ⟨⟨i + 1, by omega, by go_num, O5⟩, by simp [intOf]; omega⟩
    · obtain rfl : i = r.length := by omega
      rw [encP_all] at HO
      go_wp2_with fail
      go_ret
      exact ⟨_, rfl, HO.out.up HB1.out⟩
set_option maxRecDepth 4000 in
set_option maxHeartbeats 1000000 in
theorem putInts (a : Option Addr) (l : List Int) (c : Nat) (w : World) (hA : VlsInt w a l) (hn : l.length * 16 ≤ 140737488355328) (hb : (encR evI (foldR l)).length + 20 ≤ 140737488355328) (hin : ∀ x ∈ l, -9223372036854775808 ≤ x ∧ x ≤ 9223372036854775807) :
    Calls Try.prog 12 #[.slice a l.length c] w fun e w' => ∃ v, e = .returned v ∧ NewL w w' v (encR evI (foldR l)) := by
  have HP := hid (putInt a l c w hA hn hb hin)
  clear hA hn hb hin
  generalize encR evI (foldR l) = q at *
  go_enter Try.func12, Try.ntmps12
  go_wp2_with (go_at_call 37; refine HP.out.mono ?_; rintro e w2 ⟨v2, rfl, h2⟩)
  go_ret
  exact ⟨_, rfl, h2⟩
end Go.Proofs.Ytokcmioipdennaa
