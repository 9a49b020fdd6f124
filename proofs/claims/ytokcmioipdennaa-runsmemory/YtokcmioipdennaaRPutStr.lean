/-
  PutInts, PutTexts.
-/
import Derived.Test.YtokcmioipdennaaRFoldStr
import Derived.Test.YtokcmioipdennaaRBytes
import Derived.Test.YtokcmioipdennaaPPut2
import Derived.Test.YtokcmioipdennaaRPutInt
import Derived.Deep.RegionHeld3
namespace Go.Proofs.Ytokcmioipdennaa
open Go.ChangeShapes Go.WideShapes Go.ChangeAt Go.RowKit Rn Cu

set_option maxRecDepth 4000 in
set_option maxHeartbeats 1000000 in
theorem putText1 (a : Option Addr) (l : List Nat) (c : Nat) (s : ByteArray) (w : World) (hA : Bytes w a l) (ha : a = none → l.length = 0 ∧ c = 0) (hn : l.length + (bs s).length + 10 ≤ 140737488355328) :
    Calls Try.prog 40 #[.slice a l.length c, .string s] w fun e w' => ∃ v', e = .returned v' ∧ NewL w w' v' (l ++ evS s) := by
  obtain ⟨c2, w2, hr, hB, hb, _⟩ := run_bytesL w s
  have HP := hid (pPutBlock a (some ⟨w.heap.size, 0, none⟩) l (bs s) c c2 w2 (hA.later hb) hB ha (fun e => by cases e) hn)
  have HB := hid hb
  have R := hid hr
  clear hA ha hr hB hb
  go_enter Try.func40, Try.ntmps40
  go_wp2_with fail
  rw [R.out]
  go_wp2_with (go_at_call 41; refine HP.out.mono ?_; rintro e w3 ⟨v3, rfl, h3⟩)
  go_ret
  exact ⟨_, rfl, h3.up HB.out⟩

set_option maxRecDepth 4000 in
set_option maxHeartbeats 2000000 in
theorem putStr (a : Option Addr) (l : List ByteArray) (c : Nat) (w : World) (hA : VlsStr w a l) (hn : l.length * 24 ≤ 140737488355328) (hb : (encR evS (foldR l)).length + 20 ≤ 140737488355328) :
    Calls Try.prog 39 #[.slice a l.length c, .func (.func 40) #[] #[]] w fun e w' => ∃ v, e = .returned v ∧ NewL w w' v (encR evS (foldR l)) := by
  have HF := hid (foldStr a l c w hA hn)
  have hfl := fold_len l
  have HLE : Hid (∀ p ∈ foldR l, 1 ≤ p.2 ∧ p.2 ≤ (l.length : Int)) := fun p hp => ⟨(fold_le hp).1, (fold_le hp).2⟩
  have hll : l.length ≤ 140737488355328 := by omega
  generalize foldR l = r at *
  have hrl : r.length ≤ 140737488355328 := by omega
  clear hA hn hfl
  go_enter Try.func39, Try.ntmps39
  go_wp2_with (first
    | (go_at_call 8
       refine HF.out.mono ?_
       rintro e w1 ⟨v1, rfl, h1, hb1⟩
       obtain ⟨a1, c1, rfl, -, -, hz1, hL1, -⟩ := h1.form (two_len Value.string)
       have HU := hid (pPutUvarint none [] 0 r.length w1 (fun j hj => by simp at hj) (fun _ => ⟨rfl, rfl⟩) (by omega) (by simp))
       rw [List.nil_append] at HU
       have HL := hid hL1
       have HB1 := hid hb1
       clear h1 hb1 hL1 hz1 HF)
    | (go_at_call 51
       refine HU.out.mono ?_
       rintro e w2 ⟨v2, rfl, h2⟩
       have H2 : Hid (NewL w1 w2 v2 (encP evS r 0)) := by rw [encP_zero]; exact h2
       clear h2 HU))
  go_loopw [6, 17] (fun x y wr => ∃ i : Nat, i ≤ r.length ∧ y = .int .i64 (i : Int) ∧ Hid (NewL w1 wr x (encP evS r i))) (fun _ y _ => r.length - (intOf y).toNat)
  case atStart => exact ⟨0, Nat.zero_le _, rfl, H2⟩
  case round =>
    clear H2
    obtain ⟨i, hi, rfl, HO⟩ := hrel
    rename World => wr
    by_cases hlt : i < r.length
    · have hii : (i : Int) < (r.length : Int) := by omega
      obtain ⟨g, o, rfl, hgw, k1, k2⟩ := (HL.out.later HO.out.2).cell2 hlt
      have hp := HLE.out _ (List.getElem_mem hlt)
      have HE := hid (encP_next evS hlt)
      have hel := encP_le evS r (i + 1)
      rw [HE.out] at hel
      generalize r[i].1 = x at *
      obtain ⟨n, hn⟩ : ∃ n : Nat, r[i].2 = (n : Int) := ⟨r[i].2.toNat, by omega⟩
      rw [hn] at k2 hp HE hel
      rw [show ((n : Int)).toNat = n by omega] at HE hel
      clear hn
      go_wp2_with fail
      obtain ⟨bx, hbx⟩ : ∃ bx, wr.heap.size = bx := ⟨_, rfl⟩
      have hb0 : Below wr.heap.size wr (wr.alloc (.cells #[Value.string x, .int .i64 (n : Int)] 48)) := below_new wr _
      have hbox : (wr.alloc (.cells #[Value.string x, .int .i64 (n : Int)] 48)).heap[wr.heap.size]? = some (.cells #[Value.string x, .int .i64 (n : Int)] 48 (0, 0)) := heap_alloc_new wr _
      have hsz : (wr.alloc (.cells #[Value.string x, .int .i64 (n : Int)] 48)).heap.size = wr.heap.size + 1 := by simp
      rw [hbx] at hbox ⊢
      obtain ⟨W0, hW0⟩ : ∃ W0, wr.alloc (.cells #[Value.string x, .int .i64 (n : Int)] 48) = W0 := ⟨_, rfl⟩
      rw [hW0] at hb0 hbox hsz ⊢
      have hbl : bx < W0.heap.size := by omega
      have hK : Hid (∀ W, Below W0.heap.size W0 W → W.cell? ⟨bx, 0, none⟩ = some (Value.string x) ∧ W.cell? ⟨bx, 1, none⟩ = some (.int .i64 (n : Int))) := fun W hW => by
        have hr := (hW.block bx hbl).trans hbox
        exact ⟨by rw [cell_of_row _ _ _ _ _ _ hr]; rfl, by rw [cell_of_row _ _ _ _ _ _ hr]; rfl⟩
      have hbd : Below W0.heap.size W0 W0.drew := below_drewN (Below.refl _ W0) 1
      have HK0 := hid (hK.out W0.drew hbd)
      have hwn : IntKind.u64.wrap (n : Int) = (n : Int) := by rw [IntKind.wrap_u64]; omega
      have HUn := hid (pPutUvarint none [] 0 n W0.drew (fun j hj => by simp at hj) (fun _ => ⟨rfl, rfl⟩) (by omega) (by simp))
      rw [List.nil_append] at HUn
      have hun := uv_le n
      rw [List.length_append, List.length_append] at hel
      have HBd := hid hbd
      have HO0 : Hid (NewL w1 W0 u6 (encP evS r i)) := ⟨HO.out.1.later hb0, below_up HO.out.2 hb0⟩
      have HNB : Hid (u6.ownBlock ≠ some bx) := fun e => by have := (HO.out.1.lt bx e).2; omega
      have HBL := hid hbl
      have hp1 := hp.2
      have hel2 : (encP evS r i).length + ((uv n).length + (evS x).length) + 20 ≤ 140737488355328 := by omega
      have HEL2 : Hid ((encP evS r i).length + (uv n ++ evS x).length ≤ 140737488355328) := by show _ ≤ _; rw [List.length_append]; omega
      have HEL3 : Hid ((uv n).length + (bs x).length + 10 ≤ 140737488355328) := by
        show _ ≤ _
        have h8 : (evS x).length = (uv (bs x).length).length + (bs x).length := by unfold evS encB; rw [List.length_append]
        omega
      clear hb0 hbox hsz hW0 hbl hbd hp hp1 hel hel2 k1 k2 HO hbx
      go_region_held3 (fun W => W.cell? ⟨bx, 0, none⟩ = some (Value.string x) ∧ W.cell? ⟨bx, 1, none⟩ = some (.int .i64 (n : Int))) (first | exact HK0 | exact HK3 | exact HK4 | exact HK5) (first
        | (go_at_call 51
           refine HUn.out.mono ?_
           rintro e w3 ⟨v3, rfl, h3⟩
           obtain ⟨a3, c3, rfl, hz3, hB3⟩ := h3.form
           have HPV := hid (putText1 a3 (uv n) c3 x w3 hB3 hz3 HEL3.out)
           have HB3 : Hid (Below W0.heap.size W0 w3) := below_up HBd.out h3.2
           have HK3 := hid (hK.out w3 HB3.out)
           clear h3 hz3 hB3 HUn)
        | (go_at_call 40
           refine HPV.out.mono ?_
           rintro e w4 ⟨v4, rfl, h4⟩
           obtain ⟨a4, c4, rfl, hz4, hB4⟩ := h4.form
           have HB4 : Hid (Below W0.heap.size W0 w4) := below_up HB3.out h4.2
           obtain ⟨v5, w5, R5, o5, b5, g5⟩ := run_appG (c := c4) (HO0.out.1.later HB4.out) hB4 hz4 HEL2.out (Nat.le_trans HO0.out.2.size HB4.out.size)
           rw [List.length_append] at R5
           have R5' := hid R5
           have O5 : Hid (NewL w1 w5 v5 (encP evS r (i + 1))) := by rw [HE.out]; exact ⟨o5, b5 w1 (below_up HO0.out.2 HB4.out)⟩
           have k45 : w5.heap[bx]? = w4.heap[bx]? := g5.block bx (Nat.lt_of_lt_of_le HBL.out HB4.out.size) (fun e => HNB.out e.symm)
           have HK5 : Hid (w5.cell? ⟨bx, 0, none⟩ = some (Value.string x) ∧ w5.cell? ⟨bx, 1, none⟩ = some (.int .i64 (n : Int))) := by
             have h7 := hK.out w4 HB4.out
             exact ⟨(World.cell?_of_block (a := ⟨bx, 0, none⟩) k45).trans h7.1, (World.cell?_of_block (a := ⟨bx, 1, none⟩) k45).trans h7.2⟩
           have HK4 := hid (hK.out w4 HB4.out)
           clear h4 hz4 hB4 HPV R5 o5 b5 g5 k45)
        | (rw [if_pos (by rfl)]; refine oper_appP (by rfl) (by rfl) R5'.out ?_))
      all_goals go_wp2_with fail
      all_goals exact ⟨⟨i + 1, by omega, by go_num, O5⟩, by simp [intOf]; omega⟩
    · obtain rfl : i = r.length := by omega
      rw [encP_all] at HO
      go_wp2_with fail
      go_ret
      exact ⟨_, rfl, HO.out.up HB1.out⟩
set_option maxRecDepth 4000 in
set_option maxHeartbeats 1000000 in
theorem putStrs (a : Option Addr) (l : List ByteArray) (c : Nat) (w : World) (hA : VlsStr w a l) (hn : l.length * 24 ≤ 140737488355328) (hb : (encR evS (foldR l)).length + 20 ≤ 140737488355328) :
    Calls Try.prog 13 #[.slice a l.length c] w fun e w' => ∃ v, e = .returned v ∧ NewL w w' v (encR evS (foldR l)) := by
  have HP := hid (putStr a l c w hA hn hb)
  clear hA hn hb
  generalize encR evS (foldR l) = q at *
  go_enter Try.func13, Try.ntmps13
  go_wp2_with (go_at_call 39; refine HP.out.mono ?_; rintro e w2 ⟨v2, rfl, h2⟩)
  go_ret
  exact ⟨_, rfl, h2⟩
end Go.Proofs.Ytokcmioipdennaa
