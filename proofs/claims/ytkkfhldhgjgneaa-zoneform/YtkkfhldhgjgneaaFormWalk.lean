/-
  ZoneForm: the walk.
-/
import Derived.Test.YtkkfhldhgjgneaaZAwake
import Derived.Test.YtkkfhldhgjgneaaRBArg
namespace Go.Proofs.Ytkkfhldhgjgneaa
open Go.RowKit Crc Cu Vl
attribute [local go_sem] run_store_float

theorem Bytes.same {w w' : World} {a : Option Addr} {l : List Nat} (h : Bytes w a l) (he : w'.heap = w.heap) : Bytes w' a l := Nums.same h he
theorem enc_lt {z : Zn} {r rd : Rd} (hr : r.Ok) (h : Took r rd (encZ z)) : (∀ x ∈ z.bl, x < 256) ∧ ∀ x ∈ encZ z, x < 256 := by
  have h1 : ∀ x ∈ encZ z, x < 256 := fun x hx => hr.rest x (by rw [h.2.1]; exact List.mem_append_left _ hx)
  refine ⟨fun x hx => h1 x ?_, h1⟩
  unfold encZ encB
  exact List.mem_append_right _ (List.mem_append_right _ hx)
theorem encZ_pos (z : Zn) : 0 < (encZ z).length := by
  unfold encZ
  rw [List.length_append, List.length_append]
  have := Cu.uv_pos z.n.toNat
  omega
theorem may_bl {c : Col} {z : Zn} (h : mayZ c z = true) : z.bl.length ≤ 65536 := by
  unfold mayZ at h
  simp only [Bool.and_eq_true, blB, isSz, Bool.or_eq_true, decide_eq_true_eq, List.isEmpty_iff] at h
  rcases h.2 with hb | hb
  · rw [hb]; simp
  · omega
set_option maxRecDepth 8000 in
set_option maxHeartbeats 8000000 in
theorem walk_zoneForm (W : World) (c : Col) (a : Option Addr) (n d : Nat) (l : List Nat) (hL : BArgF W a n d l) :
    Calls Try.prog 3 #[cv c, .slice a n d] W fun e w' => e = .returned (.bool true) ∧ Below W.heap.size W w' := by
  obtain rfl := hL.len
  have hle := hL.le
  have hsm := hL.small
  have HL := hid hL
  have HAw := hid fun w => awake_any w
  have HOp := hid fun w h => pOpen a l d w h hL.nil hL.lt (by omega)
  have HTk := hid fun w lo hi g (h : ProgRd w lo hi g ⟨l, 0, 0⟩) => take_any c h
  have HPu := hid fun z a d w h => put_any c z a d w h
  have hok : (Rd.mk l 0 0).Ok := ⟨Nat.zero_le _, hL.lt⟩
  have HFm : Hid (takeE c ⟨l, 0, 0⟩ = 0 → Took ⟨l, 0, 0⟩ (takeRd c ⟨l, 0, 0⟩) (encZ (takeZ c ⟨l, 0, 0⟩)) ∧ VOk (takeZ c ⟨l, 0, 0⟩).mn ∧ VOk (takeZ c ⟨l, 0, 0⟩).mx ∧ (∀ x ∈ (takeZ c ⟨l, 0, 0⟩).bl, x < 256) ∧ (takeZ c ⟨l, 0, 0⟩).bl.length ≤ 65536 ∧ putE c (takeZ c ⟨l, 0, 0⟩) = 0 ∧ putR c (takeZ c ⟨l, 0, 0⟩) = encZ (takeZ c ⟨l, 0, 0⟩)) := fun h => by
    obtain ⟨h1, h2, h3, h4, h5, _⟩ := take_form (c := c) hok h
    have hp : putE c (takeZ c ⟨l, 0, 0⟩) = 0 := by unfold putE; rw [if_pos h3, if_pos h2]
    exact ⟨h1, h4, h5, (enc_lt hok h1).1, may_bl h2, hp, by unfold putR; rw [if_pos hp]⟩
  have HNz : Hid (¬ takeE c ⟨l, 0, 0⟩ = 0 → takeZ c ⟨l, 0, 0⟩ = z0) := fun h => by unfold takeZ; rw [if_neg h]
  have b0 := below_new W (.cells (ca c) 23)
  have Xc := hid (Bx.new W (ca c) 23)
  have B := hid b0
  clear b0 hL hok
  obtain ⟨W1, hW1⟩ : ∃ W1, W.alloc (.cells (ca c) 23) = W1 := ⟨_, rfl⟩
  rw [hW1] at Xc B
  have HW1 := hid hW1
  clear hW1
  generalize htz : takeZ c ⟨l, 0, 0⟩ = Z at *
  generalize hte : takeE c ⟨l, 0, 0⟩ = E at *
  generalize htr : takeRd c ⟨l, 0, 0⟩ = RD at *
  clear htz hte htr
  unfold ca at HW1
  unfold cv at *
  go_enter Try.func3, Try.ntmps3
  go_wp2_with fail
  rw [HW1.out]
  clear HW1
  refine (HAw.out _).mono ?_
  rintro e w1 ⟨rfl, hb⟩
  replace Xc := hid (Xc.out.later hb)
  replace B := hid (below_up B.out hb)
  clear hb HAw
  go_wp2_with fail
  refine (HOp.out _ (HL.out.bytes.later B.out)).mono ?_
  rintro e w2 ⟨g, rfl, hP, hb⟩
  have P := hid hP
  have hg1 : w1.heap.size ≤ g := hP.glo
  have hXl := Xc.out.lt
  have hgs : W.heap.size ≤ g := Nat.le_trans B.out.size hg1
  have hgn : W.heap.size ≠ g := by omega
  replace Xc := hid (Xc.out.later hb)
  replace B := hid (below_up B.out hb)
  clear hb HOp hP
  obtain ⟨c0, c1, c2⟩ := Xc.out.col
  go_wp2_with fail
  refine (HTk.out _ _ _ _ P.out).mono ?_
  unfold TakeAns zv
  rintro e w3 ⟨a3, d3, rfl, hO, hP, hH⟩
  clear c0 c1 c2
  have hOf := hO.form
  have hlo := hO.lt
  have O := hid (hO.low B.out.size)
  replace Xc := hid (Xc.out.hit hH hgn)
  replace B := hid (below_hit B.out hH hgs)
  have P := hid hP
  have hhi := hP.ghi
  clear hO hP hH HTk
  obtain ⟨Zn0, ⟨Ka, Ia, ba, sa⟩, ⟨Kb, Ib, bb, sb⟩, bl⟩ := Z
  dsimp only at *
  have b1 := below_new w3 (.cells #[.int .i64 Zn0, .int .i64 Ka, .int .i64 Ia, .float .f64 ba, .string sa, .int .i64 Kb, .int .i64 Ib, .float .f64 bb, .string sb, .slice a3 bl.length d3] 32)
  have hx1 : Bx (w3.alloc (.cells #[.int .i64 Zn0, .int .i64 Ka, .int .i64 Ia, .float .f64 ba, .string sa, .int .i64 Kb, .int .i64 Ib, .float .f64 bb, .string sb, .slice a3 bl.length d3] 32)) w3.heap.size #[.int .i64 Zn0, .int .i64 Ka, .int .i64 Ia, .float .f64 ba, .string sa, .int .i64 Kb, .int .i64 Ib, .float .f64 bb, .string sb, .slice a3 bl.length d3] 32 := Bx.new w3 _ _
  have Xz := hid hx1
  replace Xc := hid (Xc.out.later b1)
  replace B := hid (below_up B.out b1)
  replace P := hid (P.out.later b1)
  replace O := hid (O.out.later b1)
  clear b1 hx1
  obtain ⟨W4, hW4⟩ : ∃ W4, w3.alloc (.cells #[.int .i64 Zn0, .int .i64 Ka, .int .i64 Ia, .float .f64 ba, .string sa, .int .i64 Kb, .int .i64 Ib, .float .f64 bb, .string sb, .slice a3 bl.length d3] 32) = W4 := ⟨_, rfl⟩
  rw [hW4] at Xz Xc B P O
  have HW4 := hid hW4
  clear hW4
  by_cases hE : E = 0
  · subst hE
    obtain ⟨hT, hv1, hv2, hbl, hbn, hpE, hpR⟩ := HFm.out rfl
    have HPz := hid fun w h => HPu.out ⟨Zn0, ⟨Ka, Ia, ba, sa⟩, ⟨Kb, Ib, bb, sb⟩, bl⟩ a3 d3 w h
    rw [hpE, hpR] at HPz
    have hpos := encZ_pos ⟨Zn0, ⟨Ka, Ia, ba, sa⟩, ⟨Kb, Ib, bb, sb⟩, bl⟩
    generalize encZ _ = EZ at *
    have hlE : l = EZ ++ RD.rest := hT.2.1
    have hlen : EZ.length ≤ l.length := by rw [hlE, List.length_append]; omega
    have hleft : Rd.left RD = l.length - EZ.length := by rw [hT.1]; unfold Rd.left Rd.on; simp
    have HTake : Hid (l.take EZ.length = EZ) := by show _ = _; rw [hlE, List.take_left]
    clear hlE
    have HZI : Hid (ZIn W4 ⟨Zn0, ⟨Ka, Ia, ba, sa⟩, ⟨Kb, Ib, bb, sb⟩, bl⟩ a3 d3) := by
      obtain ⟨a4, c4, e4, _, _, hn4⟩ := O.out.form
      simp only [Value.slice.injEq, true_and] at e4
      obtain ⟨rfl, rfl⟩ := e4
      exact ⟨hv1, hv2, O.out.nums, hbl, by show bl.length ≤ _; omega, hn4⟩
    unfold zv at HPz
    dsimp only at HPz
    have XC := Xc.out
    have XZ := Xz.out
    rw [← HW4.out] at XC XZ
    obtain ⟨c0, c1, c2⟩ := XC.col
    obtain ⟨x0, x1, x2, x3, x4, x5, x6, x7, x8, x9⟩ := bx10 XZ
    clear XC XZ hT hv1 hv2 hbl hbn hpE hpR HFm HNz HPu
    go_wp2_with (go_at_call 7; refine (num_any _ _).mono ?_; rintro e wn ⟨rfl, hwn⟩; subst wn)
    clear c0 c1 c2 x0 x1 x2 x3 x4 x5 x6 x7 x8 x9
    rw [HW4.out]
    refine (HPz.out _ HZI.out).mono ?_
    rintro e w5 ⟨v5, rfl, hN⟩
    obtain ⟨a5, d5, rfl, hn5, hB5⟩ := hN.form
    have hb := hN.2
    have hs5 := run_strL d5 hB5
    replace P := hid (P.out.later hb)
    replace B := hid (below_up B.out hb)
    clear hN hn5 hb HPz
    have hLf := pLeft P.out
    obtain ⟨m, hm⟩ : ∃ m, l.length - EZ.length = m := ⟨_, rfl⟩
    have hsub : (l.length : Int) - (m : Int) = (EZ.length : Int) := by omega
    rw [hleft, hm] at hLf
    clear hm
    have HLf := hid hLf
    clear hLf hleft
    go_wp2_with (go_at_call 10; refine HLf.out.mono ?_; rintro e wn ⟨rfl, hwn⟩; subst wn; clear HLf)
    have hBE : Bytes w5 a EZ := by have := bytes_take (HL.out.bytes.later B.out) EZ.length; rwa [HTake.out] at this
    have hs6 := run_strL d hBE
    have HSX := hid hs5
    have ht5 := fun j => run_strL (w := w5.drewN j) d5 (hB5.same rfl)
    have ht6 := fun j => run_strL (w := w5.drewN j) d (hBE.same rfl)
    obtain ⟨gb, ob, rfl, _, _⟩ := hBE 0 hpos
    have hk0 : (0 : Int) < (EZ.length : Int) := by omega
    have hk1 : (EZ.length : Int) ≤ (l.length : Int) := by omega
    have hk2 : (EZ.length : Int) ≤ (d : Int) := by omega
    have hnum := num_any 0
    have HNum := hid hnum
    clear hnum HW4 HZI
    generalize strL EZ = SE at *
    clear hBE hB5 HSX
    go_quiet ((go_at_call 7; exact Calls.quiet_of_same (HNum.out _)))
    go_wp2_with fail
    go_ret
    exact ⟨rfl, below_drewN B.out _⟩
  · have hd : (E == 0) = false := by simpa using hE
    have hd2 : (E != 0) = true := by simpa using hE
    have hZ := HNz.out hE
    have HSm := hid fun w h => same14_yes ⟨Zn0, ⟨Ka, Ia, ba, sa⟩, ⟨Kb, Ib, bb, sb⟩, bl⟩ a3 none d3 0 w h (by rw [hZ]; intro j hj; simp [z0] at hj)
    have hZ2 := hZ
    unfold z0 v0 at hZ2
    simp only [Zn.mk.injEq, V.mk.injEq] at hZ2
    obtain ⟨rfl, ⟨rfl, rfl, rfl, rfl⟩, ⟨rfl, rfl, rfl, rfl⟩, rfl⟩ := hZ2
    unfold zv at HSm
    dsimp only [List.length_nil] at *
    go_wp2_with (go_at_call 7; refine (num_any _ _).mono ?_; rintro e wn ⟨rfl, hwn⟩; subst wn)
    rw [HW4.out]
    refine (HSm.out _ O.out.nums).mono ?_
    rintro e w5 ⟨rfl, hb⟩
    replace B := hid (below_up B.out hb)
    clear hb
    go_wp2_with fail
    go_ret
    exact ⟨rfl, B.out⟩
end Go.Proofs.Ytkkfhldhgjgneaa
