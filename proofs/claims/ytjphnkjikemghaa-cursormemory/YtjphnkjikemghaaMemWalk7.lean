/-
  The walk of CursorMemory. (Written by mkmem7.py.)
-/
import Derived.Test.YtjphnkjikemghaaUMemM
import Derived.Test.YtjphnkjikemghaaTwiceWalk
import Derived.Test.YtjphnkjikemghaaHeldWalk
import Derived.Test.YtjphnkjikemghaaPAwakeM
import Derived.Test.YtjphnkjikemghaaPLong
import Derived.Deep.RegionHeld3
namespace Go.Proofs.Ytjphnkjikemghaa
open Go.ChangeShapes Go.WideShapes Go.ChangeAt Go.RowKit Cu

theorem putL_small {l p : List Nat} {V : Nat} {S : Int} {T : List ByteArray} (h1 : l.length ≤ 1048576) (h2 : p.length ≤ 1048576) (_h3 : T.length ≤ 11534336) (h4 : (encBs (T.map bs)).length ≤ 11534336) : ∀ L ∈ putL l V S p T, L.length ≤ 1099511627776 := by
  intro L hL
  unfold putL at hL
  have u1 := uv_le V
  have u2 := uv_le (fold S)
  have u3 := uv_le p.length
  have u4 := uv_le (T.map bs).length
  simp only [List.mem_cons, List.not_mem_nil, or_false] at hL
  rcases hL with rfl | rfl | rfl | rfl | rfl | rfl | rfl | rfl | rfl <;> simp only [List.length_append, fx_len, encB, encT] <;> omega
theorem putL_len (l : List Nat) (V : Nat) (S : Int) (p : List Nat) (T : List ByteArray) : (putL l V S p T).length = 9 := rfl
set_option maxRecDepth 8000 in
set_option maxHeartbeats 16000000 in
theorem walk_cursorMemory (W : World) (xb xp xt : Option Addr) (cb cp ct V : Nat) (S : Int) (lb lp : List Nat) (T : List ByteArray) (hb : BCell W xb cb lb) (hp : BCell W xp cp lp) (ht : TCell W xt ct T) (hV : V < 18446744073709551616) (hS : In64 S) (hbl : lb.length ≤ 1048576) (hpl : lp.length ≤ 1048576) (hTl : T.length ≤ 11534336) (hTe : (encBs (T.map bs)).length ≤ 11534336)
    (yb yp yt : Option Addr) (eb ep et Y : Nat) (R : Int) (mb mp : List Nat) (U : List ByteArray) (jb : BCell W yb eb mb) (jp : BCell W yp ep mp) (jt : TCell W yt et U) (hY : Y < 18446744073709551616) (hR : In64 R) (jbl : mb.length ≤ 1048576) (jpl : mp.length ≤ 1048576) (jTl : U.length ≤ 11534336) (jTe : (encBs (U.map bs)).length ≤ 11534336) :
    Calls Try.prog 3 #[.agg #[.slice xb lb.length cb, .int .u64 (V : Int), .int .i64 S, .slice xp lp.length cp, .slice xt T.length ct], .agg #[.slice yb mb.length eb, .int .u64 (Y : Int), .int .i64 R, .slice yp mp.length ep, .slice yt U.length et]] W fun e w' => e = .returned (.bool true) ∧ Below W.heap.size W w' := by
  have k0 := below_new W (.cells #[.slice xb lb.length cb, .int .u64 (V : Int), .int .i64 S, .slice xp lp.length cp, .slice xt T.length ct] tPuts)
  have k1 := below_up k0 (below_new (W.alloc (.cells #[.slice xb lb.length cb, .int .u64 (V : Int), .int .i64 S, .slice xp lp.length cp, .slice xt T.length ct] tPuts)) (.cells #[.slice yb mb.length eb, .int .u64 (Y : Int), .int .i64 R, .slice yp mp.length ep, .slice yt U.length et] tPuts))
  have hx : ((W.alloc (.cells #[.slice xb lb.length cb, .int .u64 (V : Int), .int .i64 S, .slice xp lp.length cp, .slice xt T.length ct] tPuts)).alloc (.cells #[.slice yb mb.length eb, .int .u64 (Y : Int), .int .i64 R, .slice yp mp.length ep, .slice yt U.length et] tPuts)).heap[W.heap.size]? = some (.cells #[.slice xb lb.length cb, .int .u64 (V : Int), .int .i64 S, .slice xp lp.length cp, .slice xt T.length ct] tPuts (0, 0)) := by
    rw [(below_new (W.alloc (.cells #[.slice xb lb.length cb, .int .u64 (V : Int), .int .i64 S, .slice xp lp.length cp, .slice xt T.length ct] tPuts)) (.cells #[.slice yb mb.length eb, .int .u64 (Y : Int), .int .i64 R, .slice yp mp.length ep, .slice yt U.length et] tPuts)).block _ (by simp)]
    exact heap_alloc_new W _
  have hz : ((W.alloc (.cells #[.slice xb lb.length cb, .int .u64 (V : Int), .int .i64 S, .slice xp lp.length cp, .slice xt T.length ct] tPuts)).alloc (.cells #[.slice yb mb.length eb, .int .u64 (Y : Int), .int .i64 R, .slice yp mp.length ep, .slice yt U.length et] tPuts)).heap[W.heap.size + 1]? = some (.cells #[.slice yb mb.length eb, .int .u64 (Y : Int), .int .i64 R, .slice yp mp.length ep, .slice yt U.length et] tPuts (0, 0)) := by
    have := heap_alloc_new (W.alloc (.cells #[.slice xb lb.length cb, .int .u64 (V : Int), .int .i64 S, .slice xp lp.length cp, .slice xt T.length ct] tPuts)) (.cells #[.slice yb mb.length eb, .int .u64 (Y : Int), .int .i64 R, .slice yp mp.length ep, .slice yt U.length et] tPuts)
    rwa [World.size_alloc] at this
  obtain ⟨w0, hw0⟩ : ∃ w0, (W.alloc (.cells #[.slice xb lb.length cb, .int .u64 (V : Int), .int .i64 S, .slice xp lp.length cp, .slice xt T.length ct] tPuts)).alloc (.cells #[.slice yb mb.length eb, .int .u64 (Y : Int), .int .i64 R, .slice yp mp.length ep, .slice yt U.length et] tPuts) = w0 := ⟨_, rfl⟩
  rw [hw0] at k1 hx hz
  have HK := hid k1
  obtain ⟨gx, hgx⟩ : ∃ gx, W.heap.size = gx := ⟨_, rfl⟩
  obtain ⟨gz, hgz⟩ : ∃ gz, W.heap.size + 1 = gz := ⟨_, rfl⟩
  rw [hgx] at hx
  rw [hgz] at hz
  have HC : Hid (∀ v, Below w0.heap.size w0 v → (v.cell? ⟨gx, 0, none⟩ = some (.slice xb lb.length cb) ∧ v.cell? ⟨gx, 1, none⟩ = some (.int .u64 (V : Int)) ∧ v.cell? ⟨gx, 2, none⟩ = some (.int .i64 S) ∧ v.cell? ⟨gx, 3, none⟩ = some (.slice xp lp.length cp) ∧ v.cell? ⟨gx, 4, none⟩ = some (.slice xt T.length ct)) ∧ (v.cell? ⟨gz, 0, none⟩ = some (.slice yb mb.length eb) ∧ v.cell? ⟨gz, 1, none⟩ = some (.int .u64 (Y : Int)) ∧ v.cell? ⟨gz, 2, none⟩ = some (.int .i64 R) ∧ v.cell? ⟨gz, 3, none⟩ = some (.slice yp mp.length ep) ∧ v.cell? ⟨gz, 4, none⟩ = some (.slice yt U.length et))) := fun v h => by
    have h1 := (h.block gx (Array.getElem?_eq_some_iff.1 hx).1).trans hx
    have h2 := (h.block gz (Array.getElem?_eq_some_iff.1 hz).1).trans hz
    refine ⟨⟨?_, ?_, ?_, ?_, ?_⟩, ?_, ?_, ?_, ?_, ?_⟩ <;> first | (rw [cell_of_row _ _ _ _ _ _ h1]; rfl) | (rw [cell_of_row _ _ _ _ _ _ h2]; rfl)
  have HA : Hid (∀ v, Below w0.heap.size w0 v → BCell v xb cb lb ∧ BCell v xp cp lp ∧ TCell v xt ct T ∧ BCell v yb eb mb ∧ BCell v yp ep mp ∧ TCell v yt et U) := fun v h => by
    have h1 := below_up k1 h
    exact ⟨hb.later h1, hp.later h1, ht.later h1, jb.later h1, jp.later h1, jt.later h1⟩
  have HPX := hid (fun v (h : Below w0.heap.size w0 v) => putsOf_own xb xp xt lb lp T cb cp ct xb xp xt lb.length cb lp.length cp T.length ct V S v (HA.out v h).1.bytes hb.nil (HA.out v h).2.1.bytes hp.nil (HA.out v h).2.2.1.strs hV hS (by omega) (by omega) (by omega) (by omega))
  have HPZ := hid (fun v (h : Below w0.heap.size w0 v) => putsOf_own yb yp yt mb mp U eb ep et yb yp yt mb.length eb mp.length ep U.length et Y R v (HA.out v h).2.2.2.1.bytes jb.nil (HA.out v h).2.2.2.2.1.bytes jp.nil (HA.out v h).2.2.2.2.2.strs hY hR (by omega) (by omega) (by omega) (by omega))
  have HN : Hid ((xb = none → lb.length = 0 ∧ cb = 0) ∧ (xp = none → lp.length = 0 ∧ cp = 0) ∧ (xt = none → T.length = 0 ∧ ct = 0) ∧ (yb = none → mb.length = 0 ∧ eb = 0) ∧ (yp = none → mp.length = 0 ∧ ep = 0)) := ⟨hb.nil, hp.nil, ht.nil, jb.nil, jp.nil⟩
  have HLT : Hid ((∀ x ∈ lp, x < 256) ∧ (∀ x ∈ mp, x < 256)) := ⟨hp.lt, jp.lt⟩
  have HLX : Hid (∀ L ∈ putL lb V S lp T, L.length ≤ 1099511627776) := putL_small hbl hpl hTl hTe
  have HLZ : Hid (∀ L ∈ putL mb Y R mp U, L.length ≤ 1099511627776) := putL_small jbl jpl jTl jTe
  have HTW := hid (fun v (h : Below w0.heap.size w0 v) => twice_any xb xp xt cb lp.length cp T.length ct V S lb v (HA.out v h).1 hV hbl)
  have HHL := hid (fun v (h : Below w0.heap.size w0 v) => held_any xp yp lp mp cp ep v (HA.out v h).2.1.bytes hp.nil (HA.out v h).2.2.2.2.1.bytes jp.nil hp.lt jp.lt hpl jpl)
  have HAW := hid (awake_any w0)
  have HW0 := hid hw0
  have hwW : W.heap.size ≤ w0.heap.size := k1.size
  have HGX := hid hgx
  have HGZ := hid hgz
  clear hb hp ht jb jp jt k0 k1 hx hz hgx hgz hw0 hV hS hY hR
  obtain ⟨PX, hPX⟩ : ∃ PX, putL lb V S lp T = PX := ⟨_, rfl⟩
  obtain ⟨PZ, hPZ⟩ : ∃ PZ, putL mb Y R mp U = PZ := ⟨_, rfl⟩
  have HX9 : Hid (PX.length = 9) := by rw [← hPX]; rfl
  have HZ9 : Hid (PZ.length = 9) := by rw [← hPZ]; rfl
  rw [hPX] at HPX HLX
  rw [hPZ] at HPZ HLZ
  clear hPX hPZ
  go_enter Try.func3, Try.ntmps3
  go_wp2_with fail
  rw [HW0.out, HGZ.out, HGX.out]
  clear HW0 HGZ HGX
  refine HAW.out.mono ?_
  rintro e w1 ⟨rfl, hb⟩
  have HB := hid hb
  have HBs : Hid (w0.heap.size ≤ w1.heap.size) := hb.size
  clear hb HAW
  have HQ0 := hid (rows_any (some ⟨w1.heap.size, 0, none⟩) [lb, lp, mb, mp] 4 (w1.alloc (.cells #[.slice xb lb.length cb, .slice xp lp.length cp, .slice yb mb.length eb, .slice yp mp.length ep] 22)) (four_rws ⟨xb, cb, rfl, (HA.out w1 HB.out).1.bytes⟩ ⟨xp, cp, rfl, (HA.out w1 HB.out).2.1.bytes⟩ ⟨yb, eb, rfl, (HA.out w1 HB.out).2.2.2.1.bytes⟩ ⟨yp, ep, rfl, (HA.out w1 HB.out).2.2.2.2.1.bytes⟩) (by simp) (fun L hL => by simp only [List.mem_cons, List.not_mem_nil, or_false] at hL; rcases hL with rfl | rfl | rfl | rfl <;> omega) (four_nil HN.out.1 HN.out.2.1 HN.out.2.2.2.1 HN.out.2.2.2.2))
  obtain ⟨⟨x0, x1, x2, x3, x4⟩, z0, z1, z2, z3, z4⟩ := HC.out w1 HB.out
  go_wp2_with fail
  clear x0 x1 x2 x3 x4 z0 z1 z2 z3 z4
  refine HQ0.out.mono ?_
  rintro e w2 ⟨vk, vks, rfl, hk1, hk2, hb⟩
  have HKk := hid (KW.of hk1 hk2)
  have b1 := below_up (below_new w1 (.cells #[.slice xb lb.length cb, .slice xp lp.length cp, .slice yb mb.length eb, .slice yp mp.length ep] 22)) hb
  replace HB := hid (below_up HB.out b1)
  obtain ⟨ak, ck, hvk, -⟩ := HKk.out.rws
  have hvk' : vk = .slice ak 4 ck := hvk
  subst hvk'
  obtain ⟨klo, hklo⟩ : ∃ klo, (w1.alloc (.cells #[.slice xb lb.length cb, .slice xp lp.length cp, .slice yb mb.length eb, .slice yp mp.length ep] 22)).heap.size = klo := ⟨_, rfl⟩
  rw [hklo] at HKk
  have HKL : Hid (w0.heap.size ≤ klo ∧ klo ≤ w2.heap.size) := ⟨by rw [← hklo, World.size_alloc]; have := HB.out.size; have h3 := HBs.out; omega, by rw [← hklo]; exact hb.size⟩
  obtain ⟨lo1, hlo1⟩ : ∃ lo1, w2.heap.size = lo1 := ⟨_, rfl⟩
  rw [hlo1] at HKk HKL
  clear hk1 hk2 hb b1 HQ0 hvk hklo
  have HQ0 := hid (HPX.out w2 HB.out)
  obtain ⟨⟨x0, x1, x2, x3, x4⟩, z0, z1, z2, z3, z4⟩ := HC.out w2 HB.out
  go_wp2_with fail
  clear x0 x1 x2 x3 x4 z0 z1 z2 z3 z4
  refine HQ0.out.mono ?_
  rintro e w3 ⟨g1, vs1, rfl, hh, hl, f, -, r, hb⟩
  rw [hlo1] at f hl
  have F := hid f
  have G1 := hid hh
  have R1 := hid r
  have hg1 : lo1 ≤ g1 := hl
  have HD1 : Hid (∀ v ∈ vs1, ∀ g, v.ownBlock = some g → lo1 ≤ g ∧ g < w3.heap.size) := fun v hv g hg => by
    obtain ⟨i, hi⟩ := List.getElem?_of_mem hv
    exact f.lt hi hg
  have HV1 : Hid (vs1.length = 9) := f.len.trans HX9.out
  have hg1w : g1 < w3.heap.size := (Array.getElem?_eq_some_iff.1 hh).1
  replace HB := hid (below_up HB.out hb)
  replace HKk := hid (HKk.out.later hb)
  clear hh hl f r hb HQ0
  have HQ0 := hid (rows_any (some ⟨g1, 0, none⟩) PX 9 w3 R1.out (by rw [HX9.out]; omega) HLX.out (fam_nil F.out G1.out))
  rw [HX9.out] at HQ0
  go_wp2_with fail
  refine HQ0.out.mono ?_
  rintro e w4 ⟨vw, vws, rfl, hk1, hk2, hb⟩
  have HKw := hid (KW.of (by rw [HX9.out]; exact hk1) hk2)
  replace HB := hid (below_up HB.out hb)
  replace HKk := hid (HKk.out.later hb)
  replace F := hid (F.out.later hb)
  replace G1 := hid ((hb.block g1 hg1w).trans G1.out)
  replace R1 := hid (rws_on R1.out hb)
  obtain ⟨aw, cw, hvw, -⟩ := HKw.out.rws
  rw [HX9.out] at hvw
  subst hvw
  obtain ⟨wlo, hwlo⟩ : ∃ wlo, w3.heap.size = wlo := ⟨_, rfl⟩
  obtain ⟨whi, hwhi⟩ : ∃ whi, w4.heap.size = whi := ⟨_, rfl⟩
  rw [hwlo, hwhi] at HKw
  rw [hwlo] at HD1 hg1w
  have hlw : lo1 ≤ w4.heap.size := by have := hb.size; omega
  have hwlo2 : lo1 ≤ wlo ∧ wlo ≤ whi := by have := hb.size; omega
  clear hk1 hk2 hb HQ0 hwlo
  have HW4 : Hid (whi ≤ w4.heap.size) := by show _ ≤ _; omega
  clear hwhi hlo1
  have HQ0 := hid (HPX.out w4 HB.out)
  obtain ⟨⟨x0, x1, x2, x3, x4⟩, z0, z1, z2, z3, z4⟩ := HC.out w4 HB.out
  go_wp2_with fail
  clear x0 x1 x2 x3 x4 z0 z1 z2 z3 z4
  refine HQ0.out.mono ?_
  rintro e w5 ⟨g2, vs2, rfl, hh, hl, f, -, r, hb⟩
  have HV29 : Hid (vs2.length = 9) := f.len.trans HX9.out
  have HD2 : Hid (∀ v ∈ vs2, ∀ q, v.ownBlock = some q → whi ≤ q) := fun v hv q hq => by
    obtain ⟨i, hi⟩ := List.getElem?_of_mem hv
    have := (f.lt hi hq).1
    have h4 := HW4.out
    omega
  replace F := hid (F.out.join hb f hlw)
  have G2 := hid hh
  have hg2 : whi ≤ g2 := by have h4 := HW4.out; omega
  have R2 := hid r
  replace HB := hid (below_up HB.out hb)
  replace HKk := hid (HKk.out.later hb)
  replace HKw := hid (HKw.out.later hb)
  replace G1 := hid ((hb.block g1 (Array.getElem?_eq_some_iff.1 G1.out).1).trans G1.out)
  replace R1 := hid (rws_on R1.out hb)
  replace hlw : lo1 ≤ w5.heap.size := Nat.le_trans hlw hb.size
  replace HW4 : Hid (whi ≤ w5.heap.size) := Nat.le_trans HW4.out hb.size
  clear hh hl f r hb HQ0
  have HQ0 := hid (HPZ.out w5 HB.out)
  obtain ⟨⟨x0, x1, x2, x3, x4⟩, z0, z1, z2, z3, z4⟩ := HC.out w5 HB.out
  go_wp2_with fail
  clear x0 x1 x2 x3 x4 z0 z1 z2 z3 z4
  refine HQ0.out.mono ?_
  rintro e w6 ⟨gq, vsq, rfl, hh, hl, f, -, r, hb⟩
  have HVq9 : Hid (vsq.length = 9) := f.len.trans HZ9.out
  have HDq : Hid (∀ v ∈ vsq, ∀ q, v.ownBlock = some q → whi ≤ q) := fun v hv q hq => by
    obtain ⟨i, hi⟩ := List.getElem?_of_mem hv
    have := (f.lt hi hq).1
    have h4 := HW4.out
    omega
  replace F := hid (F.out.join hb f hlw)
  have Gq := hid hh
  have hgq : whi ≤ gq := by have h4 := HW4.out; omega
  have Rq := hid r
  replace HB := hid (below_up HB.out hb)
  replace HKk := hid (HKk.out.later hb)
  replace HKw := hid (HKw.out.later hb)
  replace G1 := hid ((hb.block g1 (Array.getElem?_eq_some_iff.1 G1.out).1).trans G1.out)
  replace R1 := hid (rws_on R1.out hb)
  replace G2 := hid ((hb.block g2 (Array.getElem?_eq_some_iff.1 G2.out).1).trans G2.out)
  replace R2 := hid (rws_on R2.out hb)
  replace hlw : lo1 ≤ w6.heap.size := Nat.le_trans hlw hb.size
  replace HW4 : Hid (whi ≤ w6.heap.size) := Nat.le_trans HW4.out hb.size
  clear hh hl f r hb HQ0
  have HQ0 := hid (HPX.out w6 HB.out)
  obtain ⟨⟨x0, x1, x2, x3, x4⟩, z0, z1, z2, z3, z4⟩ := HC.out w6 HB.out
  go_wp2_with fail
  clear x0 x1 x2 x3 x4 z0 z1 z2 z3 z4
  refine HQ0.out.mono ?_
  rintro e w7 ⟨g3, vs3, rfl, hh, hl, f, -, r, hb⟩
  have HV39 : Hid (vs3.length = 9) := f.len.trans HX9.out
  have HD3 : Hid (∀ v ∈ vs3, ∀ q, v.ownBlock = some q → whi ≤ q) := fun v hv q hq => by
    obtain ⟨i, hi⟩ := List.getElem?_of_mem hv
    have := (f.lt hi hq).1
    have h4 := HW4.out
    omega
  replace F := hid (F.out.join hb f hlw)
  have G3 := hid hh
  have hg3 : whi ≤ g3 := by have h4 := HW4.out; omega
  have R3 := hid r
  replace HB := hid (below_up HB.out hb)
  replace HKk := hid (HKk.out.later hb)
  replace HKw := hid (HKw.out.later hb)
  replace G1 := hid ((hb.block g1 (Array.getElem?_eq_some_iff.1 G1.out).1).trans G1.out)
  replace R1 := hid (rws_on R1.out hb)
  replace G2 := hid ((hb.block g2 (Array.getElem?_eq_some_iff.1 G2.out).1).trans G2.out)
  replace R2 := hid (rws_on R2.out hb)
  replace Gq := hid ((hb.block gq (Array.getElem?_eq_some_iff.1 Gq.out).1).trans Gq.out)
  replace Rq := hid (rws_on Rq.out hb)
  replace hlw : lo1 ≤ w7.heap.size := Nat.le_trans hlw hb.size
  replace HW4 : Hid (whi ≤ w7.heap.size) := Nat.le_trans HW4.out hb.size
  clear hh hl f r hb HQ0
  obtain ⟨a', c', hv, hr⟩ := HKw.out.rws
  rw [HX9.out] at hv
  cases hv
  have HQ0 := hid (same_any (some ⟨g1, 0, none⟩) aw PX 9 cw w7 R1.out hr (by rw [HX9.out]; omega))
  rw [HX9.out] at HQ0
  clear hr
  go_wp2_with fail
  refine HQ0.out.mono ?_
  rintro e w8 ⟨rfl, jq, hq⟩
  have hb : Below w7.heap.size w7 w8 := by rw [hq]; exact below_drewN (Below.refl _ _) _
  clear hq HQ0
  replace HB := hid (below_up HB.out hb)
  replace HKk := hid (HKk.out.later hb)
  replace HKw := hid (HKw.out.later hb)
  replace F := hid (F.out.later hb)
  replace hlw : lo1 ≤ w8.heap.size := Nat.le_trans hlw hb.size
  replace HW4 : Hid (whi ≤ w8.heap.size) := Nat.le_trans HW4.out hb.size
  replace G1 := hid ((hb.block g1 (Array.getElem?_eq_some_iff.1 G1.out).1).trans G1.out)
  replace R1 := hid (rws_on R1.out hb)
  replace G2 := hid ((hb.block g2 (Array.getElem?_eq_some_iff.1 G2.out).1).trans G2.out)
  replace R2 := hid (rws_on R2.out hb)
  replace Gq := hid ((hb.block gq (Array.getElem?_eq_some_iff.1 Gq.out).1).trans Gq.out)
  replace Rq := hid (rws_on Rq.out hb)
  replace G3 := hid ((hb.block g3 (Array.getElem?_eq_some_iff.1 G3.out).1).trans G3.out)
  replace R3 := hid (rws_on R3.out hb)
  clear hb
  obtain ⟨a', c', hv, hr⟩ := HKw.out.rws
  rw [HX9.out] at hv
  cases hv
  have HQ0 := hid (same_any (some ⟨g2, 0, none⟩) aw PX 9 cw w8 R2.out hr (by rw [HX9.out]; omega))
  rw [HX9.out] at HQ0
  clear hr
  go_wp2_with fail
  refine HQ0.out.mono ?_
  rintro e w9 ⟨rfl, jq, hq⟩
  have hb : Below w8.heap.size w8 w9 := by rw [hq]; exact below_drewN (Below.refl _ _) _
  clear hq HQ0
  replace HB := hid (below_up HB.out hb)
  replace HKk := hid (HKk.out.later hb)
  replace HKw := hid (HKw.out.later hb)
  replace F := hid (F.out.later hb)
  replace hlw : lo1 ≤ w9.heap.size := Nat.le_trans hlw hb.size
  replace HW4 : Hid (whi ≤ w9.heap.size) := Nat.le_trans HW4.out hb.size
  replace G1 := hid ((hb.block g1 (Array.getElem?_eq_some_iff.1 G1.out).1).trans G1.out)
  replace R1 := hid (rws_on R1.out hb)
  replace G2 := hid ((hb.block g2 (Array.getElem?_eq_some_iff.1 G2.out).1).trans G2.out)
  replace R2 := hid (rws_on R2.out hb)
  replace Gq := hid ((hb.block gq (Array.getElem?_eq_some_iff.1 Gq.out).1).trans Gq.out)
  replace Rq := hid (rws_on Rq.out hb)
  replace G3 := hid ((hb.block g3 (Array.getElem?_eq_some_iff.1 G3.out).1).trans G3.out)
  replace R3 := hid (rws_on R3.out hb)
  clear hb
  obtain ⟨a', c', hv, hr⟩ := HKw.out.rws
  rw [HX9.out] at hv
  cases hv
  have HQ0 := hid (same_any (some ⟨g3, 0, none⟩) aw PX 9 cw w9 R3.out hr (by rw [HX9.out]; omega))
  rw [HX9.out] at HQ0
  clear hr
  go_wp2_with fail
  refine HQ0.out.mono ?_
  rintro e wa ⟨rfl, jq, hq⟩
  have hb : Below w9.heap.size w9 wa := by rw [hq]; exact below_drewN (Below.refl _ _) _
  clear hq HQ0
  replace HB := hid (below_up HB.out hb)
  replace HKk := hid (HKk.out.later hb)
  replace HKw := hid (HKw.out.later hb)
  replace F := hid (F.out.later hb)
  replace hlw : lo1 ≤ wa.heap.size := Nat.le_trans hlw hb.size
  replace HW4 : Hid (whi ≤ wa.heap.size) := Nat.le_trans HW4.out hb.size
  replace G1 := hid ((hb.block g1 (Array.getElem?_eq_some_iff.1 G1.out).1).trans G1.out)
  replace R1 := hid (rws_on R1.out hb)
  replace G2 := hid ((hb.block g2 (Array.getElem?_eq_some_iff.1 G2.out).1).trans G2.out)
  replace R2 := hid (rws_on R2.out hb)
  replace Gq := hid ((hb.block gq (Array.getElem?_eq_some_iff.1 Gq.out).1).trans Gq.out)
  replace Rq := hid (rws_on Rq.out hb)
  replace G3 := hid ((hb.block g3 (Array.getElem?_eq_some_iff.1 G3.out).1).trans G3.out)
  replace R3 := hid (rws_on R3.out hb)
  clear hb
  have hw0l : w0.heap.size ≤ lo1 := by have h3 := HKL.out; omega
  have hG2 := (Array.getElem?_eq_some_iff.1 G2.out).1
  have hGq := (Array.getElem?_eq_some_iff.1 Gq.out).1
  have hG3 := (Array.getElem?_eq_some_iff.1 G3.out).1
  have hone := fam_one F.out
  have h4 := HW4.out
  obtain ⟨va, wA, e1, rA, gr1, ba⟩ := run_manyR (c := 9) (row_new (B := w0.heap.size) G1.out (by omega) (by rw [HV1.out]; omega)) G2.out (fun u hu => hone u (by simp [hu])) (by rw [HV1.out, HV29.out]; omega) (by omega)
  have gr1' : wa.grownBy wA (some g1) := gr1
  have ba' : va.ownBlock = some g1 ∨ va.ownBlock = some wa.heap.size := ba
  have F1 := F.out.grown (row_new (B := w0.heap.size) G1.out (by omega) (by rw [HV1.out]; omega)) gr1
  have sz1 := gr1.size
  have Gq1 := block_grown Gq.out gr1' (by intro e; injection e; omega)
  have G31 := block_grown G3.out gr1' (by intro e; injection e; omega)
  have KK1 := HKk.out.grown gr1' (fun q e => by injection e; omega)
  have KW1 := HKw.out.grown gr1' (fun q e => by injection e; omega)
  have B1 := HB.out.grown gr1' (by omega) (fun q e => by injection e; omega)
  obtain ⟨vb, wB, e2, rB, gr2, bb⟩ := run_manyR (c := 9) rA Gq1 (fun u hu => hone u (by simp [hu])) (by rw [List.length_append, HV1.out, HV29.out, HVq9.out]; omega) (by omega)
  have F2 := F1.grown rA gr2
  have sz2 := gr2.size
  have G32 := block_grown G31 gr2 (by rcases ba' with h | h <;> rw [h] <;> (intro e; injection e; omega))
  have KK2 := KK1.grown gr2 (fun q e => by rcases ba' with h | h <;> rw [h] at e <;> injection e <;> omega)
  have KW2 := KW1.grown gr2 (fun q e => by rcases ba' with h | h <;> rw [h] at e <;> injection e <;> omega)
  have B2 := B1.grown gr2 (by omega) (fun q e => by rcases ba' with h | h <;> rw [h] at e <;> injection e <;> omega)
  have bb' : vb.ownBlock = some g1 ∨ vb.ownBlock = some wa.heap.size ∨ vb.ownBlock = some wA.heap.size := by
    rcases bb with h | h
    · rcases ba' with h2 | h2
      · exact .inl (h.trans h2)
      · exact .inr (.inl (h.trans h2))
    · exact .inr (.inr h)
  obtain ⟨vc, wC, e3, rC, gr3, bc⟩ := run_manyR (c := 9) rB G32 (fun u hu => hone u (by simp [hu])) (by rw [List.length_append, List.length_append, HV1.out, HV29.out, HVq9.out, HV39.out]; omega) (by omega)
  have F3 := F2.grown rB gr3
  have KK3 := KK2.grown gr3 (fun q e => by rcases bb' with h | h | h <;> rw [h] at e <;> injection e <;> omega)
  have KW3 := KW2.grown gr3 (fun q e => by rcases bb' with h | h | h <;> rw [h] at e <;> injection e <;> omega)
  have B3 := B2.grown gr3 (by omega) (fun q e => by rcases bb' with h | h | h <;> rw [h] at e <;> injection e <;> omega)
  have sz3 := gr3.size
  rw [HV1.out, HV29.out] at e1
  rw [HVq9.out] at e2
  rw [HV39.out] at e3
  have hlen : (vs1 ++ vs2 ++ vsq ++ vs3).length = 36 := by simp [HV1.out, HV29.out, HVq9.out, HV39.out]
  have rC' : wC.ownsRow w0.heap.size 22 1 vc 36 (vs1 ++ vs2 ++ vsq ++ vs3) := by rw [← hlen]; exact rC
  obtain ⟨ac, cc, hvc, -, hcl⟩ := row_formB rC'
  subst hvc
  obtain ⟨gc, hgc, -⟩ := hcl 0 _ (List.getElem?_eq_getElem (by omega))
  subst hgc
  have hgcw : gc < wC.heap.size := (World.ownsRow.lt rC' gc rfl).2
  have HAP := hid (apart_fam gc cc lo1 (vs1 ++ vs2 ++ vsq ++ vs3) (PX ++ PX ++ PZ ++ PX) wC F3 (by omega) (fun L hL => by simp only [List.mem_append] at hL; rcases hL with ((h | h) | h) | h <;> first | exact HLX.out L h | exact HLZ.out L h) (fun i v hi => by obtain ⟨g', e', hc⟩ := hcl i v hi; cases e'; exact hc) hgcw (fun i v hi e => by
    obtain ⟨L, hL, ho⟩ := F3.get hi
    rcases rows_apart ho rC' (by decide) with h | h
    · rw [h] at e; cases e
    · exact h e))
  rw [hlen] at HAP
  have HDD : Hid (∀ j, (∃ (i : Nat) (v : Value), (vs1 ++ vs2 ++ vsq ++ vs3)[i]? = some v ∧ v.ownBlock = some j) → lo1 ≤ j ∧ (j < wlo ∨ whi ≤ j)) := fun j ⟨i, v, hi, hj⟩ => by
    refine ⟨(F3.lt hi hj).1, ?_⟩
    have hm := List.mem_of_getElem? hi
    simp only [List.mem_append] at hm
    rcases hm with ((h | h) | h) | h
    · exact .inl (HD1.out v h j hj).2
    · exact .inr (HD2.out v h j hj)
    · exact .inr (HDq.out v h j hj)
    · exact .inr (HD3.out v h j hj)
  have E1 := hid e1
  have E2 := hid e2
  have E3 := hid e3
  have HSZ : Hid (lo1 ≤ wC.heap.size) := by show _ ≤ _; omega
  replace HKk := hid KK3
  replace HKw := hid KW3
  replace HB := hid B3
  clear e1 e2 e3 rA rB rC rC' gr1 gr1' gr2 gr3 ba ba' bb bb' bc F1 F2 F3 sz1 sz2 sz3 Gq1 G31 G32 KK1 KK2 KK3 KW1 KW2 KW3 B1 B2 B3 hone hcl hlen h4 hG2 hGq hG3 hgcw
  clear F G1 G2 Gq G3 R1 R2 Rq R3 HD1 HD2 HDq HD3 HV1 HV29 HVq9 HV39
  go_wp2_with (at_builtin; first | refine wpList_app (by rfl) (by rfl) E1.out ?_ | refine wpList_app (by rfl) (by rfl) E2.out ?_ | refine wpList_app (by rfl) (by rfl) E3.out ?_)
  clear E1 E2 E3
  refine HAP.out.mono ?_
  rintro e wd ⟨rfl, ht⟩
  replace HB := hid (HB.out.trans (ht.below (B := w0.heap.size) (by have := HSZ.out; omega) (fun j hj => by have := (HDD.out j hj).1; omega)))
  replace HKk := hid (HKk.out.touch ht (fun j h1 h2 hP => by have := (HDD.out j hP).1; omega))
  replace HKw := hid (HKw.out.touch ht (fun j h1 h2 hP => by have := (HDD.out j hP).2; omega))
  clear HAP HDD ht
  have b1 := below_new wd (.cells #[.slice xb lb.length cb, .slice xp lp.length cp, .slice yb mb.length eb, .slice yp mp.length ep] 22)
  obtain ⟨a', c', hv, hr⟩ := (HKk.out.later b1).rws
  have hv' : Value.slice ak 4 ck = .slice a' 4 c' := hv
  cases hv'
  have HQ0 := hid (same_any (some ⟨wd.heap.size, 0, none⟩) ak [lb, lp, mb, mp] 4 ck (wd.alloc (.cells #[.slice xb lb.length cb, .slice xp lp.length cp, .slice yb mb.length eb, .slice yp mp.length ep] 22)) (four_rws ⟨xb, cb, rfl, (HA.out wd HB.out).1.bytes⟩ ⟨xp, cp, rfl, (HA.out wd HB.out).2.1.bytes⟩ ⟨yb, eb, rfl, (HA.out wd HB.out).2.2.2.1.bytes⟩ ⟨yp, ep, rfl, (HA.out wd HB.out).2.2.2.2.1.bytes⟩) hr (by simp))
  clear hv hr
  obtain ⟨⟨x0, x1, x2, x3, x4⟩, z0, z1, z2, z3, z4⟩ := HC.out wd HB.out
  go_wp2_with fail
  clear x0 x1 x2 x3 x4 z0 z1 z2 z3 z4
  refine HQ0.out.mono ?_
  rintro e we ⟨rfl, jq, hq⟩
  have hb : Below wd.heap.size wd we := by rw [hq]; exact below_drewN b1 _
  replace HB := hid (below_up HB.out hb)
  replace HKk := hid (HKk.out.later hb)
  replace HKw := hid (HKw.out.later hb)
  clear hq HQ0 hb b1
  have HQ0 := hid (HPX.out we HB.out)
  obtain ⟨⟨x0, x1, x2, x3, x4⟩, z0, z1, z2, z3, z4⟩ := HC.out we HB.out
  go_wp2_with fail
  clear x0 x1 x2 x3 x4 z0 z1 z2 z3 z4
  refine HQ0.out.mono ?_
  rintro e wf ⟨g5, vs5, rfl, hh, hl, f, -, r, hb⟩
  replace HB := hid (below_up HB.out hb)
  replace HKk := hid (HKk.out.later hb)
  replace HKw := hid (HKw.out.later hb)
  obtain ⟨a', c', hv, hr⟩ := HKw.out.rws
  rw [HX9.out] at hv
  cases hv
  have HQ1 := hid (same_any (some ⟨g5, 0, none⟩) aw PX 9 cw wf r hr (by rw [HX9.out]; omega))
  rw [HX9.out] at HQ1
  clear hr hh hl f r hb HQ0
  go_wp2_with fail
  refine HQ1.out.mono ?_
  rintro e wg ⟨rfl, jq, hq⟩
  have hb : Below wf.heap.size wf wg := by rw [hq]; exact below_drewN (Below.refl _ _) _
  replace HB := hid (below_up HB.out hb)
  replace HKk := hid (HKk.out.later hb)
  clear hq HQ1 hb HKw HPX HPZ HLX HLZ
  have hq1 := uv_le lp.length
  have hq2 := uv_le mp.length
  have hq3 := uv_le (T.map bs).length
  obtain ⟨Q1, hQ1⟩ : ∃ Q1, encB lp = Q1 := ⟨_, rfl⟩
  obtain ⟨Q2, hQ2⟩ : ∃ Q2, Q1 ++ encB mp = Q2 := ⟨_, rfl⟩
  obtain ⟨Q3, hQ3⟩ : ∃ Q3, Q2 ++ encT (T.map bs) = Q3 := ⟨_, rfl⟩
  have hl1 : Q1.length ≤ 2000000 := by rw [← hQ1]; simp only [encB, List.length_append]; omega
  have hl2 : Q2.length ≤ 4000000 := by rw [← hQ2]; simp only [encB, List.length_append]; omega
  have hl3 : Q3.length ≤ 20000000 := by rw [← hQ3]; simp only [encT, List.length_append]; omega
  have HPB1 : Hid (∀ v, Below w0.heap.size w0 v → Calls Try.prog 10 #[.slice none 0 0, .slice xp lp.length cp] v fun e w' => ∃ v', e = .returned v' ∧ NewL v w' v' Q1) := fun v h => by
    have := pPutBlock none xp [] lp 0 cp v (fun j hj => by simp at hj) (HA.out v h).2.1.bytes (fun _ => ⟨rfl, rfl⟩) HN.out.2.1 (by simp only [List.length_nil]; omega)
    rw [List.nil_append, hQ1] at this
    exact this
  have HPB2 : Hid (∀ v b d, Below w0.heap.size w0 v → Bytes v b Q1 → (b = none → Q1.length = 0 ∧ d = 0) → Calls Try.prog 10 #[.slice b Q1.length d, .slice yp mp.length ep] v fun e w' => ∃ v', e = .returned v' ∧ NewL v w' v' Q2) := fun v b d h hB hn => by
    have := pPutBlock b yp Q1 mp d ep v hB (HA.out v h).2.2.2.2.1.bytes hn HN.out.2.2.2.2 (by omega)
    rw [hQ2] at this
    exact this
  have HPB3 : Hid (∀ v b d, Below w0.heap.size w0 v → Bytes v b Q2 → (b = none → Q2.length = 0 ∧ d = 0) → Calls Try.prog 9 #[.slice b Q2.length d, .slice xt T.length ct] v fun e w' => ∃ v', e = .returned v' ∧ NewL v w' v' Q3) := fun v b d h hB hn => by
    have := pPutTexts b xt Q2 T d ct v hB (HA.out v h).2.2.1.strs hn (by omega) (by omega)
    rw [hQ3] at this
    exact this
  have HTS : Hid (∀ s ∈ T, s.size ≤ 11534336) := fun s hs => by
    have h1 := encBs_mem (List.mem_map_of_mem (f := bs) hs)
    rw [bs_len] at h1
    omega
  have HLG := hid (lgT_top (n := T.length) HTS.out)
  obtain ⟨lg, hlg⟩ : ∃ lg, lgT T T.length = lg := ⟨_, rfl⟩
  obtain ⟨r1, ra, r2, r3, q1, q2, q3, q4, q5, q6⟩ := mem_reads lp mp T lg hpl jpl hTl HTS.out (fun s hs => by rw [← hlg]; obtain ⟨i, hi⟩ := List.getElem?_of_mem hs; exact lgT_le hi (List.getElem?_eq_some_iff.1 hi).1)
  rw [hQ1, hQ2, hQ3] at q1
  have HQ3 : Hid ((∀ x ∈ Q3, x < 256) ∧ r1.l.length ≤ 20000000 ∧ r2.l.length ≤ 20000000) := by
    refine ⟨?_, by rw [q6.1, hQ1, hQ2, hQ3]; exact hl3, by rw [q6.2, hQ1, hQ2, hQ3]; exact hl3⟩
    rw [← hQ3, ← hQ2, ← hQ1]
    exact mem_lt HLT.out.1 HLT.out.2 hpl jpl hTl HTS.out
  have HR1 := hid q1
  have HR2 := hid q2
  have HR3 := hid q3
  have HR4 := hid q4
  have HR5 := hid q5
  have hlg1 : (lg : Int) ≤ 11534336 := by have := HLG.out; omega
  have HLN := hid (fun v (h : Below w0.heap.size w0 v) => longest_any xt T ct v (HA.out v h).2.2.1.strs (by omega) (fun s hs => by have := HTS.out s hs; omega))
  rw [hlg] at HLN
  clear hQ1 hQ2 hQ3 q1 q2 q3 q4 q5 q6 hq1 hq2 hq3 hlg HLG
  have HCX : Hid (∀ v, Below wg.heap.size wg v → v.cell? ⟨gx, 3, none⟩ = some (.slice xp lp.length cp) ∧ v.cell? ⟨gz, 3, none⟩ = some (.slice yp mp.length ep) ∧ v.cell? ⟨gx, 4, none⟩ = some (.slice xt T.length ct) ∧ Below wg.heap.size wg v) := fun v h => by
    have hc := HC.out v (below_up HB.out h)
    exact ⟨hc.1.2.2.2.1, hc.2.2.2.2.1, hc.1.2.2.2.2, h⟩
  have v0 : Below wg.heap.size wg wg.drew := below_drewN (Below.refl _ wg) 1
  go_wp2_with fail
  refine wp_region_noPanic ?_
  refine wp_region_held_drew (S := fun v => v.cell? ⟨gx, 3, none⟩ = some (.slice xp lp.length cp) ∧ v.cell? ⟨gz, 3, none⟩ = some (.slice yp mp.length ep) ∧ v.cell? ⟨gx, 4, none⟩ = some (.slice xt T.length ct) ∧ Below wg.heap.size wg v) (by kernel_rfl) (HCX.out _ v0) (fun hHeld0 => ?_)
  refine wpAnyH_take (i := 0) (oi := { dst := some 121, op := Op.fieldAddr 26 (Operand.tmp 2) 3, type := 0, pos := "outright.go:313", after := #[], guard := none }) (v := ?_) rfl (by kernel_rfl) (by kernel_rfl) (by kernel_rfl) (fun _ _ _ h => h) (Or.inl ⟨by rfl, ?_⟩) (by assumption) ?_
  rotate_left
  · intro W hSw
    try dsimp only at hSw
    go_simp
    try with_reducible rfl
  try simp only [Act.put, List.setIfInBounds_toArray, List.set_cons_zero, List.set_cons_succ]
  refine wpAnyH_take (i := 1) (oi := { dst := some 122, op := Op.load 22 (Operand.tmp 121), type := 22, pos := "outright.go:313", after := #[{ on := 0, ground := Ground.data }], guard := none }) (v := ?_) rfl (by kernel_rfl) (by kernel_rfl) (by kernel_rfl) (fun _ _ _ h => h) (Or.inl ⟨by rfl, ?_⟩) (by assumption) ?_
  rotate_left
  · intro W hSw
    try dsimp only at hSw
    go_simp
    try with_reducible rfl
  try simp only [Act.put, List.setIfInBounds_toArray, List.set_cons_zero, List.set_cons_succ]
  refine wpAnyH_take (i := 3) (oi := { dst := some 124, op := Op.fieldAddr 26 (Operand.tmp 3) 3, type := 0, pos := "outright.go:313", after := #[], guard := none }) (v := ?_) rfl (by kernel_rfl) (by kernel_rfl) (by kernel_rfl) (fun _ _ _ h => h) (Or.inl ⟨by rfl, ?_⟩) (by assumption) ?_
  rotate_left
  · intro W hSw
    try dsimp only at hSw
    go_simp
    try with_reducible rfl
  try simp only [Act.put, List.setIfInBounds_toArray, List.set_cons_zero, List.set_cons_succ]
  refine wpAnyH_take (i := 4) (oi := { dst := some 125, op := Op.load 22 (Operand.tmp 124), type := 22, pos := "outright.go:313", after := #[{ on := 3, ground := Ground.data }], guard := none }) (v := ?_) rfl (by kernel_rfl) (by kernel_rfl) (by kernel_rfl) (fun _ _ _ h => h) (Or.inl ⟨by rfl, ?_⟩) (by assumption) ?_
  rotate_left
  · intro W hSw
    try dsimp only at hSw
    go_simp
    try with_reducible rfl
  try simp only [Act.put, List.setIfInBounds_toArray, List.set_cons_zero, List.set_cons_succ]
  refine wpAnyH_take (i := 6) (oi := { dst := some 127, op := Op.fieldAddr 26 (Operand.tmp 2) 4, type := 0, pos := "outright.go:313", after := #[], guard := none }) (v := ?_) rfl (by kernel_rfl) (by kernel_rfl) (by kernel_rfl) (fun _ _ _ h => h) (Or.inl ⟨by rfl, ?_⟩) (by assumption) ?_
  rotate_left
  · intro W hSw
    try dsimp only at hSw
    go_simp
    try with_reducible rfl
  try simp only [Act.put, List.setIfInBounds_toArray, List.set_cons_zero, List.set_cons_succ]
  refine wpAnyH_take (i := 7) (oi := { dst := some 128, op := Op.load 24 (Operand.tmp 127), type := 24, pos := "outright.go:313", after := #[{ on := 6, ground := Ground.data }], guard := none }) (v := ?_) rfl (by kernel_rfl) (by kernel_rfl) (by kernel_rfl) (fun _ _ _ h => h) (Or.inl ⟨by rfl, ?_⟩) (by assumption) ?_
  rotate_left
  · intro W hSw
    try dsimp only at hSw
    go_simp
    try with_reducible rfl
  try simp only [Act.put, List.setIfInBounds_toArray, List.set_cons_zero, List.set_cons_succ]
  refine wpAnyH_ready (rs := [2]) (by kernel_rfl) (by simp) ?_
  refine AllReadyH.cons (o := { dst := some 123, op := Op.call { callee := Callee.value (Operand.func 10), args := #[Operand.const (Value.slice none 0 0), Operand.tmp 122], argTypes := #[22, 22] }, type := 22, pos := "outright.go:313", after := #[{ on := 1, ground := Ground.data }], guard := none }) rfl (fun K hK => ?_) AllReadyH.nil
  rw [if_pos (by rfl)]
  go_simp
  refine (HPB1.out _ (below_up HB.out v0)).mono ?_
  rintro e s1 ⟨u1, rfl, h1⟩
  obtain ⟨b1, d1, rfl, n1, i1⟩ := h1.form
  have v1 : Below wg.heap.size wg s1 := below_up v0 h1.2
  refine hK.out _ _ (HCX.out _ v1) (fun hHeld1 => ?_)
  clear hK K hHeld0
  try simp only [Act.put, List.setIfInBounds_toArray, List.set_cons_zero, List.set_cons_succ]
  refine wpAnyH_ready (rs := [5]) (by kernel_rfl) (by simp) ?_
  refine AllReadyH.cons (o := { dst := some 126, op := Op.call { callee := Callee.value (Operand.func 10), args := #[Operand.tmp 123, Operand.tmp 125], argTypes := #[22, 22] }, type := 22, pos := "outright.go:313", after := #[{ on := 2, ground := Ground.data }, { on := 4, ground := Ground.data }, { on := 2, ground := Ground.chain }], guard := none }) rfl (fun K hK => ?_) AllReadyH.nil
  rw [if_pos (by rfl)]
  go_simp
  refine (HPB2.out _ b1 d1 (below_up HB.out v1) i1 n1).mono ?_
  rintro e s2 ⟨u2, rfl, h2⟩
  obtain ⟨b2, d2, rfl, n2, i2⟩ := h2.form
  have v2 : Below wg.heap.size wg s2 := below_up v1 h2.2
  refine hK.out _ _ (HCX.out _ v2) (fun hHeld2 => ?_)
  clear hK K hHeld1
  try simp only [Act.put, List.setIfInBounds_toArray, List.set_cons_zero, List.set_cons_succ]
  refine wpAnyH_ready (rs := [8]) (by kernel_rfl) (by simp) ?_
  refine AllReadyH.cons (o := { dst := some 129, op := Op.call { callee := Callee.value (Operand.func 9), args := #[Operand.tmp 126, Operand.tmp 128], argTypes := #[22, 24] }, type := 22, pos := "outright.go:313", after := #[{ on := 5, ground := Ground.data }, { on := 7, ground := Ground.data }, { on := 5, ground := Ground.chain }], guard := none }) rfl (fun K hK => ?_) AllReadyH.nil
  rw [if_pos (by rfl)]
  go_simp
  refine (HPB3.out _ b2 d2 (below_up HB.out v2) i2 n2).mono ?_
  rintro e wh ⟨u3, rfl, h3⟩
  obtain ⟨b3, d3, rfl, n3, i3⟩ := h3.form
  have v3 : Below wg.heap.size wg wh := below_up v2 h3.2
  refine hK.out _ _ (HCX.out _ v3) (fun hHeld3 => ?_)
  clear hK K hHeld2
  try simp only [Act.put, List.setIfInBounds_toArray, List.set_cons_zero, List.set_cons_succ]
  refine wpAnyH_take (i := 9) (oi := { dst := some 12, op := Op.assign (Operand.tmp 129), type := 22, pos := "outright.go:313", after := #[{ on := 8, ground := Ground.data }, { on := 8, ground := Ground.chain }, { on := 0, ground := Ground.phase }, { on := 1, ground := Ground.phase }, { on := 2, ground := Ground.phase }, { on := 3, ground := Ground.phase }, { on := 4, ground := Ground.phase }, { on := 5, ground := Ground.phase }, { on := 6, ground := Ground.phase }, { on := 7, ground := Ground.phase }, { on := 8, ground := Ground.phase }], guard := none }) (v := ?_) rfl (by kernel_rfl) (by kernel_rfl) (by kernel_rfl) (fun _ _ _ h => h) (Or.inl ⟨by rfl, ?_⟩) (by assumption) ?_
  rotate_left
  · intro W hSw
    try dsimp only at hSw
    go_simp
    try with_reducible rfl
  try simp only [Act.put, List.setIfInBounds_toArray, List.set_cons_zero, List.set_cons_succ]
  refine wpAnyH_done (by kernel_rfl) ?_ _
  refine NoPanic.normal ?_
  clear hHeld3
  replace HB := hid (below_up HB.out v3)
  replace HKk := hid (HKk.out.later v3)
  have HOP := hid (fun v (h : Below wh.heap.size wh v) => pOpen b3 Q3 d3 v (i3.later h) n3 HQ3.out.1 (by omega))
  clear h1 h2 h3 n1 n2 n3 i1 i2 i3 v0 v1 v2 v3 HCX HPB1 HPB2 HPB3
  have hkt : lo1 ≤ wh.heap.size := HKk.out.top
  have HQ0 := hid (HOP.out wh (Below.refl _ _))
  go_wp2_with fail
  refine HQ0.out.mono ?_
  rintro e wi ⟨gr, rfl, hr, hb⟩
  have RR := hid hr
  replace HB := hid (below_up HB.out hb)
  replace HKk := hid (HKk.out.later hb)
  have HQ1 := hid (HOP.out wi hb)
  obtain ⟨rlo, hrlo⟩ : ∃ rlo, wh.heap.size = rlo := ⟨_, rfl⟩
  obtain ⟨rhi, hrhi⟩ : ∃ rhi, wi.heap.size = rhi := ⟨_, rfl⟩
  rw [hrlo, hrhi] at RR
  have hk1 : lo1 ≤ rlo ∧ rlo ≤ rhi := by have := hb.size; omega
  clear hr hb HQ0 HOP
  go_wp2_with fail
  refine HQ1.out.mono ?_
  rintro e wj ⟨gs, rfl, hr, hb⟩
  have SS := hid hr
  replace RR := hid (RR.out.later hb)
  replace HB := hid (below_up HB.out hb)
  replace HKk := hid (HKk.out.later hb)
  rw [hrhi] at SS
  obtain ⟨shi, hshi⟩ : ∃ shi, wj.heap.size = shi := ⟨_, rfl⟩
  rw [hshi] at SS
  have hk2 : rhi ≤ shi := by have := hb.size; omega
  have hgr : rlo ≤ gr ∧ gr < rhi := ⟨RR.out.glo, RR.out.ghi⟩
  have hgs : rhi ≤ gs ∧ gs < shi := ⟨SS.out.glo, SS.out.ghi⟩
  have FF : Hid (Fam wj shi [] []) := Fam.nil wj shi
  have HSH : Hid (shi ≤ wj.heap.size) := by show _ ≤ _; omega
  clear hr hb HQ1 hrlo hrhi hshi
  have HQ0 := hid (pBlock RR.out (lp.length : Int) (by omega) (by omega))
  rw [HR1.out] at HQ0
  obtain ⟨⟨x0, x1, x2, x3, x4⟩, z0, z1, z2, z3, z4⟩ := HC.out wj HB.out
  go_wp2_with fail
  clear x0 x1 x2 x3 x4 z0 z1 z2 z3 z4
  refine HQ0.out.mono ?_
  rintro e wk ⟨u, rfl, ho, hp, hh⟩
  obtain ⟨aA, cA, rfl, -⟩ := ho.form
  replace FF : Hid (Fam wk shi [.slice aA lp.length cA] [lp]) := FF.out.hit ho hh (by omega) HSH.out
  replace HB := hid (below_hit HB.out hh (by omega))
  replace HKk := hid (HKk.out.stay (fun j h1 h2 => hh.block j (by have := HKk.out.top; omega) (by omega)) hh.size)
  replace SS := hid (SS.out.hit hh (by omega))
  replace HSH : Hid (shi ≤ wk.heap.size) := Nat.le_trans HSH.out hh.size
  replace RR := hid hp
  clear ho hp hh HQ0
  have HQ0 := hid (pBlock SS.out (lp.length : Int) (by omega) (by omega))
  rw [HR1.out] at HQ0
  obtain ⟨⟨x0, x1, x2, x3, x4⟩, z0, z1, z2, z3, z4⟩ := HC.out wk HB.out
  go_wp2_with fail
  clear x0 x1 x2 x3 x4 z0 z1 z2 z3 z4
  refine HQ0.out.mono ?_
  rintro e wl ⟨u, rfl, ho, hp, hh⟩
  obtain ⟨aB, cB, rfl, -⟩ := ho.form
  replace FF : Hid (Fam wl shi [.slice aA lp.length cA, .slice aB lp.length cB] [lp, lp]) := FF.out.hit ho hh (by omega) HSH.out
  replace HB := hid (below_hit HB.out hh (by omega))
  replace HKk := hid (HKk.out.stay (fun j h1 h2 => hh.block j (by have := HKk.out.top; omega) (by omega)) hh.size)
  replace RR := hid (RR.out.hit hh (by omega))
  replace HSH : Hid (shi ≤ wl.heap.size) := Nat.le_trans HSH.out hh.size
  replace SS := hid hp
  clear ho hp hh HQ0
  have HQ0 := hid (pBlock RR.out (mp.length : Int) (by omega) (by omega))
  rw [HR2.out] at HQ0
  obtain ⟨⟨x0, x1, x2, x3, x4⟩, z0, z1, z2, z3, z4⟩ := HC.out wl HB.out
  go_wp2_with fail
  clear x0 x1 x2 x3 x4 z0 z1 z2 z3 z4
  refine HQ0.out.mono ?_
  rintro e wm ⟨u, rfl, ho, hp, hh⟩
  obtain ⟨aC, cC, rfl, -⟩ := ho.form
  replace FF : Hid (Fam wm shi [.slice aA lp.length cA, .slice aB lp.length cB, .slice aC mp.length cC] [lp, lp, mp]) := FF.out.hit ho hh (by omega) HSH.out
  replace HB := hid (below_hit HB.out hh (by omega))
  replace HKk := hid (HKk.out.stay (fun j h1 h2 => hh.block j (by have := HKk.out.top; omega) (by omega)) hh.size)
  replace SS := hid (SS.out.hit hh (by omega))
  replace HSH : Hid (shi ≤ wm.heap.size) := Nat.le_trans HSH.out hh.size
  replace RR := hid hp
  clear ho hp hh HQ0
  have HQ0 := hid (pUv SS.out)
  rw [HR3.out] at HQ0
  go_wp2_with fail
  refine HQ0.out.mono ?_
  rintro e wn ⟨rfl, hp, hh⟩
  replace FF : Hid (Fam wn shi [.slice aA lp.length cA, .slice aB lp.length cB, .slice aC mp.length cC] [lp, lp, mp]) := FF.out.kept (fun j h1 h2 => hh.block j h2 (by omega))
  replace HB := hid (below_hit HB.out hh (by omega))
  replace HKk := hid (HKk.out.stay (fun j h1 h2 => hh.block j (by have := HKk.out.top; omega) (by omega)) hh.size)
  replace RR := hid (RR.out.hit hh (by omega))
  replace HSH : Hid (shi ≤ wn.heap.size) := Nat.le_trans HSH.out hh.size
  replace SS := hid hp
  clear hp hh HQ0
  have HQ0 := hid (pBytes SS.out (mp.length : Int) (by omega) (by omega))
  rw [HR4.out] at HQ0
  obtain ⟨⟨x0, x1, x2, x3, x4⟩, z0, z1, z2, z3, z4⟩ := HC.out wn HB.out
  go_wp2_with fail
  clear x0 x1 x2 x3 x4 z0 z1 z2 z3 z4
  refine HQ0.out.mono ?_
  rintro e wo ⟨u, rfl, ho, hp, hh⟩
  obtain ⟨aD, cD, rfl, -⟩ := ho.form
  replace FF : Hid (Fam wo shi [.slice aA lp.length cA, .slice aB lp.length cB, .slice aC mp.length cC, .slice aD mp.length cD] [lp, lp, mp, mp]) := FF.out.hit ho hh (by omega) HSH.out
  replace HB := hid (below_hit HB.out hh (by omega))
  replace HKk := hid (HKk.out.stay (fun j h1 h2 => hh.block j (by have := HKk.out.top; omega) (by omega)) hh.size)
  replace RR := hid (RR.out.hit hh (by omega))
  replace HSH : Hid (shi ≤ wo.heap.size) := Nat.le_trans HSH.out hh.size
  replace SS := hid hp
  clear ho hp hh HQ0
  have b1 := below_new wo (.cells #[.slice aA lp.length cA, .slice aB lp.length cB, .slice aC mp.length cC, .slice aD mp.length cD] 22)
  have b2 := below_up b1 (below_new (wo.alloc (.cells #[.slice aA lp.length cA, .slice aB lp.length cB, .slice aC mp.length cC, .slice aD mp.length cD] 22)) (.cells #[.slice xp lp.length cp, .slice xp lp.length cp, .slice yp mp.length ep, .slice yp mp.length ep] 22))
  have rw1 : Rws (wo.alloc (.cells #[.slice aA lp.length cA, .slice aB lp.length cB, .slice aC mp.length cC, .slice aD mp.length cD] 22)) (some ⟨wo.heap.size, 0, none⟩) [lp, lp, mp, mp] := four_rws (fam_at FF.out 0 rfl rfl) (fam_at FF.out 1 rfl rfl) (fam_at FF.out 2 rfl rfl) (fam_at FF.out 3 rfl rfl)
  have hsz : (wo.alloc (.cells #[.slice aA lp.length cA, .slice aB lp.length cB, .slice aC mp.length cC, .slice aD mp.length cD] 22)).heap.size = wo.heap.size + 1 := by simp
  have hA2 := HA.out _ (below_up HB.out b1)
  have rw2 : Rws ((wo.alloc (.cells #[.slice aA lp.length cA, .slice aB lp.length cB, .slice aC mp.length cC, .slice aD mp.length cD] 22)).alloc (.cells #[.slice xp lp.length cp, .slice xp lp.length cp, .slice yp mp.length ep, .slice yp mp.length ep] 22)) (some ⟨wo.heap.size + 1, 0, none⟩) [lp, lp, mp, mp] := by
    rw [← hsz]
    exact four_rws ⟨xp, cp, rfl, hA2.2.1.bytes⟩ ⟨xp, cp, rfl, hA2.2.1.bytes⟩ ⟨yp, ep, rfl, hA2.2.2.2.2.1.bytes⟩ ⟨yp, ep, rfl, hA2.2.2.2.2.1.bytes⟩
  have HQ0 := hid (same_any (some ⟨wo.heap.size, 0, none⟩) (some ⟨wo.heap.size + 1, 0, none⟩) [lp, lp, mp, mp] 4 4 ((wo.alloc (.cells #[.slice aA lp.length cA, .slice aB lp.length cB, .slice aC mp.length cC, .slice aD mp.length cD] 22)).alloc (.cells #[.slice xp lp.length cp, .slice xp lp.length cp, .slice yp mp.length ep, .slice yp mp.length ep] 22)) (rws_on rw1 (below_new _ _)) rw2 (by simp))
  obtain ⟨⟨x0, x1, x2, x3, x4⟩, z0, z1, z2, z3, z4⟩ := HC.out _ (below_up HB.out b1)
  clear rw1 rw2 hsz hA2
  go_wp2_with fail
  clear x0 x1 x2 x3 x4 z0 z1 z2 z3 z4
  refine HQ0.out.mono ?_
  rintro e wp ⟨rfl, jq, hq⟩
  have hb : Below wo.heap.size wo wp := by rw [hq]; exact below_drewN b2 _
  replace HB := hid (below_up HB.out hb)
  replace HKk := hid (HKk.out.later hb)
  replace FF := hid (FF.out.later hb)
  replace RR := hid (RR.out.later hb)
  replace SS := hid (SS.out.later hb)
  replace HSH : Hid (shi ≤ wp.heap.size) := Nat.le_trans HSH.out hb.size
  clear hq HQ0 hb b1 b2
  have HQ0 := hid (apart_four FF.out (fun L hL => by simp only [List.mem_cons, List.not_mem_nil, or_false] at hL; rcases hL with rfl | rfl | rfl | rfl <;> omega))
  go_wp2_with fail
  refine HQ0.out.mono ?_
  rintro e wq ⟨rfl, ht⟩
  have b1 := below_new wp (.cells #[.slice aA lp.length cA, .slice aB lp.length cB, .slice aC mp.length cC, .slice aD mp.length cD] 22)
  have hbq : Below shi (wp.alloc (.cells #[.slice aA lp.length cA, .slice aB lp.length cB, .slice aC mp.length cC, .slice aD mp.length cD] 22)) wq := ht.below (by have := b1.size; have h3 := HSH.out; omega) (fun j hj => hj.1)
  have hb : Below shi wp wq := (b1.mono HSH.out).trans hbq
  have hs := hb.size
  replace RR := hid (RR.out.stay (fun j _ h2 => hb.block j (by omega)) hs)
  replace SS := hid (SS.out.stay (fun j _ h2 => hb.block j (by omega)) hs)
  replace HKk := hid (HKk.out.stay (fun j _ h2 => hb.block j (by omega)) hs)
  replace HB := hid (HB.out.trans (hb.mono (by omega)))
  replace HSH : Hid (shi ≤ wq.heap.size) := Nat.le_trans HSH.out hs
  clear ht b1 hbq hb hs HQ0 FF
  have HCY : Hid (∀ v, Below w0.heap.size w0 v → v.cell? ⟨gx, 3, none⟩ = some (.slice xp lp.length cp) ∧ v.cell? ⟨gz, 3, none⟩ = some (.slice yp mp.length ep) ∧ v.cell? ⟨gx, 4, none⟩ = some (.slice xt T.length ct)) := fun v h => by
    have hc := HC.out v h
    exact ⟨hc.1.2.2.2.1, hc.2.2.2.2.1, hc.1.2.2.2.2⟩
  have hlg2 : (0 : Int) ≤ (lg : Int) := by omega
  have HTX : Hid (∀ v, Below wq.heap.size wq v → Calls Try.prog 15 #[.pointer (some ⟨gr, 0, none⟩), .int .i64 (T.length : Int), .int .i64 (lg : Int)] v fun x w' => ∃ u, x = .returned u ∧ OwnS w' v.heap.size u T ∧ ProgRd w' rlo rhi gr r3 ∧ Hit gr v w') := fun v h => by
    have := pTexts (RR.out.later h) (T.length : Int) (lg : Int) (by omega) (by omega) (by omega) (by omega) (by have := HQ3.out.2.2; omega)
    rw [HR5.out.1] at this
    have e2 : (T.map bs).map strL = T := by rw [List.map_map]; conv => rhs; rw [← List.map_id T]
                                            exact List.map_congr_left fun x _ => str_bs x
    rw [e2] at this
    exact this
  have v0 : Below wq.heap.size wq wq.drew := below_drewN (Below.refl _ wq) 1
  go_wp2_with fail
  refine wp_region_noPanic ?_
  refine wp_region_held_drew (S := fun v => v.cell? ⟨gx, 3, none⟩ = some (.slice xp lp.length cp) ∧ v.cell? ⟨gz, 3, none⟩ = some (.slice yp mp.length ep) ∧ v.cell? ⟨gx, 4, none⟩ = some (.slice xt T.length ct)) (by kernel_rfl) (HCY.out _ (below_up HB.out v0)) (fun hHeld0 => ?_)
  refine wpAnyH_take (i := 0) (oi := { dst := some 181, op := Op.move (Operand.tmp 13), type := 35, pos := "outright.go:324", after := #[], guard := none }) (v := ?_) rfl (by kernel_rfl) (by kernel_rfl) (by kernel_rfl) (fun _ _ _ h => h) (Or.inl ⟨by rfl, ?_⟩) (by assumption) ?_
  rotate_left
  · intro W hSw
    try dsimp only at hSw
    go_simp
    try with_reducible rfl
  try simp only [Act.put, List.setIfInBounds_toArray, List.set_cons_zero, List.set_cons_succ]
  refine wpAnyH_take (i := 1) (oi := { dst := some 182, op := Op.fieldAddr 26 (Operand.tmp 2) 4, type := 0, pos := "outright.go:324", after := #[], guard := none }) (v := ?_) rfl (by kernel_rfl) (by kernel_rfl) (by kernel_rfl) (fun _ _ _ h => h) (Or.inl ⟨by rfl, ?_⟩) (by assumption) ?_
  rotate_left
  · intro W hSw
    try dsimp only at hSw
    go_simp
    try with_reducible rfl
  try simp only [Act.put, List.setIfInBounds_toArray, List.set_cons_zero, List.set_cons_succ]
  refine wpAnyH_take (i := 2) (oi := { dst := some 183, op := Op.load 24 (Operand.tmp 182), type := 24, pos := "outright.go:324", after := #[{ on := 1, ground := Ground.data }], guard := none }) (v := ?_) rfl (by kernel_rfl) (by kernel_rfl) (by kernel_rfl) (fun _ _ _ h => h) (Or.inl ⟨by rfl, ?_⟩) (by assumption) ?_
  rotate_left
  · intro W hSw
    try dsimp only at hSw
    go_simp
    try with_reducible rfl
  try simp only [Act.put, List.setIfInBounds_toArray, List.set_cons_zero, List.set_cons_succ]
  refine wpAnyH_take (i := 3) (oi := { dst := some 184, op := Op.call { callee := Callee.builtin Builtin.len, args := #[Operand.tmp 183], argTypes := #[24] }, type := 3, pos := "outright.go:324", after := #[{ on := 2, ground := Ground.data }], guard := none }) (v := ?_) rfl (by kernel_rfl) (by kernel_rfl) (by kernel_rfl) (fun _ _ _ h => h) (Or.inl ⟨by rfl, ?_⟩) (by assumption) ?_
  rotate_left
  · intro W hSw
    try dsimp only at hSw
    go_simp
    try with_reducible rfl
  try simp only [Act.put, List.setIfInBounds_toArray, List.set_cons_zero, List.set_cons_succ]
  refine wpAnyH_take (i := 4) (oi := { dst := some 185, op := Op.fieldAddr 26 (Operand.tmp 2) 4, type := 0, pos := "outright.go:324", after := #[], guard := none }) (v := ?_) rfl (by kernel_rfl) (by kernel_rfl) (by kernel_rfl) (fun _ _ _ h => h) (Or.inl ⟨by rfl, ?_⟩) (by assumption) ?_
  rotate_left
  · intro W hSw
    try dsimp only at hSw
    go_simp
    try with_reducible rfl
  try simp only [Act.put, List.setIfInBounds_toArray, List.set_cons_zero, List.set_cons_succ]
  refine wpAnyH_take (i := 5) (oi := { dst := some 186, op := Op.load 24 (Operand.tmp 185), type := 24, pos := "outright.go:324", after := #[{ on := 4, ground := Ground.data }], guard := none }) (v := ?_) rfl (by kernel_rfl) (by kernel_rfl) (by kernel_rfl) (fun _ _ _ h => h) (Or.inl ⟨by rfl, ?_⟩) (by assumption) ?_
  rotate_left
  · intro W hSw
    try dsimp only at hSw
    go_simp
    try with_reducible rfl
  try simp only [Act.put, List.setIfInBounds_toArray, List.set_cons_zero, List.set_cons_succ]
  refine wpAnyH_ready (rs := [6]) (by kernel_rfl) (by simp) ?_
  refine AllReadyH.cons (o := { dst := some 187, op := Op.call { callee := Callee.value (Operand.func 16), args := #[Operand.tmp 186], argTypes := #[24] }, type := 3, pos := "outright.go:324", after := #[{ on := 5, ground := Ground.data }], guard := none }) rfl (fun K hK => ?_) AllReadyH.nil
  rw [if_pos (by rfl)]
  go_simp
  refine (HLN.out _ (below_up HB.out v0)).mono ?_
  rintro e s1 ⟨rfl, hs1⟩
  have v1 : Below wq.heap.size wq s1 := by rw [hs1]; exact v0
  clear hs1
  refine hK.out _ _ (HCY.out _ (below_up HB.out v1)) (fun hHeld1 => ?_)
  clear hK K hHeld0
  try simp only [Act.put, List.setIfInBounds_toArray, List.set_cons_zero, List.set_cons_succ]
  refine wpAnyH_ready (rs := [7]) (by kernel_rfl) (by simp) ?_
  refine AllReadyH.cons (o := { dst := some 188, op := Op.call { callee := Callee.value (Operand.func 15), args := #[Operand.tmp 181, Operand.tmp 184, Operand.tmp 187], argTypes := #[35, 3, 3] }, type := 24, pos := "outright.go:324", after := #[{ on := 0, ground := Ground.data }, { on := 3, ground := Ground.data }, { on := 6, ground := Ground.data }, { on := 6, ground := Ground.chain }], guard := none }) rfl (fun K hK => ?_) AllReadyH.nil
  rw [if_pos (by rfl)]
  go_simp
  refine (HTX.out _ v1).mono ?_
  rintro e wr1 ⟨u, rfl, ho, hp, hh⟩
  obtain ⟨aT, cT, rfl, -, -, -, -⟩ := ho.form
  have hbB := below_hit (below_up HB.out v1) hh (by omega)
  refine hK.out _ _ (HCY.out _ hbB) (fun hHeld2 => ?_)
  clear hK K hHeld1
  try simp only [Act.put, List.setIfInBounds_toArray, List.set_cons_zero, List.set_cons_succ]
  refine wpAnyH_take (i := 8) (oi := { dst := some 19, op := Op.assign (Operand.tmp 188), type := 24, pos := "outright.go:324", after := #[{ on := 7, ground := Ground.data }, { on := 7, ground := Ground.chain }, { on := 0, ground := Ground.phase }, { on := 1, ground := Ground.phase }, { on := 2, ground := Ground.phase }, { on := 3, ground := Ground.phase }, { on := 4, ground := Ground.phase }, { on := 5, ground := Ground.phase }, { on := 6, ground := Ground.phase }, { on := 7, ground := Ground.phase }], guard := none }) (v := ?_) rfl (by kernel_rfl) (by kernel_rfl) (by kernel_rfl) (fun _ _ _ h => h) (Or.inl ⟨by rfl, ?_⟩) (by assumption) ?_
  rotate_left
  · intro W hSw
    try dsimp only at hSw
    go_simp
    try with_reducible rfl
  try simp only [Act.put, List.setIfInBounds_toArray, List.set_cons_zero, List.set_cons_succ]
  refine wpAnyH_done (by kernel_rfl) ?_ _
  refine NoPanic.normal ?_
  clear hHeld2
  have hsz1 := v1.size
  replace HB := hid hbB
  replace HKk := hid ((HKk.out.later v1).stay (fun j h1 h2 => hh.block j (by have := HKk.out.top; omega) (by omega)) hh.size)
  replace SS := hid ((SS.out.later v1).hit hh (by omega))
  replace RR := hid hp
  have HT1 : Hid (OwnS wr1 shi (.slice aT T.length cT) T) := ownS_low ho (by have := HSH.out; omega)
  have ht1 : Hid (∀ g, (Value.slice aT T.length cT).ownBlock = some g → shi ≤ g ∧ g < wr1.heap.size) := fun g hg => OwnS.lt HT1.out g hg
  replace HSH : Hid (shi ≤ wr1.heap.size) := by show _ ≤ _; have := HSH.out; have := hh.size; omega
  clear ho hp hh v0 v1 hbB HTX hsz1
  have HWR : Hid (wr1.heap.size ≤ wr1.heap.size) := Nat.le_refl _
  have HTX : Hid (∀ v, Below wr1.heap.size wr1 v → Calls Try.prog 15 #[.pointer (some ⟨gs, 0, none⟩), .int .i64 (T.length : Int), .int .i64 (lg : Int)] v fun x w' => ∃ u, x = .returned u ∧ OwnS w' v.heap.size u T ∧ ProgRd w' rhi shi gs r3 ∧ Hit gs v w') := fun v h => by
    have := pTexts (SS.out.later h) (T.length : Int) (lg : Int) (by omega) (by omega) (by omega) (by omega) (by have := HQ3.out.2.2; omega)
    rw [HR5.out.1] at this
    have e2 : (T.map bs).map strL = T := by rw [List.map_map]; conv => rhs; rw [← List.map_id T]
                                            exact List.map_congr_left fun x _ => str_bs x
    rw [e2] at this
    exact this
  have v0 : Below wr1.heap.size wr1 wr1.drew := below_drewN (Below.refl _ wr1) 1
  go_wp2_with fail
  refine wp_region_noPanic ?_
  refine wp_region_held_drew (S := fun v => v.cell? ⟨gx, 3, none⟩ = some (.slice xp lp.length cp) ∧ v.cell? ⟨gz, 3, none⟩ = some (.slice yp mp.length ep) ∧ v.cell? ⟨gx, 4, none⟩ = some (.slice xt T.length ct)) (by kernel_rfl) (HCY.out _ (below_up HB.out v0)) (fun hHeld0 => ?_)
  refine wpAnyH_take (i := 0) (oi := { dst := some 189, op := Op.move (Operand.tmp 14), type := 35, pos := "outright.go:325", after := #[], guard := none }) (v := ?_) rfl (by kernel_rfl) (by kernel_rfl) (by kernel_rfl) (fun _ _ _ h => h) (Or.inl ⟨by rfl, ?_⟩) (by assumption) ?_
  rotate_left
  · intro W hSw
    try dsimp only at hSw
    go_simp
    try with_reducible rfl
  try simp only [Act.put, List.setIfInBounds_toArray, List.set_cons_zero, List.set_cons_succ]
  refine wpAnyH_take (i := 1) (oi := { dst := some 190, op := Op.fieldAddr 26 (Operand.tmp 2) 4, type := 0, pos := "outright.go:325", after := #[], guard := none }) (v := ?_) rfl (by kernel_rfl) (by kernel_rfl) (by kernel_rfl) (fun _ _ _ h => h) (Or.inl ⟨by rfl, ?_⟩) (by assumption) ?_
  rotate_left
  · intro W hSw
    try dsimp only at hSw
    go_simp
    try with_reducible rfl
  try simp only [Act.put, List.setIfInBounds_toArray, List.set_cons_zero, List.set_cons_succ]
  refine wpAnyH_take (i := 2) (oi := { dst := some 191, op := Op.load 24 (Operand.tmp 190), type := 24, pos := "outright.go:325", after := #[{ on := 1, ground := Ground.data }], guard := none }) (v := ?_) rfl (by kernel_rfl) (by kernel_rfl) (by kernel_rfl) (fun _ _ _ h => h) (Or.inl ⟨by rfl, ?_⟩) (by assumption) ?_
  rotate_left
  · intro W hSw
    try dsimp only at hSw
    go_simp
    try with_reducible rfl
  try simp only [Act.put, List.setIfInBounds_toArray, List.set_cons_zero, List.set_cons_succ]
  refine wpAnyH_take (i := 3) (oi := { dst := some 192, op := Op.call { callee := Callee.builtin Builtin.len, args := #[Operand.tmp 191], argTypes := #[24] }, type := 3, pos := "outright.go:325", after := #[{ on := 2, ground := Ground.data }], guard := none }) (v := ?_) rfl (by kernel_rfl) (by kernel_rfl) (by kernel_rfl) (fun _ _ _ h => h) (Or.inl ⟨by rfl, ?_⟩) (by assumption) ?_
  rotate_left
  · intro W hSw
    try dsimp only at hSw
    go_simp
    try with_reducible rfl
  try simp only [Act.put, List.setIfInBounds_toArray, List.set_cons_zero, List.set_cons_succ]
  refine wpAnyH_take (i := 4) (oi := { dst := some 193, op := Op.fieldAddr 26 (Operand.tmp 2) 4, type := 0, pos := "outright.go:325", after := #[], guard := none }) (v := ?_) rfl (by kernel_rfl) (by kernel_rfl) (by kernel_rfl) (fun _ _ _ h => h) (Or.inl ⟨by rfl, ?_⟩) (by assumption) ?_
  rotate_left
  · intro W hSw
    try dsimp only at hSw
    go_simp
    try with_reducible rfl
  try simp only [Act.put, List.setIfInBounds_toArray, List.set_cons_zero, List.set_cons_succ]
  refine wpAnyH_take (i := 5) (oi := { dst := some 194, op := Op.load 24 (Operand.tmp 193), type := 24, pos := "outright.go:325", after := #[{ on := 4, ground := Ground.data }], guard := none }) (v := ?_) rfl (by kernel_rfl) (by kernel_rfl) (by kernel_rfl) (fun _ _ _ h => h) (Or.inl ⟨by rfl, ?_⟩) (by assumption) ?_
  rotate_left
  · intro W hSw
    try dsimp only at hSw
    go_simp
    try with_reducible rfl
  try simp only [Act.put, List.setIfInBounds_toArray, List.set_cons_zero, List.set_cons_succ]
  refine wpAnyH_ready (rs := [6]) (by kernel_rfl) (by simp) ?_
  refine AllReadyH.cons (o := { dst := some 195, op := Op.call { callee := Callee.value (Operand.func 16), args := #[Operand.tmp 194], argTypes := #[24] }, type := 3, pos := "outright.go:325", after := #[{ on := 5, ground := Ground.data }], guard := none }) rfl (fun K hK => ?_) AllReadyH.nil
  rw [if_pos (by rfl)]
  go_simp
  refine (HLN.out _ (below_up HB.out v0)).mono ?_
  rintro e s1 ⟨rfl, hs1⟩
  have v1 : Below wr1.heap.size wr1 s1 := by rw [hs1]; exact v0
  clear hs1
  refine hK.out _ _ (HCY.out _ (below_up HB.out v1)) (fun hHeld1 => ?_)
  clear hK K hHeld0
  try simp only [Act.put, List.setIfInBounds_toArray, List.set_cons_zero, List.set_cons_succ]
  refine wpAnyH_ready (rs := [7]) (by kernel_rfl) (by simp) ?_
  refine AllReadyH.cons (o := { dst := some 196, op := Op.call { callee := Callee.value (Operand.func 15), args := #[Operand.tmp 189, Operand.tmp 192, Operand.tmp 195], argTypes := #[35, 3, 3] }, type := 24, pos := "outright.go:325", after := #[{ on := 0, ground := Ground.data }, { on := 3, ground := Ground.data }, { on := 6, ground := Ground.data }, { on := 6, ground := Ground.chain }], guard := none }) rfl (fun K hK => ?_) AllReadyH.nil
  rw [if_pos (by rfl)]
  go_simp
  refine (HTX.out _ v1).mono ?_
  rintro e ws1 ⟨u, rfl, ho, hp, hh⟩
  obtain ⟨aU, cU, rfl, -, -, -, -⟩ := ho.form
  have hbB := below_hit (below_up HB.out v1) hh (by omega)
  refine hK.out _ _ (HCY.out _ hbB) (fun hHeld2 => ?_)
  clear hK K hHeld1
  try simp only [Act.put, List.setIfInBounds_toArray, List.set_cons_zero, List.set_cons_succ]
  refine wpAnyH_take (i := 8) (oi := { dst := some 20, op := Op.assign (Operand.tmp 196), type := 24, pos := "outright.go:325", after := #[{ on := 7, ground := Ground.data }, { on := 7, ground := Ground.chain }, { on := 0, ground := Ground.phase }, { on := 1, ground := Ground.phase }, { on := 2, ground := Ground.phase }, { on := 3, ground := Ground.phase }, { on := 4, ground := Ground.phase }, { on := 5, ground := Ground.phase }, { on := 6, ground := Ground.phase }, { on := 7, ground := Ground.phase }], guard := none }) (v := ?_) rfl (by kernel_rfl) (by kernel_rfl) (by kernel_rfl) (fun _ _ _ h => h) (Or.inl ⟨by rfl, ?_⟩) (by assumption) ?_
  rotate_left
  · intro W hSw
    try dsimp only at hSw
    go_simp
    try with_reducible rfl
  try simp only [Act.put, List.setIfInBounds_toArray, List.set_cons_zero, List.set_cons_succ]
  refine wpAnyH_done (by kernel_rfl) ?_ _
  refine NoPanic.normal ?_
  clear hHeld2
  have hsz1 := v1.size
  replace HB := hid hbB
  replace HKk := hid ((HKk.out.later v1).stay (fun j h1 h2 => hh.block j (by have := HKk.out.top; omega) (by omega)) hh.size)
  replace RR := hid ((RR.out.later v1).hit hh (by omega))
  replace SS := hid hp
  replace HT1 := hid (OwnS.kept (HT1.out.later v1) (fun q hq => hh.block q (by have := (OwnS.lt (HT1.out.later v1) q hq).2; omega) (by have := (ht1.out q hq).1; omega)))
  replace HWR : Hid (wr1.heap.size ≤ ws1.heap.size) := Nat.le_trans v1.size hh.size
  have HT2 : Hid (OwnS ws1 shi (.slice aU T.length cU) T) := ownS_low ho (by have := HSH.out; omega)
  have ht2 : Hid (∀ g, (Value.slice aU T.length cU).ownBlock = some g → wr1.heap.size ≤ g) := fun g hg => by have := (OwnS.lt ho g hg).1; omega
  replace HSH : Hid (shi ≤ ws1.heap.size) := by show _ ≤ _; have := HSH.out; have := hh.size; omega
  clear ho hp hh v0 v1 hbB HTX hsz1
  obtain ⟨a', c', hv, hrw⟩ := HKk.out.rws
  have hv' : Value.slice ak 4 ck = .slice a' 4 c' := hv
  cases hv'
  obtain ⟨gk, ok, k1, d1, hak, hc1, hB1⟩ := hrw 1 lp rfl
  subst hak
  obtain ⟨gk', ok', k3, d3, hak, hc3, hB3⟩ := hrw 3 mp rfl
  cases hak
  have HCK : Hid (∀ v, Below ws1.heap.size ws1 v → (v.cell? ⟨gx, 3, none⟩ = some (.slice xp lp.length cp) ∧ v.cell? ⟨gz, 3, none⟩ = some (.slice yp mp.length ep) ∧ v.cell? ⟨gx, 4, none⟩ = some (.slice xt T.length ct) ∧ v.cell? ⟨gk, ok + 1, none⟩ = some (.slice k1 lp.length d1) ∧ v.cell? ⟨gk, ok + 3, none⟩ = some (.slice k3 mp.length d3)) ∧ Bytes v k1 lp ∧ Bytes v k3 mp) := fun v h => by
    have hc := HC.out v (below_up HB.out h)
    exact ⟨⟨hc.1.2.2.2.1, hc.2.2.2.2.1, hc.1.2.2.2.2, (h.cell (p := ⟨gk, ok + 1, none⟩) (inHeap hc1)).trans hc1, (h.cell (p := ⟨gk, ok + 3, none⟩) (inHeap hc3)).trans hc3⟩, hB1.later h, hB3.later h⟩
  clear hv hrw hc1 hB1 hc3 hB3 HKk HLN HCY
  have HE1 : Hid (∀ v, Below ws1.heap.size ws1 v → Calls Try.prog 17 #[.pointer (some ⟨gr, 0, none⟩)] v fun x w' => x = .returned (.int .i64 0) ∧ w' = v) := fun v h => by
    have := pEnd (RR.out.later h)
    rw [HR5.out.2] at this
    exact this
  have HE2 : Hid (∀ v, Below ws1.heap.size ws1 v → Calls Try.prog 17 #[.pointer (some ⟨gs, 0, none⟩)] v fun x w' => x = .returned (.int .i64 0) ∧ w' = v) := fun v h => by
    have := pEnd (SS.out.later h)
    rw [HR5.out.2] at this
    exact this
  have HS1 := hid (fun v (h : Below ws1.heap.size ws1 v) => sameTexts_any aT xt T T cT ct v (strs_of (HT1.out.later h)) (HA.out v (below_up HB.out h)).2.2.1.strs (by omega) (by omega))
  have HS2 := hid (fun v (h : Below ws1.heap.size ws1 v) => sameTexts_any aU xt T T cU ct v (strs_of (HT2.out.later h)) (HA.out v (below_up HB.out h)).2.2.1.strs (by omega) (by omega))
  rw [show decide (T = T) = true by simp] at HS1 HS2
  have HSM : Hid (∀ (v : World) (p q : Nat) (c d : Nat), Below ws1.heap.size ws1 v → v.heap[p]? = some (.cells #[.slice xp lp.length cp, .slice yp mp.length ep] 22 (0, 0)) → v.heap[q]? = some (.cells #[.slice k1 lp.length d1, .slice k3 mp.length d3] 22 (0, 0)) → Calls Try.prog 7 #[.slice (some ⟨p, 0, none⟩) 2 c, .slice (some ⟨q, 0, none⟩) 2 d] v fun e w' => e = .returned (.bool true) ∧ ∃ j, w' = v.drewN j) := fun v p q c d h hp hq => by
    have hA3 := HA.out v (below_up HB.out h)
    have hK3 := HCK.out v h
    exact same_any (some ⟨p, 0, none⟩) (some ⟨q, 0, none⟩) [lp, mp] c d v (two_rws hp hA3.2.1.bytes hA3.2.2.2.2.1.bytes) (two_rws hq hK3.2.1 hK3.2.2) (by simp)
  have v0 : Below ws1.heap.size ws1 ws1.drew := below_drewN (Below.refl _ ws1) 1
  go_wp2_with fail
  refine wp_region_noPanic ?_
  refine wp_region_held_drew (S := fun v => v.cell? ⟨gx, 3, none⟩ = some (.slice xp lp.length cp) ∧ v.cell? ⟨gz, 3, none⟩ = some (.slice yp mp.length ep) ∧ v.cell? ⟨gx, 4, none⟩ = some (.slice xt T.length ct) ∧ v.cell? ⟨gk, ok + 1, none⟩ = some (.slice k1 lp.length d1) ∧ v.cell? ⟨gk, ok + 3, none⟩ = some (.slice k3 mp.length d3)) (by kernel_rfl) ((HCK.out _ v0).1) (fun hHeld0 => ?_)
  refine wpAnyH_take (i := 0) (oi := { dst := some 197, op := Op.move (Operand.tmp 13), type := 35, pos := "outright.go:326", after := #[], guard := none }) (v := ?_) rfl (by kernel_rfl) (by kernel_rfl) (by kernel_rfl) (fun _ _ _ h => h) (Or.inl ⟨by rfl, ?_⟩) (by assumption) ?_
  rotate_left
  · intro W hSw
    try dsimp only at hSw
    go_simp
    try with_reducible rfl
  try simp only [Act.put, List.setIfInBounds_toArray, List.set_cons_zero, List.set_cons_succ]
  refine wpAnyH_ready (rs := [1]) (by kernel_rfl) (by simp) ?_
  refine AllReadyH.cons (o := { dst := some 198, op := Op.call { callee := Callee.value (Operand.func 17), args := #[Operand.tmp 197], argTypes := #[35] }, type := 41, pos := "outright.go:326", after := #[{ on := 0, ground := Ground.data }], guard := none }) rfl (fun K hK => ?_) AllReadyH.nil
  rw [if_pos (by rfl)]
  go_simp
  refine (HE1.out _ v0).mono ?_
  rintro e s1 ⟨rfl, hs⟩
  have v1 : Below ws1.heap.size ws1 s1 := by rw [hs]; exact v0
  clear hs
  refine hK.out _ _ ((HCK.out _ v1).1) (fun hHeld1 => ?_)
  clear hK K hHeld0
  try simp only [Act.put, List.setIfInBounds_toArray, List.set_cons_zero, List.set_cons_succ]
  refine wpAnyH_take (i := 2) (oi := { dst := some 199, op := Op.binOp BinOp.neq 41 (Operand.tmp 198) (Operand.const (Value.int IntKind.i64 0)) 41, type := 4, pos := "outright.go:326", after := #[{ on := 1, ground := Ground.data }], guard := none }) (v := Value.bool false) rfl (by kernel_rfl) (by kernel_rfl) (by kernel_rfl) (fun _ _ _ h => h) (Or.inl ⟨by rfl, ?_⟩) (by assumption) ?_
  · intro W hSw
    try dsimp only at hSw
    go_simp
    try with_reducible rfl
  try simp only [Act.put, List.setIfInBounds_toArray, List.set_cons_zero, List.set_cons_succ]
  refine wpAnyH_take (i := 3) (oi := { dst := some 200, op := Op.move (Operand.tmp 199), type := 4, pos := "outright.go:326", after := #[{ on := 2, ground := Ground.data }, { on := 1, ground := Ground.chain }], guard := none }) (v := ?_) rfl (by kernel_rfl) (by kernel_rfl) (by kernel_rfl) (fun _ _ _ h => h) (Or.inl ⟨by rfl, ?_⟩) (by assumption) ?_
  rotate_left
  · intro W hSw
    try dsimp only at hSw
    go_simp
    try with_reducible rfl
  try simp only [Act.put, List.setIfInBounds_toArray, List.set_cons_zero, List.set_cons_succ]
  refine wpAnyH_take (i := 4) (oi := { dst := some 201, op := Op.move (Operand.tmp 14), type := 35, pos := "outright.go:326", after := #[{ on := 3, ground := Ground.guard }], guard := some (3, false) }) (v := ?_) rfl (by kernel_rfl) (by kernel_rfl) (by kernel_rfl) (fun _ _ _ h => h) (Or.inl ⟨by rfl, ?_⟩) (by assumption) ?_
  rotate_left
  · intro W hSw
    try dsimp only at hSw
    go_simp
    try with_reducible rfl
  try simp only [Act.put, List.setIfInBounds_toArray, List.set_cons_zero, List.set_cons_succ]
  refine wpAnyH_ready (rs := [5]) (by kernel_rfl) (by simp) ?_
  refine AllReadyH.cons (o := { dst := some 202, op := Op.call { callee := Callee.value (Operand.func 17), args := #[Operand.tmp 201], argTypes := #[35] }, type := 41, pos := "outright.go:326", after := #[{ on := 4, ground := Ground.data }, { on := 3, ground := Ground.chain }, { on := 3, ground := Ground.guard }], guard := some (3, false) }) rfl (fun K hK => ?_) AllReadyH.nil
  rw [if_pos (by rfl)]
  go_simp
  refine (HE2.out _ v1).mono ?_
  rintro e s2 ⟨rfl, hs⟩
  have v2 : Below ws1.heap.size ws1 s2 := by rw [hs]; exact v1
  clear hs
  refine hK.out _ _ ((HCK.out _ v2).1) (fun hHeld2 => ?_)
  clear hK K hHeld1
  try simp only [Act.put, List.setIfInBounds_toArray, List.set_cons_zero, List.set_cons_succ]
  refine wpAnyH_take (i := 6) (oi := { dst := some 203, op := Op.binOp BinOp.neq 41 (Operand.tmp 202) (Operand.const (Value.int IntKind.i64 0)) 41, type := 4, pos := "outright.go:326", after := #[{ on := 5, ground := Ground.data }, { on := 3, ground := Ground.guard }], guard := some (3, false) }) (v := Value.bool false) rfl (by kernel_rfl) (by kernel_rfl) (by kernel_rfl) (fun _ _ _ h => h) (Or.inl ⟨by rfl, ?_⟩) (by assumption) ?_
  · intro W hSw
    try dsimp only at hSw
    go_simp
    try with_reducible rfl
  try simp only [Act.put, List.setIfInBounds_toArray, List.set_cons_zero, List.set_cons_succ]
  refine wpAnyH_take (i := 7) (oi := { dst := some 204, op := Op.pick (Operand.tmp 200) (Operand.const (Value.bool true)) (Operand.tmp 203), type := 4, pos := "outright.go:326", after := #[{ on := 3, ground := Ground.data }, { on := 6, ground := Ground.data }], guard := none }) (v := ?_) rfl (by kernel_rfl) (by kernel_rfl) (by kernel_rfl) (fun _ _ _ h => h) (Or.inl ⟨by rfl, ?_⟩) (by assumption) ?_
  rotate_left
  · intro W hSw
    try dsimp only at hSw
    go_simp
    try with_reducible rfl
  try simp only [Act.put, List.setIfInBounds_toArray, List.set_cons_zero, List.set_cons_succ]
  refine wpAnyH_take (i := 8) (oi := { dst := some 205, op := Op.move (Operand.tmp 204), type := 4, pos := "outright.go:326", after := #[{ on := 7, ground := Ground.data }, { on := 5, ground := Ground.chain }], guard := none }) (v := ?_) rfl (by kernel_rfl) (by kernel_rfl) (by kernel_rfl) (fun _ _ _ h => h) (Or.inl ⟨by rfl, ?_⟩) (by assumption) ?_
  rotate_left
  · intro W hSw
    try dsimp only at hSw
    go_simp
    try with_reducible rfl
  try simp only [Act.put, List.setIfInBounds_toArray, List.set_cons_zero, List.set_cons_succ]
  refine wpAnyH_take (i := 9) (oi := { dst := some 206, op := Op.move (Operand.tmp 19), type := 24, pos := "outright.go:326", after := #[{ on := 8, ground := Ground.guard }], guard := some (8, false) }) (v := ?_) rfl (by kernel_rfl) (by kernel_rfl) (by kernel_rfl) (fun _ _ _ h => h) (Or.inl ⟨by rfl, ?_⟩) (by assumption) ?_
  rotate_left
  · intro W hSw
    try dsimp only at hSw
    go_simp
    try with_reducible rfl
  try simp only [Act.put, List.setIfInBounds_toArray, List.set_cons_zero, List.set_cons_succ]
  refine wpAnyH_take (i := 10) (oi := { dst := some 207, op := Op.fieldAddr 26 (Operand.tmp 2) 4, type := 0, pos := "outright.go:326", after := #[{ on := 8, ground := Ground.guard }], guard := some (8, false) }) (v := ?_) rfl (by kernel_rfl) (by kernel_rfl) (by kernel_rfl) (fun _ _ _ h => h) (Or.inl ⟨by rfl, ?_⟩) (by assumption) ?_
  rotate_left
  · intro W hSw
    try dsimp only at hSw
    go_simp
    try with_reducible rfl
  try simp only [Act.put, List.setIfInBounds_toArray, List.set_cons_zero, List.set_cons_succ]
  refine wpAnyH_take (i := 11) (oi := { dst := some 208, op := Op.load 24 (Operand.tmp 207), type := 24, pos := "outright.go:326", after := #[{ on := 10, ground := Ground.data }, { on := 8, ground := Ground.guard }], guard := some (8, false) }) (v := ?_) rfl (by kernel_rfl) (by kernel_rfl) (by kernel_rfl) (fun _ _ _ h => h) (Or.inl ⟨by rfl, ?_⟩) (by assumption) ?_
  rotate_left
  · intro W hSw
    try dsimp only at hSw
    go_simp
    try with_reducible rfl
  try simp only [Act.put, List.setIfInBounds_toArray, List.set_cons_zero, List.set_cons_succ]
  refine wpAnyH_ready (rs := [12]) (by kernel_rfl) (by simp) ?_
  refine AllReadyH.cons (o := { dst := some 209, op := Op.call { callee := Callee.value (Operand.func 18), args := #[Operand.tmp 206, Operand.tmp 208], argTypes := #[24, 24] }, type := 4, pos := "outright.go:326", after := #[{ on := 9, ground := Ground.data }, { on := 11, ground := Ground.data }, { on := 8, ground := Ground.chain }, { on := 8, ground := Ground.guard }], guard := some (8, false) }) rfl (fun K hK => ?_) AllReadyH.nil
  rw [if_pos (by rfl)]
  go_simp
  refine (HS1.out _ v2).mono ?_
  rintro e s3 ⟨rfl, jq, hs⟩
  have v3 : Below ws1.heap.size ws1 s3 := by rw [hs]; exact below_drewN v2 _
  clear hs
  refine hK.out _ _ ((HCK.out _ v3).1) (fun hHeld3 => ?_)
  clear hK K hHeld2
  try simp only [Act.put, List.setIfInBounds_toArray, List.set_cons_zero, List.set_cons_succ]
  refine wpAnyH_take (i := 13) (oi := { dst := some 210, op := Op.unOp UnOp.not 4 (Operand.tmp 209), type := 4, pos := "outright.go:326", after := #[{ on := 12, ground := Ground.data }, { on := 8, ground := Ground.guard }], guard := some (8, false) }) (v := ?_) rfl (by kernel_rfl) (by kernel_rfl) (by kernel_rfl) (fun _ _ _ h => h) (Or.inl ⟨by rfl, ?_⟩) (by assumption) ?_
  rotate_left
  · intro W hSw
    try dsimp only at hSw
    go_simp
    try with_reducible rfl
  try simp only [Act.put, List.setIfInBounds_toArray, List.set_cons_zero, List.set_cons_succ]
  refine wpAnyH_take (i := 14) (oi := { dst := some 211, op := Op.pick (Operand.tmp 205) (Operand.const (Value.bool true)) (Operand.tmp 210), type := 4, pos := "outright.go:326", after := #[{ on := 8, ground := Ground.data }, { on := 13, ground := Ground.data }], guard := none }) (v := ?_) rfl (by kernel_rfl) (by kernel_rfl) (by kernel_rfl) (fun _ _ _ h => h) (Or.inl ⟨by rfl, ?_⟩) (by assumption) ?_
  rotate_left
  · intro W hSw
    try dsimp only at hSw
    go_simp
    try with_reducible rfl
  try simp only [Act.put, List.setIfInBounds_toArray, List.set_cons_zero, List.set_cons_succ]
  refine wpAnyH_take (i := 15) (oi := { dst := some 212, op := Op.move (Operand.tmp 211), type := 4, pos := "outright.go:326", after := #[{ on := 14, ground := Ground.data }, { on := 12, ground := Ground.chain }], guard := none }) (v := ?_) rfl (by kernel_rfl) (by kernel_rfl) (by kernel_rfl) (fun _ _ _ h => h) (Or.inl ⟨by rfl, ?_⟩) (by assumption) ?_
  rotate_left
  · intro W hSw
    try dsimp only at hSw
    go_simp
    try with_reducible rfl
  try simp only [Act.put, List.setIfInBounds_toArray, List.set_cons_zero, List.set_cons_succ]
  refine wpAnyH_take (i := 16) (oi := { dst := some 213, op := Op.move (Operand.tmp 20), type := 24, pos := "outright.go:326", after := #[{ on := 15, ground := Ground.guard }], guard := some (15, false) }) (v := ?_) rfl (by kernel_rfl) (by kernel_rfl) (by kernel_rfl) (fun _ _ _ h => h) (Or.inl ⟨by rfl, ?_⟩) (by assumption) ?_
  rotate_left
  · intro W hSw
    try dsimp only at hSw
    go_simp
    try with_reducible rfl
  try simp only [Act.put, List.setIfInBounds_toArray, List.set_cons_zero, List.set_cons_succ]
  refine wpAnyH_take (i := 17) (oi := { dst := some 214, op := Op.fieldAddr 26 (Operand.tmp 2) 4, type := 0, pos := "outright.go:326", after := #[{ on := 15, ground := Ground.guard }], guard := some (15, false) }) (v := ?_) rfl (by kernel_rfl) (by kernel_rfl) (by kernel_rfl) (fun _ _ _ h => h) (Or.inl ⟨by rfl, ?_⟩) (by assumption) ?_
  rotate_left
  · intro W hSw
    try dsimp only at hSw
    go_simp
    try with_reducible rfl
  try simp only [Act.put, List.setIfInBounds_toArray, List.set_cons_zero, List.set_cons_succ]
  refine wpAnyH_take (i := 18) (oi := { dst := some 215, op := Op.load 24 (Operand.tmp 214), type := 24, pos := "outright.go:326", after := #[{ on := 17, ground := Ground.data }, { on := 15, ground := Ground.guard }], guard := some (15, false) }) (v := ?_) rfl (by kernel_rfl) (by kernel_rfl) (by kernel_rfl) (fun _ _ _ h => h) (Or.inl ⟨by rfl, ?_⟩) (by assumption) ?_
  rotate_left
  · intro W hSw
    try dsimp only at hSw
    go_simp
    try with_reducible rfl
  try simp only [Act.put, List.setIfInBounds_toArray, List.set_cons_zero, List.set_cons_succ]
  refine wpAnyH_ready (rs := [19]) (by kernel_rfl) (by simp) ?_
  refine AllReadyH.cons (o := { dst := some 216, op := Op.call { callee := Callee.value (Operand.func 18), args := #[Operand.tmp 213, Operand.tmp 215], argTypes := #[24, 24] }, type := 4, pos := "outright.go:326", after := #[{ on := 16, ground := Ground.data }, { on := 18, ground := Ground.data }, { on := 15, ground := Ground.chain }, { on := 15, ground := Ground.guard }], guard := some (15, false) }) rfl (fun K hK => ?_) AllReadyH.nil
  rw [if_pos (by rfl)]
  go_simp
  refine (HS2.out _ v3).mono ?_
  rintro e s4 ⟨rfl, jr, hs⟩
  have v4 : Below ws1.heap.size ws1 s4 := by rw [hs]; exact below_drewN v3 _
  clear hs
  refine hK.out _ _ ((HCK.out _ v4).1) (fun hHeld4 => ?_)
  clear hK K hHeld3
  try simp only [Act.put, List.setIfInBounds_toArray, List.set_cons_zero, List.set_cons_succ]
  refine wpAnyH_take (i := 20) (oi := { dst := some 217, op := Op.unOp UnOp.not 4 (Operand.tmp 216), type := 4, pos := "outright.go:326", after := #[{ on := 19, ground := Ground.data }, { on := 15, ground := Ground.guard }], guard := some (15, false) }) (v := ?_) rfl (by kernel_rfl) (by kernel_rfl) (by kernel_rfl) (fun _ _ _ h => h) (Or.inl ⟨by rfl, ?_⟩) (by assumption) ?_
  rotate_left
  · intro W hSw
    try dsimp only at hSw
    go_simp
    try with_reducible rfl
  try simp only [Act.put, List.setIfInBounds_toArray, List.set_cons_zero, List.set_cons_succ]
  refine wpAnyH_take (i := 21) (oi := { dst := some 218, op := Op.pick (Operand.tmp 212) (Operand.const (Value.bool true)) (Operand.tmp 217), type := 4, pos := "outright.go:326", after := #[{ on := 15, ground := Ground.data }, { on := 20, ground := Ground.data }], guard := none }) (v := ?_) rfl (by kernel_rfl) (by kernel_rfl) (by kernel_rfl) (fun _ _ _ h => h) (Or.inl ⟨by rfl, ?_⟩) (by assumption) ?_
  rotate_left
  · intro W hSw
    try dsimp only at hSw
    go_simp
    try with_reducible rfl
  try simp only [Act.put, List.setIfInBounds_toArray, List.set_cons_zero, List.set_cons_succ]
  refine wpAnyH_take (i := 22) (oi := { dst := some 219, op := Op.move (Operand.tmp 218), type := 4, pos := "outright.go:326", after := #[{ on := 21, ground := Ground.data }, { on := 19, ground := Ground.chain }], guard := none }) (v := ?_) rfl (by kernel_rfl) (by kernel_rfl) (by kernel_rfl) (fun _ _ _ h => h) (Or.inl ⟨by rfl, ?_⟩) (by assumption) ?_
  rotate_left
  · intro W hSw
    try dsimp only at hSw
    go_simp
    try with_reducible rfl
  try simp only [Act.put, List.setIfInBounds_toArray, List.set_cons_zero, List.set_cons_succ]
  refine wpAnyH_take (i := 23) (oi := { dst := some 220, op := Op.fieldAddr 26 (Operand.tmp 2) 3, type := 0, pos := "outright.go:326", after := #[{ on := 22, ground := Ground.guard }], guard := some (22, false) }) (v := ?_) rfl (by kernel_rfl) (by kernel_rfl) (by kernel_rfl) (fun _ _ _ h => h) (Or.inl ⟨by rfl, ?_⟩) (by assumption) ?_
  rotate_left
  · intro W hSw
    try dsimp only at hSw
    go_simp
    try with_reducible rfl
  try simp only [Act.put, List.setIfInBounds_toArray, List.set_cons_zero, List.set_cons_succ]
  refine wpAnyH_take (i := 24) (oi := { dst := some 221, op := Op.load 22 (Operand.tmp 220), type := 22, pos := "outright.go:326", after := #[{ on := 23, ground := Ground.data }, { on := 22, ground := Ground.guard }], guard := some (22, false) }) (v := ?_) rfl (by kernel_rfl) (by kernel_rfl) (by kernel_rfl) (fun _ _ _ h => h) (Or.inl ⟨by rfl, ?_⟩) (by assumption) ?_
  rotate_left
  · intro W hSw
    try dsimp only at hSw
    go_simp
    try with_reducible rfl
  try simp only [Act.put, List.setIfInBounds_toArray, List.set_cons_zero, List.set_cons_succ]
  refine wpAnyH_take (i := 25) (oi := { dst := some 222, op := Op.fieldAddr 26 (Operand.tmp 3) 3, type := 0, pos := "outright.go:326", after := #[{ on := 22, ground := Ground.guard }], guard := some (22, false) }) (v := ?_) rfl (by kernel_rfl) (by kernel_rfl) (by kernel_rfl) (fun _ _ _ h => h) (Or.inl ⟨by rfl, ?_⟩) (by assumption) ?_
  rotate_left
  · intro W hSw
    try dsimp only at hSw
    go_simp
    try with_reducible rfl
  try simp only [Act.put, List.setIfInBounds_toArray, List.set_cons_zero, List.set_cons_succ]
  refine wpAnyH_take (i := 26) (oi := { dst := some 223, op := Op.load 22 (Operand.tmp 222), type := 22, pos := "outright.go:326", after := #[{ on := 25, ground := Ground.data }, { on := 22, ground := Ground.guard }], guard := some (22, false) }) (v := ?_) rfl (by kernel_rfl) (by kernel_rfl) (by kernel_rfl) (fun _ _ _ h => h) (Or.inl ⟨by rfl, ?_⟩) (by assumption) ?_
  rotate_left
  · intro W hSw
    try dsimp only at hSw
    go_simp
    try with_reducible rfl
  try simp only [Act.put, List.setIfInBounds_toArray, List.set_cons_zero, List.set_cons_succ]
  refine wpAnyH_take (i := 28) (oi := { dst := some 225, op := Op.move (Operand.tmp 5), type := 28, pos := "outright.go:326", after := #[{ on := 22, ground := Ground.guard }], guard := some (22, false) }) (v := ?_) rfl (by kernel_rfl) (by kernel_rfl) (by kernel_rfl) (fun _ _ _ h => h) (Or.inl ⟨by rfl, ?_⟩) (by assumption) ?_
  rotate_left
  · intro W hSw
    try dsimp only at hSw
    go_simp
    try with_reducible rfl
  try simp only [Act.put, List.setIfInBounds_toArray, List.set_cons_zero, List.set_cons_succ]
  refine wpAnyH_take (i := 29) (oi := { dst := some 226, op := Op.indexAddr 28 (Operand.tmp 225) (Operand.const (Value.int IntKind.i64 1)), type := 0, pos := "outright.go:326", after := #[{ on := 28, ground := Ground.data }, { on := 22, ground := Ground.guard }], guard := some (22, false) }) (v := ?_) rfl (by kernel_rfl) (by kernel_rfl) (by kernel_rfl) (fun _ _ _ h => h) (Or.inl ⟨by rfl, ?_⟩) (by assumption) ?_
  rotate_left
  · intro W hSw
    try dsimp only at hSw
    go_simp
    try with_reducible rfl
  try simp only [Act.put, List.setIfInBounds_toArray, List.set_cons_zero, List.set_cons_succ]
  refine wpAnyH_take (i := 30) (oi := { dst := some 227, op := Op.load 22 (Operand.tmp 226), type := 22, pos := "outright.go:326", after := #[{ on := 29, ground := Ground.data }, { on := 22, ground := Ground.guard }], guard := some (22, false) }) (v := ?_) rfl (by kernel_rfl) (by kernel_rfl) (by kernel_rfl) (fun _ _ _ h => h) (Or.inl ⟨by rfl, ?_⟩) (by assumption) ?_
  rotate_left
  · intro W hSw
    try dsimp only at hSw
    go_simp
    try with_reducible rfl
  try simp only [Act.put, List.setIfInBounds_toArray, List.set_cons_zero, List.set_cons_succ]
  refine wpAnyH_take (i := 31) (oi := { dst := some 228, op := Op.move (Operand.tmp 5), type := 28, pos := "outright.go:326", after := #[{ on := 22, ground := Ground.guard }], guard := some (22, false) }) (v := ?_) rfl (by kernel_rfl) (by kernel_rfl) (by kernel_rfl) (fun _ _ _ h => h) (Or.inl ⟨by rfl, ?_⟩) (by assumption) ?_
  rotate_left
  · intro W hSw
    try dsimp only at hSw
    go_simp
    try with_reducible rfl
  try simp only [Act.put, List.setIfInBounds_toArray, List.set_cons_zero, List.set_cons_succ]
  refine wpAnyH_take (i := 32) (oi := { dst := some 229, op := Op.indexAddr 28 (Operand.tmp 228) (Operand.const (Value.int IntKind.i64 3)), type := 0, pos := "outright.go:326", after := #[{ on := 31, ground := Ground.data }, { on := 22, ground := Ground.guard }], guard := some (22, false) }) (v := ?_) rfl (by kernel_rfl) (by kernel_rfl) (by kernel_rfl) (fun _ _ _ h => h) (Or.inl ⟨by rfl, ?_⟩) (by assumption) ?_
  rotate_left
  · intro W hSw
    try dsimp only at hSw
    go_simp
    try with_reducible rfl
  try simp only [Act.put, List.setIfInBounds_toArray, List.set_cons_zero, List.set_cons_succ]
  refine wpAnyH_take (i := 33) (oi := { dst := some 230, op := Op.load 22 (Operand.tmp 229), type := 22, pos := "outright.go:326", after := #[{ on := 32, ground := Ground.data }, { on := 22, ground := Ground.guard }], guard := some (22, false) }) (v := ?_) rfl (by kernel_rfl) (by kernel_rfl) (by kernel_rfl) (fun _ _ _ h => h) (Or.inl ⟨by rfl, ?_⟩) (by assumption) ?_
  rotate_left
  · intro W hSw
    try dsimp only at hSw
    go_simp
    try with_reducible rfl
  try simp only [Act.put, List.setIfInBounds_toArray, List.set_cons_zero, List.set_cons_succ]
  refine wpAnyH_ready (rs := [27, 34]) (by kernel_rfl) (by simp) ?_
  refine AllReadyH.cons (o := { dst := some 224, op := Op.buildSlice 28 2 #[(0, Operand.tmp 221), (1, Operand.tmp 223)], type := 28, pos := "outright.go:326", after := #[{ on := 24, ground := Ground.data }, { on := 26, ground := Ground.data }, { on := 22, ground := Ground.guard }], guard := some (22, false) }) rfl (fun K hK => ?_) (AllReadyH.cons (o := { dst := some 231, op := Op.buildSlice 28 2 #[(0, Operand.tmp 227), (1, Operand.tmp 230)], type := 28, pos := "outright.go:326", after := #[{ on := 30, ground := Ground.data }, { on := 33, ground := Ground.data }, { on := 22, ground := Ground.guard }], guard := some (22, false) }) rfl (fun K hK => ?_) AllReadyH.nil)
  · have v5 : Below ws1.heap.size ws1 (s4.alloc (.cells #[.slice xp lp.length cp, .slice yp mp.length ep] 22)) := below_up v4 (below_new _ _)
    have v6 : Below ws1.heap.size ws1 ((s4.alloc (.cells #[.slice xp lp.length cp, .slice yp mp.length ep] 22)).alloc (.cells #[.slice k1 lp.length d1, .slice k3 mp.length d3] 22)) := below_up v5 (below_new _ _)
    have hp1 : ((s4.alloc (.cells #[.slice xp lp.length cp, .slice yp mp.length ep] 22)).alloc (.cells #[.slice k1 lp.length d1, .slice k3 mp.length d3] 22)).heap[s4.heap.size]? = some (.cells #[.slice xp lp.length cp, .slice yp mp.length ep] 22 (0, 0)) := by
      rw [(below_new (s4.alloc (.cells #[.slice xp lp.length cp, .slice yp mp.length ep] 22)) (.cells #[.slice k1 lp.length d1, .slice k3 mp.length d3] 22)).block _ (by simp)]
      exact heap_alloc_new s4 _
    have hp2 : ((s4.alloc (.cells #[.slice xp lp.length cp, .slice yp mp.length ep] 22)).alloc (.cells #[.slice k1 lp.length d1, .slice k3 mp.length d3] 22)).heap[s4.heap.size + 1]? = some (.cells #[.slice k1 lp.length d1, .slice k3 mp.length d3] 22 (0, 0)) := by
      have := heap_alloc_new (s4.alloc (.cells #[.slice xp lp.length cp, .slice yp mp.length ep] 22)) (.cells #[.slice k1 lp.length d1, .slice k3 mp.length d3] 22)
      rwa [World.size_alloc] at this
    rw [if_pos (by rfl)]
    go_simp
    refine hK.out _ _ ((HCK.out _ v5).1) (fun hHeld5 => ?_)
    clear hK K hHeld4
    try simp only [Act.put, List.setIfInBounds_toArray, List.set_cons_zero, List.set_cons_succ]
    refine wpAnyH_ready (rs := [34]) (by kernel_rfl) (by simp) ?_
    refine AllReadyH.cons (o := { dst := some 231, op := Op.buildSlice 28 2 #[(0, Operand.tmp 227), (1, Operand.tmp 230)], type := 28, pos := "outright.go:326", after := #[{ on := 30, ground := Ground.data }, { on := 33, ground := Ground.data }, { on := 22, ground := Ground.guard }], guard := some (22, false) }) rfl (fun K hK => ?_) AllReadyH.nil
    rw [if_pos (by rfl)]
    go_simp
    refine hK.out _ _ ((HCK.out _ v6).1) (fun hHeld6 => ?_)
    clear hK K hHeld5
    try simp only [Act.put, List.setIfInBounds_toArray, List.set_cons_zero, List.set_cons_succ]
    refine wpAnyH_ready (rs := [35]) (by kernel_rfl) (by simp) ?_
    refine AllReadyH.cons (o := { dst := some 232, op := Op.call { callee := Callee.value (Operand.func 7), args := #[Operand.tmp 224, Operand.tmp 231], argTypes := #[28, 28] }, type := 4, pos := "outright.go:326", after := #[{ on := 27, ground := Ground.data }, { on := 34, ground := Ground.data }, { on := 22, ground := Ground.chain }, { on := 22, ground := Ground.guard }], guard := some (22, false) }) rfl (fun K hK => ?_) AllReadyH.nil
    rw [if_pos (by rfl)]
    go_simp
    refine (HSM.out _ (s4.heap.size) (s4.heap.size + 1) 2 2 v6 hp1 hp2).mono ?_
    rintro e wt ⟨rfl, js, hs⟩
    have vE : Below ws1.heap.size ws1 wt := by rw [hs]; exact below_drewN v6 _
    clear hs hp1 hp2
    refine hK.out _ _ ((HCK.out _ vE).1) (fun hHeld7 => ?_)
    clear hK K hHeld6
    try simp only [Act.put, List.setIfInBounds_toArray, List.set_cons_zero, List.set_cons_succ]
    refine wpAnyH_take (i := 36) (oi := { dst := some 233, op := Op.unOp UnOp.not 4 (Operand.tmp 232), type := 4, pos := "outright.go:326", after := #[{ on := 35, ground := Ground.data }, { on := 22, ground := Ground.guard }], guard := some (22, false) }) (v := ?_) rfl (by kernel_rfl) (by kernel_rfl) (by kernel_rfl) (fun _ _ _ h => h) (Or.inl ⟨by rfl, ?_⟩) (by assumption) ?_
    rotate_left
    · intro W hSw
      try dsimp only at hSw
      go_simp
      try with_reducible rfl
    try simp only [Act.put, List.setIfInBounds_toArray, List.set_cons_zero, List.set_cons_succ]
    refine wpAnyH_take (i := 37) (oi := { dst := some 234, op := Op.pick (Operand.tmp 219) (Operand.const (Value.bool true)) (Operand.tmp 233), type := 4, pos := "outright.go:326", after := #[{ on := 22, ground := Ground.data }, { on := 36, ground := Ground.data }], guard := none }) (v := ?_) rfl (by kernel_rfl) (by kernel_rfl) (by kernel_rfl) (fun _ _ _ h => h) (Or.inl ⟨by rfl, ?_⟩) (by assumption) ?_
    rotate_left
    · intro W hSw
      try dsimp only at hSw
      go_simp
      try with_reducible rfl
    try simp only [Act.put, List.setIfInBounds_toArray, List.set_cons_zero, List.set_cons_succ]
    refine wpAnyH_done (by kernel_rfl) ?_ _
    refine NoPanic.normal ?_
    clear hHeld7
    clear v0 v1 v2 v3 v4 v5 v6 HCK HE1 HE2 HS1 HS2 HSM RR SS
    have hb := vE
    replace HT1 := hid (HT1.out.later hb)
    replace HT2 := hid (HT2.out.later hb)
    replace HB := hid (below_up HB.out hb)
    have hsw : wr1.heap.size ≤ ws1.heap.size ∧ ws1.heap.size ≤ wt.heap.size := ⟨HWR.out, hb.size⟩
    have hT1w := fun g hg => (OwnS.lt HT1.out g hg).2
    have hT2w := fun g hg => (OwnS.lt HT2.out g hg).2
    clear hb
    obtain ⟨vo, wu, hru, ou, bu⟩ := run_manyS (T := []) (c := ct) (OwnS.nil wt wt.heap.size) (HA.out wt HB.out).2.2.1.strs HN.out.2.2.1 (by simp only [List.length_nil]; omega) (Nat.le_refl _)
    rw [List.nil_append] at ou
    have hbu := bu wt (Below.refl _ _)
    have RU := hid hru
    obtain ⟨ao, co, rfl, -, -, -, -⟩ := ou.form
    have HOU := hid ou
    have HOl : Hid (∀ g, (Value.slice ao T.length co).ownBlock = some g → wt.heap.size ≤ g) := fun g hg => (OwnS.lt ou g hg).1
    obtain ⟨⟨x0, x1, x2, x3, x4⟩, -, -, -, -, -⟩ := HC.out wt HB.out
    have TF : Hid (Ow.Fam wu 9 shi wt.heap.size [(.slice aT T.length cT, svals T), (.slice aU T.length cU, svals T)]) := by
      refine ⟨fun x hx => ?_, fun x hx g hg => ?_, ?_, hbu.size⟩
      · simp only [List.mem_cons, List.not_mem_nil, or_false] at hx
        rcases hx with rfl | rfl
        · exact ownS_rowM (HT1.out.later hbu)
        · exact ownS_rowM (HT2.out.later hbu)
      · simp only [List.mem_cons, List.not_mem_nil, or_false] at hx
        rcases hx with rfl | rfl
        · exact hT1w g hg
        · exact hT2w g hg
      · refine List.pairwise_pair.2 ?_
        cases h1 : (Value.slice aT T.length cT).ownBlock with
        | none => exact .inl rfl
        | some g =>
          refine .inr fun e => ?_
          have h2 := (ht1.out g h1).2
          have h3 := ht2.out g e.symm
          omega
    replace HB := hid (below_up HB.out hbu)
    clear hru ou bu hT1w hT2w HT1 HT2 ht1 ht2
    go_wp2_with (at_builtin; refine wpList_app (by rfl) (by rfl) RU.out ?_; clear RU)
    clear x0 x1 x2 x3 x4
    have HAT : Hid (Calls Try.prog 19 #[.slice (some ⟨wu.heap.size, 0, none⟩) 2 2] (wu.alloc (.cells #[.slice aT T.length cT, .slice aU T.length cU] 24)) fun e w' => e = .returned (.bool true) ∧ Touch (Ow.memF [(.slice aT T.length cT, svals T), (.slice aU T.length cU, svals T)]) wu w') := Ow.apartTexts_fam TF.out (by simp) (fun x hx => by
      simp only [List.mem_cons, List.not_mem_nil, or_false] at hx
      rcases hx with rfl | rfl <;> (show (svals T).length ≤ _; unfold svals; rw [List.length_map]; omega))
    refine HAT.out.mono ?_
    rintro e wv ⟨rfl, ht⟩
    have hbv : Below shi wu wv := ht.below (by have := hbu.size; have h3 := HSH.out; omega) (fun j ⟨x, hx, hg⟩ => (World.ownsRow.lt (TF.out.each x hx) j hg).1)
    replace HOU := hid (OwnS.kept HOU.out (fun g hg => ht.block g (OwnS.lt HOU.out g hg).2 (fun ⟨x, hx, hg2⟩ => by have := TF.out.lt x hx g hg2; have := HOl.out g hg; omega)))
    replace HB := hid (HB.out.trans (hbv.mono (by omega)))
    clear ht hbv HAT TF hbu
    obtain ⟨⟨x0, x1, x2, x3, x4⟩, -, -, -, -, -⟩ := HC.out wv HB.out
    have HQ0 := hid (sameTexts_any xt ao T T ct co wv (HA.out wv HB.out).2.2.1.strs (strs_of HOU.out) (by omega) (by omega))
    rw [show decide (T = T) = true by simp] at HQ0
    go_wp2_with fail
    clear x0 x1 x2 x3 x4
    refine HQ0.out.mono ?_
    rintro e wx ⟨rfl, jq, hq⟩
    have hb : Below wv.heap.size wv wx := by rw [hq]; exact below_drewN (Below.refl _ _) _
    replace HB := hid (below_up HB.out hb)
    clear hq HQ0 hb HOU HOl
    obtain ⟨⟨x0, x1, x2, x3, x4⟩, -, -, -, -, -⟩ := HC.out wx HB.out
    have HQ0 := hid (HTW.out wx HB.out)
    go_wp2_with fail
    clear x0 x1 x2 x3 x4
    refine HQ0.out.mono ?_
    rintro e wy ⟨rfl, hb⟩
    replace HB := hid (below_up HB.out hb)
    clear HQ0 hb
    obtain ⟨⟨x0, x1, x2, x3, x4⟩, z0, z1, z2, z3, z4⟩ := HC.out wy HB.out
    have HQ0 := hid (HHL.out wy HB.out)
    go_wp2_with fail
    clear x0 x1 x2 x3 x4 z0 z1 z2 z3 z4
    refine HQ0.out.mono ?_
    rintro e wz ⟨rfl, hb⟩
    replace HB := hid (below_up HB.out hb)
    clear HQ0 hb
    go_wp2_with fail
    go_ret
    exact ⟨ret_bool (by simp), below_up HK.out HB.out⟩
  · have v5 : Below ws1.heap.size ws1 (s4.alloc (.cells #[.slice k1 lp.length d1, .slice k3 mp.length d3] 22)) := below_up v4 (below_new _ _)
    have v6 : Below ws1.heap.size ws1 ((s4.alloc (.cells #[.slice k1 lp.length d1, .slice k3 mp.length d3] 22)).alloc (.cells #[.slice xp lp.length cp, .slice yp mp.length ep] 22)) := below_up v5 (below_new _ _)
    have hp1 : ((s4.alloc (.cells #[.slice k1 lp.length d1, .slice k3 mp.length d3] 22)).alloc (.cells #[.slice xp lp.length cp, .slice yp mp.length ep] 22)).heap[s4.heap.size]? = some (.cells #[.slice k1 lp.length d1, .slice k3 mp.length d3] 22 (0, 0)) := by
      rw [(below_new (s4.alloc (.cells #[.slice k1 lp.length d1, .slice k3 mp.length d3] 22)) (.cells #[.slice xp lp.length cp, .slice yp mp.length ep] 22)).block _ (by simp)]
      exact heap_alloc_new s4 _
    have hp2 : ((s4.alloc (.cells #[.slice k1 lp.length d1, .slice k3 mp.length d3] 22)).alloc (.cells #[.slice xp lp.length cp, .slice yp mp.length ep] 22)).heap[s4.heap.size + 1]? = some (.cells #[.slice xp lp.length cp, .slice yp mp.length ep] 22 (0, 0)) := by
      have := heap_alloc_new (s4.alloc (.cells #[.slice k1 lp.length d1, .slice k3 mp.length d3] 22)) (.cells #[.slice xp lp.length cp, .slice yp mp.length ep] 22)
      rwa [World.size_alloc] at this
    rw [if_pos (by rfl)]
    go_simp
    refine hK.out _ _ ((HCK.out _ v5).1) (fun hHeld5 => ?_)
    clear hK K hHeld4
    try simp only [Act.put, List.setIfInBounds_toArray, List.set_cons_zero, List.set_cons_succ]
    refine wpAnyH_ready (rs := [27]) (by kernel_rfl) (by simp) ?_
    refine AllReadyH.cons (o := { dst := some 224, op := Op.buildSlice 28 2 #[(0, Operand.tmp 221), (1, Operand.tmp 223)], type := 28, pos := "outright.go:326", after := #[{ on := 24, ground := Ground.data }, { on := 26, ground := Ground.data }, { on := 22, ground := Ground.guard }], guard := some (22, false) }) rfl (fun K hK => ?_) AllReadyH.nil
    rw [if_pos (by rfl)]
    go_simp
    refine hK.out _ _ ((HCK.out _ v6).1) (fun hHeld6 => ?_)
    clear hK K hHeld5
    try simp only [Act.put, List.setIfInBounds_toArray, List.set_cons_zero, List.set_cons_succ]
    refine wpAnyH_ready (rs := [35]) (by kernel_rfl) (by simp) ?_
    refine AllReadyH.cons (o := { dst := some 232, op := Op.call { callee := Callee.value (Operand.func 7), args := #[Operand.tmp 224, Operand.tmp 231], argTypes := #[28, 28] }, type := 4, pos := "outright.go:326", after := #[{ on := 27, ground := Ground.data }, { on := 34, ground := Ground.data }, { on := 22, ground := Ground.chain }, { on := 22, ground := Ground.guard }], guard := some (22, false) }) rfl (fun K hK => ?_) AllReadyH.nil
    rw [if_pos (by rfl)]
    go_simp
    refine (HSM.out _ (s4.heap.size + 1) (s4.heap.size) 2 2 v6 hp2 hp1).mono ?_
    rintro e wt ⟨rfl, js, hs⟩
    have vE : Below ws1.heap.size ws1 wt := by rw [hs]; exact below_drewN v6 _
    clear hs hp1 hp2
    refine hK.out _ _ ((HCK.out _ vE).1) (fun hHeld7 => ?_)
    clear hK K hHeld6
    try simp only [Act.put, List.setIfInBounds_toArray, List.set_cons_zero, List.set_cons_succ]
    refine wpAnyH_take (i := 36) (oi := { dst := some 233, op := Op.unOp UnOp.not 4 (Operand.tmp 232), type := 4, pos := "outright.go:326", after := #[{ on := 35, ground := Ground.data }, { on := 22, ground := Ground.guard }], guard := some (22, false) }) (v := ?_) rfl (by kernel_rfl) (by kernel_rfl) (by kernel_rfl) (fun _ _ _ h => h) (Or.inl ⟨by rfl, ?_⟩) (by assumption) ?_
    rotate_left
    · intro W hSw
      try dsimp only at hSw
      go_simp
      try with_reducible rfl
    try simp only [Act.put, List.setIfInBounds_toArray, List.set_cons_zero, List.set_cons_succ]
    refine wpAnyH_take (i := 37) (oi := { dst := some 234, op := Op.pick (Operand.tmp 219) (Operand.const (Value.bool true)) (Operand.tmp 233), type := 4, pos := "outright.go:326", after := #[{ on := 22, ground := Ground.data }, { on := 36, ground := Ground.data }], guard := none }) (v := ?_) rfl (by kernel_rfl) (by kernel_rfl) (by kernel_rfl) (fun _ _ _ h => h) (Or.inl ⟨by rfl, ?_⟩) (by assumption) ?_
    rotate_left
    · intro W hSw
      try dsimp only at hSw
      go_simp
      try with_reducible rfl
    try simp only [Act.put, List.setIfInBounds_toArray, List.set_cons_zero, List.set_cons_succ]
    refine wpAnyH_done (by kernel_rfl) ?_ _
    refine NoPanic.normal ?_
    clear hHeld7
    clear v0 v1 v2 v3 v4 v5 v6 HCK HE1 HE2 HS1 HS2 HSM RR SS
    have hb := vE
    replace HT1 := hid (HT1.out.later hb)
    replace HT2 := hid (HT2.out.later hb)
    replace HB := hid (below_up HB.out hb)
    have hsw : wr1.heap.size ≤ ws1.heap.size ∧ ws1.heap.size ≤ wt.heap.size := ⟨HWR.out, hb.size⟩
    have hT1w := fun g hg => (OwnS.lt HT1.out g hg).2
    have hT2w := fun g hg => (OwnS.lt HT2.out g hg).2
    clear hb
    obtain ⟨vo, wu, hru, ou, bu⟩ := run_manyS (T := []) (c := ct) (OwnS.nil wt wt.heap.size) (HA.out wt HB.out).2.2.1.strs HN.out.2.2.1 (by simp only [List.length_nil]; omega) (Nat.le_refl _)
    rw [List.nil_append] at ou
    have hbu := bu wt (Below.refl _ _)
    have RU := hid hru
    obtain ⟨ao, co, rfl, -, -, -, -⟩ := ou.form
    have HOU := hid ou
    have HOl : Hid (∀ g, (Value.slice ao T.length co).ownBlock = some g → wt.heap.size ≤ g) := fun g hg => (OwnS.lt ou g hg).1
    obtain ⟨⟨x0, x1, x2, x3, x4⟩, -, -, -, -, -⟩ := HC.out wt HB.out
    have TF : Hid (Ow.Fam wu 9 shi wt.heap.size [(.slice aT T.length cT, svals T), (.slice aU T.length cU, svals T)]) := by
      refine ⟨fun x hx => ?_, fun x hx g hg => ?_, ?_, hbu.size⟩
      · simp only [List.mem_cons, List.not_mem_nil, or_false] at hx
        rcases hx with rfl | rfl
        · exact ownS_rowM (HT1.out.later hbu)
        · exact ownS_rowM (HT2.out.later hbu)
      · simp only [List.mem_cons, List.not_mem_nil, or_false] at hx
        rcases hx with rfl | rfl
        · exact hT1w g hg
        · exact hT2w g hg
      · refine List.pairwise_pair.2 ?_
        cases h1 : (Value.slice aT T.length cT).ownBlock with
        | none => exact .inl rfl
        | some g =>
          refine .inr fun e => ?_
          have h2 := (ht1.out g h1).2
          have h3 := ht2.out g e.symm
          omega
    replace HB := hid (below_up HB.out hbu)
    clear hru ou bu hT1w hT2w HT1 HT2 ht1 ht2
    go_wp2_with (at_builtin; refine wpList_app (by rfl) (by rfl) RU.out ?_; clear RU)
    clear x0 x1 x2 x3 x4
    have HAT : Hid (Calls Try.prog 19 #[.slice (some ⟨wu.heap.size, 0, none⟩) 2 2] (wu.alloc (.cells #[.slice aT T.length cT, .slice aU T.length cU] 24)) fun e w' => e = .returned (.bool true) ∧ Touch (Ow.memF [(.slice aT T.length cT, svals T), (.slice aU T.length cU, svals T)]) wu w') := Ow.apartTexts_fam TF.out (by simp) (fun x hx => by
      simp only [List.mem_cons, List.not_mem_nil, or_false] at hx
      rcases hx with rfl | rfl <;> (show (svals T).length ≤ _; unfold svals; rw [List.length_map]; omega))
    refine HAT.out.mono ?_
    rintro e wv ⟨rfl, ht⟩
    have hbv : Below shi wu wv := ht.below (by have := hbu.size; have h3 := HSH.out; omega) (fun j ⟨x, hx, hg⟩ => (World.ownsRow.lt (TF.out.each x hx) j hg).1)
    replace HOU := hid (OwnS.kept HOU.out (fun g hg => ht.block g (OwnS.lt HOU.out g hg).2 (fun ⟨x, hx, hg2⟩ => by have := TF.out.lt x hx g hg2; have := HOl.out g hg; omega)))
    replace HB := hid (HB.out.trans (hbv.mono (by omega)))
    clear ht hbv HAT TF hbu
    obtain ⟨⟨x0, x1, x2, x3, x4⟩, -, -, -, -, -⟩ := HC.out wv HB.out
    have HQ0 := hid (sameTexts_any xt ao T T ct co wv (HA.out wv HB.out).2.2.1.strs (strs_of HOU.out) (by omega) (by omega))
    rw [show decide (T = T) = true by simp] at HQ0
    go_wp2_with fail
    clear x0 x1 x2 x3 x4
    refine HQ0.out.mono ?_
    rintro e wx ⟨rfl, jq, hq⟩
    have hb : Below wv.heap.size wv wx := by rw [hq]; exact below_drewN (Below.refl _ _) _
    replace HB := hid (below_up HB.out hb)
    clear hq HQ0 hb HOU HOl
    obtain ⟨⟨x0, x1, x2, x3, x4⟩, -, -, -, -, -⟩ := HC.out wx HB.out
    have HQ0 := hid (HTW.out wx HB.out)
    go_wp2_with fail
    clear x0 x1 x2 x3 x4
    refine HQ0.out.mono ?_
    rintro e wy ⟨rfl, hb⟩
    replace HB := hid (below_up HB.out hb)
    clear HQ0 hb
    obtain ⟨⟨x0, x1, x2, x3, x4⟩, z0, z1, z2, z3, z4⟩ := HC.out wy HB.out
    have HQ0 := hid (HHL.out wy HB.out)
    go_wp2_with fail
    clear x0 x1 x2 x3 x4 z0 z1 z2 z3 z4
    refine HQ0.out.mono ?_
    rintro e wz ⟨rfl, hb⟩
    replace HB := hid (below_up HB.out hb)
    clear HQ0 hb
    go_wp2_with fail
    go_ret
    exact ⟨ret_bool (by simp), below_up HK.out HB.out⟩
end Go.Proofs.Ytjphnkjikemghaa
