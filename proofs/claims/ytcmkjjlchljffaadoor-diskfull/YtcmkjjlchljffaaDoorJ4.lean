/- Joined texts of the proof. -/
import Derived.Test.YtcmkjjlchljffaaDoorJ3
import Derived.Laws.MakeOwn
import Derived.Laws.BytesString
import Derived.Test.YtcmkjjlchljffaaDoorJ1
import Derived.Maps.OwnSet
import Derived.StringKeys
import Derived.Test.YtcmkjjlchljffaaDoorJ2
import Derived.LaidEqlPtr

/- DiskStops, given what the program's disk tells. -/
namespace Go.Proofs.YtcmkjjlchljffaaDoor
open Go.RowKit
set_option linter.unusedVariables false

set_option maxRecDepth 100000 in
set_option maxHeartbeats 12800000 in
theorem stops_of {U : Prop} {CD : CDT} (Fa : Face U CD) (p : Int) (aa : Option Addr) (c : Nat) (al : List AT) (w : World) (h : ActsIn w aa al) (hlc : al.length ≤ c) (hl : al.length ≤ 9223372036854775807) (hp : p ≤ 9223372036854775807) :
    Calls Tryd.prog 6 #[.slice aa al.length c, .int .i64 p] w fun r w' => r = .returned (.bool true) ∧ Below w.heap.size w w' := by
  have HA := hidU h
  obtain ⟨m, hm⟩ : ∃ m, Hid (m = al.length) := ⟨_, (rfl : al.length = _)⟩
  rw [← hm.out] at hlc hl ⊢
  clear h
  have H1 := hidU (awake_of Fa w)
  go_enter Tryd.func6, Tryd.ntmps6
  go_wp2_with (go_at_call 27; refine H1.out.mono ?_; rintro _ w1 ⟨rfl, hb1⟩; refine Hid.out ?_)
  refine hidU ?_
  have HB1 := hidU hb1
  have H2 := hidU (Fa.newOk (n := 20000) (w := w1) w.heap.size (by decide) (by decide) HB1.out.size)
  clear hb1 H1
  go_wp2_with (go_at_call 8; refine H2.out.mono ?_; rintro _ w2 ⟨ga, W1, F1, rfl, hc1, hb2, hn1⟩; refine Hid.out ?_)
  refine hidU ?_
  have HB2 := hidU (HB1.out.trans (hb2.mono HB1.out.size))
  have HC1 := hidU hc1
  have H3 := hidU (Fa.newOk (n := 20000) (w := w2) w.heap.size (by decide) (by decide) HB2.out.size)
  clear hc1 hb2 hn1 H2 HB1
  go_wp2_with (go_at_call 8; refine H3.out.mono ?_; rintro _ w3 ⟨gb, W2, F2, rfl, hc2, hb3, hn2⟩; refine Hid.out ?_)
  refine hidU ?_
  have HB3 := hidU (HB2.out.trans (hb3.mono HB2.out.size))
  have gd0 : Gd 0 ⟨20000, [], -1, 0⟩ := ⟨by decide, Nat.zero_le _, Nat.zero_le _, Int.le_refl _, by show (-1 : Int) ≤ _; omega, Nat.le_refl _, fun f h => (by cases h), List.Pairwise.nil⟩
  have HT3 : Hid (Two CD w.heap.size w3 ga gb 0 0 ⟨20000, [], -1, 0⟩ ⟨20000, [], -1, 0⟩) :=
    ⟨W1, F1, W2, F2, Fa.below HC1.out hb3, hc2, gd0, gd0, fun k q1 q2 => by have := Fa.lt HC1.out k q1; have := hn2 k q2; omega⟩
  clear hc2 hb3 hn2 gd0 H3 HC1 HB2
  by_cases hbig : 60 < m
  · go_wp2
    go_ret
    exact ⟨rfl, HB3.out⟩
  have hbigd : decide ((60 : Int) < (m : Int)) = false := decide_eq_false (by omega)
  by_cases hneg : p < 0
  · go_wp2
    go_ret
    exact ⟨rfl, HB3.out⟩
  have hnegd : decide (p < 0) = false := decide_eq_false hneg
  obtain ⟨S3, hs3, HU3⟩ := HT3.out.left Fa
  have H4 := hidU (hs3.stop Fa (z := p) (o := (⟨20000, [], p, 0⟩, 0)) HB3.out.size hp (by unfold stD stZ; rw [if_neg hneg, if_neg hneg]; rfl))
  have HU3 := hidU (fun (x' : World) (q1 : Sta CD w.heap.size x' ga 1 ⟨20000, [], p, 0⟩ S3) (q2 : Std S3 w3 x') (q3 : w3.heap.size ≤ x'.heap.size) => HU3 q1 q2 q3)
  clear hs3
  go_wp2_with (go_at_call 18; refine H4.out.mono ?_; rintro _ w4 ⟨rfl, hs4, hb4, hk4⟩; refine Hid.out ?_)
  refine hidU ?_
  have HT4 := hidU (HU3.out w4 hs4 hk4 hb4.size)
  have HB4 := hidU (HB3.out.trans hb4)
  clear hs4 hb4 hk4 H4 HT3 HB3 HU3 hbigd
  obtain ⟨S4, hs4, HU4⟩ := HT4.out.left Fa
  have H5 := hidU (plays_of Fa w.heap.size ga 1 ⟨20000, [], p, 0⟩ S4 aa c al w4 hs4 HB4.out.size (HA.out.row.same fun ad q => HB4.out.block _ (HA.out.bb ad q)) HA.out.bb (fun a ha => (HA.out.ins a ha).1.below HB4.out) (by rw [← hm.out]; exact hlc) (by rw [← hm.out]; omega))
  have HU4 := hidU (fun (x' : World) (n' : Nat) (D' : Dk) (q1 : Sta CD w.heap.size x' ga n' D' S4) (q2 : Std S4 w4 x') (q3 : w4.heap.size ≤ x'.heap.size) => HU4 q1 q2 q3)
  obtain ⟨R, hR⟩ : ∃ R, Hid (R = al.all fun a => plOk a.ac) := ⟨_, (rfl : _ = al.all fun a => plOk a.ac)⟩
  rw [← hR.out, ← hm.out] at H5
  clear hs4
  go_wp2_with (go_at_call 28; refine H5.out.mono ?_; rintro _ w5 ⟨rfl, hb5, hk5, hs5⟩; refine Hid.out ?_)
  refine hidU ?_
  have HB5 := hidU (HB4.out.trans hb5)
  have HT5 : Hid (R = true → Two CD w.heap.size w5 ga gb (1 + m) 0 (plD ⟨20000, [], p, 0⟩ al) ⟨20000, [], -1, 0⟩) := fun q => HU4.out w5 _ _ (hs5 q) hk5 hb5.size
  clear hb5 hk5 hs5 H5 HT4 HB4 HU4
  cases hq : R with
  | false =>
    subst hq
    clear HT5 hR
    go_wp2
    go_ret
    exact ⟨rfl, HB5.out⟩
  | true =>
  subst hq
  have HAll : Hid (∀ a ∈ al, plOk a.ac = true) := fun a ha => List.all_eq_true.1 hR.out.symm a ha
  have HT := hidU (HT5.out rfl)
  have HNm := hidU (nm_pl al (d := ⟨20000, [], p, 0⟩) HAll.out (fun f hf => by cases hf))
  have HSt := hidU (stops_at p al 20000 [] 0 (by show ((0 : Nat) : Int) ≤ p; omega) HAll.out)
  have HLf := hidU (pl_left p al 20000 [] 0 (by show ((0 : Nat) : Int) ≤ p; omega) HAll.out)
  rw [show p - ((0 : Nat) : Int) = p by omega] at HSt HLf
  obtain ⟨D, hD⟩ : ∃ D, D = plD ⟨20000, [], p, 0⟩ al := ⟨_, rfl⟩
  rw [← hD] at HT HNm HSt HLf
  have hnp : 0 ≤ p := by omega
  clear HT5 hR hD hneg hnegd
  go_wp2
  go_loopw [10] (fun j wr => ∃ i : Nat, j = .int .i64 (i : Int) ∧ i ≤ m ∧ Hid (Below w.heap.size w wr) ∧ Hid (∃ Db, Two CD w.heap.size wr ga gb (1 + m) i D Db ∧ stopAt p ⟨20000, [], -1, 0⟩ al = stopAt p Db (al.drop i))) (fun j _ => m - (intOf j).toNat)
  case atStart => exact ⟨0, rfl, by omega, HB5, ⟨⟨20000, [], -1, 0⟩, HT.out, rfl⟩⟩
  case round =>
    obtain ⟨i, rfl, hi, hB, hT⟩ := hrel
    obtain ⟨Db, hTw, hE⟩ := hT.out
    have HT' := hidU hTw
    have HE := hidU hE
    have HWr := hidU (hTw.two.writes Fa rfl)
    obtain ⟨wb, hwb⟩ : ∃ x, Hid (x = Db.wr) := ⟨_, (rfl : Db.wr = _)⟩
    rw [← hwb.out] at HWr
    clear hT hTw hE HB5
    have FIN : ∀ x : World, Hid (Below w.heap.size w x) → Hid (Two CD w.heap.size x ga gb (1 + m) i D Db) → stopAt p ⟨20000, [], -1, 0⟩ al = Db → Hid (Below w.heap.size w x ∧ ∃ n', n' ≤ 60 ∧ Two CD w.heap.size x ga gb (1 + m) n' D Db ∧ D.fs = Db.fs ∧ D.wr = Db.wr) := fun x q1 q2 q3 => by
      have := HSt.out
      rw [q3] at this
      exact ⟨q1.out, i, by omega, q2.out, this.1, this.2⟩
    have FIN := hidU FIN
    by_cases hc : i < m
    · by_cases hw : (wb : Int) < p
      · obtain ⟨a, ha⟩ : ∃ a, al[i]? = some a := ⟨_, List.getElem?_eq_getElem (by rw [← hm.out]; exact hc)⟩
        have hEn : stopAt p ⟨20000, [], -1, 0⟩ al = stopAt p (acD Db a.ac) (al.drop (i + 1)) := by rw [HE.out]; exact stopAt_on ha (by rw [← hwb.out]; exact hw)
        have HEn := hidU hEn
        have HIn := hidU (HA.out.ins a (List.mem_of_getElem? ha))
        have HOk := hidU (HAll.out a (List.mem_of_getElem? ha))
        have hsl := fun w => run_slice22 w aa m c i ((i : Int) + 1) rfl (by omega)
        have HOne : Hid (∀ x, Below w.heap.size w x → RowX eA x (aa.map (·.add (i * 6))) [a] ∧ ∀ ad, aa.map (·.add (i * 6)) = some ad → ad.block < w.heap.size) := fun x hx => by
          obtain ⟨q1, q2⟩ := (HA.out.row.same fun ad q => hx.block _ (HA.out.bb ad q)).one ha
          exact ⟨q1, fun ad q => by obtain ⟨a0, q3, q4⟩ := q2 ad q; rw [q4]; exact HA.out.bb a0 q3⟩
        obtain ⟨ai, hai⟩ : ∃ x, x = aa.map (·.add (i * 6)) := ⟨_, rfl⟩
        rw [← hai] at hsl HOne
        clear hai hEn ha FIN
        go_wp2_with (go_at_call 25; refine HWr.out.mono ?_; rintro _ x1 ⟨rfl, hbx⟩; refine Hid.out ?_)
        refine hidU ?_
        have HB1 := hidU (hB.out.trans (hbx.mono hB.out.size))
        have HT1 := hidU (HT'.out.below Fa hbx)
        clear hbx HWr
        obtain ⟨S1, hs1, HU1⟩ := HT1.out.symm.left Fa
        have H6 := hidU (plays_of Fa w.heap.size gb i Db S1 ai (c - i) [a] x1 hs1 HB1.out.size (HOne.out x1 HB1.out).1 (HOne.out x1 HB1.out).2 (fun b hb => by rw [List.mem_singleton.1 hb]; exact HIn.out.1.below HB1.out) (by show 1 ≤ c - i; omega) (by show i + 1 ≤ _; omega))
        have HU1 := hidU (fun (x' : World) (n' : Nat) (D' : Dk) (q1 : Sta CD w.heap.size x' gb n' D' S1) (q2 : Std S1 x1 x') (q3 : x1.heap.size ≤ x'.heap.size) => HU1 q1 q2 q3)
        rw [show ([a].all fun a => plOk a.ac) = true by rw [List.all_cons, HOk.out]; rfl] at H6
        clear hs1
        go_wp2_with (go_at_call 28; refine H6.out.mono ?_; rintro _ x2 ⟨rfl, hb2, hk2, hs2⟩; refine Hid.out ?_)
        refine hidU ?_
        have HB2 := hidU (HB1.out.trans hb2)
        have HT2 : Hid (Two CD w.heap.size x2 ga gb (1 + m) (i + 1) D (acD Db a.ac)) := (HU1.out x2 _ _ (hs2 trivial) hk2 hb2.size).symm
        clear hb2 hk2 hs2 H6 HU1 HT1 HB1
        go_wp2
        go_roundw
        · exact ⟨i + 1, by go_num, by omega, HB2, ⟨acD Db a.ac, HT2.out, HEn.out⟩⟩
        · simp [intOf]; omega
      · have HD := hidU (FIN.out)
        have hwn := hidU hw
        go_wp2_with (go_at_call 25; refine HWr.out.mono ?_; rintro _ x1 ⟨rfl, hbx⟩; refine Hid.out ?_)
        refine hidU ?_
        have HF := hidU (HD.out x1 (hidU (hB.out.trans (hbx.mono hB.out.size))) (hidU (HT'.out.below Fa hbx)) (by rw [HE.out]; exact stopAt_off _ (by rw [← hwb.out]; have := hwn.out; omega))).out
        clear hbx HWr HD FIN hB HT'
        obtain ⟨HBf, n', hn', hTw, hfs, hwr⟩ := HF.out
        have HB6 := hidU HBf
        have HT6 := hidU hTw
        have HFs := hidU hfs
        have HWe := hidU hwr
        clear HBf hTw hfs hwr HF
        have H7 := hidU (HT6.out.one.names Fa (ns := D.fs.map Fi.nm) (by omega) rfl)
        have H8 : Hid (∀ x, Below x1.heap.size x1 x → Calls Tryd.prog 20 #[.pointer (some ⟨gb, 0, none⟩)] x fun r w' => ∃ a c, r = .returned (.slice a (D.fs.map Fi.nm).length c) ∧ RowX eS w' a (D.fs.map Fi.nm) ∧ (D.fs.map Fi.nm).length ≤ c ∧ Below x.heap.size x w') := fun x hx => (HT6.out.below Fa hx).two.names Fa (ns := D.fs.map Fi.nm) (by omega) (by rw [HFs.out])
        obtain ⟨ns, hns⟩ : ∃ x, Hid (x = D.fs.map Fi.nm) := ⟨_, (rfl : D.fs.map Fi.nm = _)⟩
        rw [← hns.out] at H7 H8
        obtain ⟨k, hk⟩ : ∃ k, Hid (k = ns.length) := ⟨_, (rfl : ns.length = _)⟩
        rw [← hk.out] at H7 H8
        go_wp2_with (go_at_call 20; refine H7.out.mono ?_; rintro _ w7 ⟨la, lc, rfl, hrow, hlk, hb7⟩; refine Hid.out ?_)
        refine hidU ?_
        have HT7 := hidU (HT6.out.below Fa hb7)
        have HB7 := hidU (HB6.out.trans (hb7.mono HB6.out.size))
        have HR7 := hidU hrow
        have H9 := hidU (H8.out w7 hb7)
        clear hb7 hrow H7 H8 HT6 HB6
        go_wp2_with (go_at_call 20; refine H9.out.mono ?_; rintro _ w8 ⟨lb, lcb, rfl, hrow, hlkb, hb8⟩; refine Hid.out ?_)
        refine hidU ?_
        have HT8 := hidU (HT7.out.below Fa hb8)
        have HB8 := hidU (HB7.out.trans (hb8.mono HB7.out.size))
        have HR8 := hidU (HR7.out.below hb8)
        have HQ8 := hidU hrow
        clear hb8 hrow H9 HT7 HB7 HR7
        obtain ⟨wa, hwa⟩ : ∃ x, Hid (x = D.wr) := ⟨_, (rfl : D.wr = _)⟩
        have H10 := hidU (HT8.out.one.writes Fa (v := (wa : Int)) (by rw [hwa.out]))
        go_wp2_with (go_at_call 25; refine H10.out.mono ?_; rintro _ w9 ⟨rfl, hb9⟩; refine Hid.out ?_)
        refine hidU ?_
        have HT9 := hidU (HT8.out.below Fa hb9)
        have HB9 := hidU (HB8.out.trans (hb9.mono HB8.out.size))
        have HR9 := hidU (HR8.out.below hb9)
        have HQ9 := hidU (HQ8.out.below hb9)
        clear hb9 H10 HT8 HB8 HR8 HQ8
        have H11 := hidU (HT9.out.two.writes Fa (v := (wa : Int)) (by rw [hwa.out, HWe.out]))
        go_wp2_with (go_at_call 25; refine H11.out.mono ?_; rintro _ w10 ⟨rfl, hb9⟩; refine Hid.out ?_)
        refine hidU ?_
        have HT10 := hidU (HT9.out.below Fa hb9)
        have HB10 := hidU (HB9.out.trans (hb9.mono HB9.out.size))
        have HR10 := hidU (HR9.out.below hb9)
        have HQ10 := hidU (HQ9.out.below hb9)
        clear hb9 H11 HT9 HB9 HR9 HQ9
        have hk256 : k ≤ 256 := by rw [hk.out, hns.out, List.length_map]; obtain ⟨_, _, _, _, _, _, q, _⟩ := HT10.out; exact q.ln
        have H12 := hidU (sameTexts_any ns ns la lb lc lcb w10 HR10.out HQ10.out (by rw [← hk.out]; exact hlk) (by rw [← hk.out]; exact hlkb) (by rw [← hk.out]; omega) (by rw [← hk.out]; omega))
        rw [show sameS ns ns = true by simp [sameS], ← hk.out] at H12
        go_wp2_with (go_at_call 30; refine H12.out.mono ?_; rintro _ w11 ⟨rfl, hb9, _⟩; refine Hid.out ?_)
        refine hidU ?_
        have HT11 := hidU (HT10.out.below Fa hb9)
        have HB11 := hidU (HB10.out.trans (hb9.mono HB10.out.size))
        have HR11 := hidU (HR10.out.below hb9)
        clear hb9 H12 HT10 HB10 HR10 HQ10
        go_wp2
        go_loopw [13] (fun j wr => ∃ i : Nat, j = .int .i64 (i : Int) ∧ i ≤ k ∧ Hid (Below w11.heap.size w11 wr)) (fun j _ => k - (intOf j).toNat)
        case atStart => exact ⟨0, rfl, by omega, Below.refl _ _⟩
        case round =>
          obtain ⟨i, rfl, hi, hB⟩ := hrel
          by_cases hc : i < k
          · obtain ⟨f, hf⟩ : ∃ f, D.fs[i]? = some f := ⟨_, List.getElem?_eq_getElem (by rw [hk.out, hns.out, List.length_map] at hc; exact hc)⟩
            have hni : ns[i]? = some f.nm := by rw [hns.out, List.getElem?_map, hf]; rfl
            have hmem : f ∈ D.fs := List.mem_of_getElem? hf
            obtain ⟨gd, gdb⟩ : Gd (1 + m) D ∧ Gd n' Db := by obtain ⟨_, _, _, _, _, _, q, q', _⟩ := HT11.out; exact ⟨q, q'⟩
            have hlen : f.bs.length ≤ 67108864 := Nat.le_trans (mem_used hmem) (Nat.le_trans gd.us gd.sz)
            have HNz : Hid (f.nm.size ≤ 9223372036854775807) := Nat.le_trans (nmOk_size (HNm.out f hmem)) (by decide)
            obtain ⟨q1, q2, q3⟩ := rd_yes (find_self gd.so.apart f hmem)
            obtain ⟨q4, q5, q6⟩ := rd_yes (d := Db) (nm := f.nm) (f := f) (by rw [← HFs.out]; exact find_self gd.so.apart f hmem)
            obtain ⟨lg, lo, rfl, cl⟩ := row_cell (HR11.out.below hB.out) hni
            have HNi := hidU hni
            have Hr1 := hidU ((HT11.out.below Fa hB.out).one.read Fa (by omega) HNz.out q1 q2)
            have Hr2 : Hid (∀ x, Below wr.heap.size wr x → Calls Tryd.prog 13 #[.pointer (some ⟨gb, 0, none⟩), .string f.nm] x fun r w' => ∃ a c, r = .returned (.tuple #[.slice a f.bs.length c, .int .i64 0]) ∧ Row w' a f.bs ∧ f.bs.length ≤ c ∧ Below x.heap.size x w') := fun x hx =>
              ((HT11.out.below Fa (hB.out.trans (hx.mono hB.out.size))).two.read Fa (by omega) HNz.out q4 q5).mono fun r w' => by rintro ⟨a, c, e1, e2, e3, e4, _⟩; exact ⟨a, c, e1, e2, e3, e4⟩
            obtain ⟨v, hv⟩ : ∃ v : Int, Hid (v = (f.bs.length : Int) - f.sf) := ⟨_, (rfl : (f.bs.length : Int) - f.sf = _)⟩
            have HL1 : Hid (∀ x, Below w11.heap.size w11 x → Calls Tryd.prog 23 #[.pointer (some ⟨ga, 0, none⟩), .string f.nm] x fun r w' => r = .returned (.int .i64 v) ∧ Below x.heap.size x w') := fun x hx =>
              (HT11.out.below Fa hx).one.loose Fa (by omega) HNz.out (by rw [q3, hv.out])
            have HL2 : Hid (∀ x, Below w11.heap.size w11 x → Calls Tryd.prog 23 #[.pointer (some ⟨gb, 0, none⟩), .string f.nm] x fun r w' => r = .returned (.int .i64 v) ∧ Below x.heap.size x w') := fun x hx =>
              (HT11.out.below Fa hx).two.loose Fa (by omega) HNz.out (by rw [q6, hv.out])
            have HCl : Hid (∀ x, Below w11.heap.size w11 x → x.cell? ⟨lg, lo + i, none⟩ = some (.string f.nm)) := fun x hx => by
              obtain ⟨g', o', e, q⟩ := row_cell (HR11.out.below hx) HNi.out
              cases e
              exact q
            obtain ⟨bn, hbn⟩ : ∃ x, Hid (x = f.bs.length) := ⟨_, (rfl : f.bs.length = _)⟩
            obtain ⟨nm, hnm⟩ : ∃ x, Hid (x = f.nm) := ⟨_, (rfl : f.nm = _)⟩
            rw [← hbn.out] at hlen
            rw [← hbn.out, ← hnm.out] at Hr1 Hr2
            rw [← hnm.out] at cl HL1 HL2 HCl
            clear hf hni hmem q1 q2 q3 q4 q5 q6 gd gdb
            go_wp2_with (go_at_call 13; refine Hr1.out.mono ?_; rintro _ x1 ⟨ca, cc, rfl, hrb, hcc, hbx, _⟩; refine Hid.out ?_)
            refine hidU ?_
            have HB1 := hidU (hB.out.trans (hbx.mono hB.out.size))
            have HRc := hidU hrb
            have Hr3 := hidU (Hr2.out x1 hbx)
            have cl1 := HCl.out x1 HB1.out
            clear hbx hrb Hr1 Hr2 cl
            go_wp2_with (go_at_call 13; refine Hr3.out.mono ?_; rintro _ x2 ⟨da, dc, rfl, hrd, hdc, hbx⟩; refine Hid.out ?_)
            refine hidU ?_
            have HB2 := hidU (HB1.out.trans (hbx.mono HB1.out.size))
            have HRd := hidU hrd
            have HRc2 := hidU (HRc.out.below hbx)
            clear hbx hrd Hr3 cl1 HRc
            have HSb : Hid (∀ x, Below x2.heap.size x2 x → Calls Tryd.prog 31 #[.slice ca bn cc, .slice da bn dc] x fun r w' => r = .returned (.bool true) ∧ Below x.heap.size x w') := fun x hx => by
              have q := same_len ca da bn bn cc dc f.bs f.bs x (HRc2.out.below hx) (HRd.out.below hx) hbn.out.symm hbn.out.symm
              rw [show (f.bs == f.bs) = true from beq_self_eq_true _] at q
              exact q.mono fun r w' => by rintro ⟨e1, rfl⟩; exact ⟨e1, Below.refl _ _⟩
            have HLa : Hid (∀ x, Below x2.heap.size x2 x → Calls Tryd.prog 23 #[.pointer (some ⟨ga, 0, none⟩), .string nm] x fun r w' => r = .returned (.int .i64 v) ∧ Below x.heap.size x w') := fun x hx => HL1.out x (HB2.out.trans (hx.mono HB2.out.size))
            have HLb : Hid (∀ x, Below x2.heap.size x2 x → Calls Tryd.prog 23 #[.pointer (some ⟨gb, 0, none⟩), .string nm] x fun r w' => r = .returned (.int .i64 v) ∧ Below x.heap.size x w') := fun x hx => HL2.out x (HB2.out.trans (hx.mono HB2.out.size))
            have HCl0 := HCl
            clear HCl
            have HCl : Hid (∀ x, Below x2.heap.size x2 x → x.cell? ⟨lg, lo + i, none⟩ = some (.string nm)) := fun x hx => HCl0.out x (HB2.out.trans (hx.mono HB2.out.size))
            clear HCl0 HL1 HL2
            go_wp2
            have hS0a : Below x2.heap.size x2 x2.drew := Below.drew (Below.refl _ _)
            refine wp_region_held_drew (S := fun xS => Below x2.heap.size x2 xS) (by kernel_rfl) hS0a ?_
            obtain ⟨x0a, hx0⟩ : ∃ x, x = x2.drew := ⟨_, rfl⟩
            rw [← hx0] at hS0a  ⊢
            clear hx0
            intro _
            refine wpAnyH_take (i := 0) (oi := { dst := some 115, op := .move (.tmp 14), type := _, pos := _, after := _, guard := none }) (v := .slice ca bn cc) rfl (by kernel_rfl) (by kernel_rfl) (by kernel_rfl) (fun _ _ _ h => h) (Or.inl ⟨by rfl, ?_⟩) hS0a ?_
            · intro wS hSw
              go_simp
            simp only [Act.put, List.setIfInBounds_toArray, List.set_cons_zero, List.set_cons_succ]
            refine wpAnyH_take (i := 1) (oi := { dst := some 116, op := .move (.tmp 16), type := _, pos := _, after := _, guard := none }) (v := .slice da bn dc) rfl (by kernel_rfl) (by kernel_rfl) (by kernel_rfl) (fun _ _ _ h => h) (Or.inl ⟨by rfl, ?_⟩) hS0a ?_
            · intro wS hSw
              go_simp
            simp only [Act.put, List.setIfInBounds_toArray, List.set_cons_zero, List.set_cons_succ]
            refine wpAnyH_ready (rs := [2]) (by kernel_rfl) (by simp) ?_
            refine AllReadyH.cons (o := { dst := some 117, op := .call { callee := .value (.func 31), args := #[.tmp 115, .tmp 116], argTypes := #[29, 29] }, type := _, pos := _, after := _, guard := none }) rfl (fun K hK => ?_) AllReadyH.nil
            rw [if_pos (by rfl)]
            have sv1a := hS0a.size
            go_wp2_with (go_at_call 31; refine (HSb.out x0a hS0a).mono ?_; rintro e x1a ⟨rfl, hb1a⟩)
            have sz1a := hb1a.size
            have hS1a := hS0a.trans (hb1a.mono hS0a.size)
            refine hK.out _ _ hS1a (fun _ => ?_)
            clear hK K
            refine wpAnyH_take (i := 3) (oi := { dst := some 118, op := .unOp .not 4 (.tmp 117), type := _, pos := _, after := _, guard := none }) (v := .bool false) rfl (by kernel_rfl) (by kernel_rfl) (by kernel_rfl) (fun _ _ _ h => h) (Or.inl ⟨by rfl, ?_⟩) hS1a ?_
            · intro wS hSw
              go_simp
            simp only [Act.put, List.setIfInBounds_toArray, List.set_cons_zero, List.set_cons_succ]
            refine wpAnyH_take (i := 4) (oi := { dst := some 119, op := .move (.tmp 118), type := _, pos := _, after := _, guard := none }) (v := .bool false) rfl (by kernel_rfl) (by kernel_rfl) (by kernel_rfl) (fun _ _ _ h => h) (Or.inl ⟨by rfl, ?_⟩) hS1a ?_
            · intro wS hSw
              go_simp
            simp only [Act.put, List.setIfInBounds_toArray, List.set_cons_zero, List.set_cons_succ]
            refine wpAnyH_take (i := 5) (oi := { dst := some 120, op := .move (.tmp 6), type := _, pos := _, after := _, guard := some (4, false) }) (v := .pointer (some ⟨ga, 0, none⟩)) rfl (by kernel_rfl) (by kernel_rfl) (by kernel_rfl) (fun _ _ _ h => h) (Or.inl ⟨by rfl, ?_⟩) hS1a ?_
            · intro wS hSw
              go_simp
            simp only [Act.put, List.setIfInBounds_toArray, List.set_cons_zero, List.set_cons_succ]
            refine wpAnyH_take (i := 6) (oi := { dst := some 121, op := .move (.tmp 11), type := _, pos := _, after := _, guard := some (4, false) }) (v := .slice (some ⟨lg, lo, none⟩) k lc) rfl (by kernel_rfl) (by kernel_rfl) (by kernel_rfl) (fun _ _ _ h => h) (Or.inl ⟨by rfl, ?_⟩) hS1a ?_
            · intro wS hSw
              go_simp
            simp only [Act.put, List.setIfInBounds_toArray, List.set_cons_zero, List.set_cons_succ]
            refine wpAnyH_take (i := 7) (oi := { dst := some 122, op := .move (.tmp 13), type := _, pos := _, after := _, guard := some (4, false) }) (v := .int .i64 (i : Int)) rfl (by kernel_rfl) (by kernel_rfl) (by kernel_rfl) (fun _ _ _ h => h) (Or.inl ⟨by rfl, ?_⟩) hS1a ?_
            · intro wS hSw
              go_simp
            simp only [Act.put, List.setIfInBounds_toArray, List.set_cons_zero, List.set_cons_succ]
            refine wpAnyH_take (i := 8) (oi := { dst := some 123, op := .indexAddr 44 (.tmp 121) (.tmp 122), type := _, pos := _, after := _, guard := some (4, false) }) (v := .pointer (some ⟨lg, lo + i, none⟩)) rfl (by kernel_rfl) (by kernel_rfl) (by kernel_rfl) (fun _ _ _ h => h) (Or.inl ⟨by rfl, ?_⟩) hS1a ?_
            · intro wS hSw
              go_simp
            simp only [Act.put, List.setIfInBounds_toArray, List.set_cons_zero, List.set_cons_succ]
            refine wpAnyH_take (i := 9) (oi := { dst := some 124, op := .load 9 (.tmp 123), type := _, pos := _, after := _, guard := some (4, false) }) (v := .string nm) rfl (by kernel_rfl) (by kernel_rfl) (by kernel_rfl) (fun _ _ _ h => h) (Or.inl ⟨by rfl, ?_⟩) hS1a ?_
            · intro wS hSw
              have zc := HCl.out wS hSw; go_simp
            simp only [Act.put, List.setIfInBounds_toArray, List.set_cons_zero, List.set_cons_succ]
            refine wpAnyH_take (i := 11) (oi := { dst := some 126, op := .move (.tmp 8), type := _, pos := _, after := _, guard := some (4, false) }) (v := .pointer (some ⟨gb, 0, none⟩)) rfl (by kernel_rfl) (by kernel_rfl) (by kernel_rfl) (fun _ _ _ h => h) (Or.inl ⟨by rfl, ?_⟩) hS1a ?_
            · intro wS hSw
              go_simp
            simp only [Act.put, List.setIfInBounds_toArray, List.set_cons_zero, List.set_cons_succ]
            refine wpAnyH_take (i := 12) (oi := { dst := some 127, op := .move (.tmp 11), type := _, pos := _, after := _, guard := some (4, false) }) (v := .slice (some ⟨lg, lo, none⟩) k lc) rfl (by kernel_rfl) (by kernel_rfl) (by kernel_rfl) (fun _ _ _ h => h) (Or.inl ⟨by rfl, ?_⟩) hS1a ?_
            · intro wS hSw
              go_simp
            simp only [Act.put, List.setIfInBounds_toArray, List.set_cons_zero, List.set_cons_succ]
            refine wpAnyH_take (i := 13) (oi := { dst := some 128, op := .move (.tmp 13), type := _, pos := _, after := _, guard := some (4, false) }) (v := .int .i64 (i : Int)) rfl (by kernel_rfl) (by kernel_rfl) (by kernel_rfl) (fun _ _ _ h => h) (Or.inl ⟨by rfl, ?_⟩) hS1a ?_
            · intro wS hSw
              go_simp
            simp only [Act.put, List.setIfInBounds_toArray, List.set_cons_zero, List.set_cons_succ]
            refine wpAnyH_take (i := 14) (oi := { dst := some 129, op := .indexAddr 44 (.tmp 127) (.tmp 128), type := _, pos := _, after := _, guard := some (4, false) }) (v := .pointer (some ⟨lg, lo + i, none⟩)) rfl (by kernel_rfl) (by kernel_rfl) (by kernel_rfl) (fun _ _ _ h => h) (Or.inl ⟨by rfl, ?_⟩) hS1a ?_
            · intro wS hSw
              go_simp
            simp only [Act.put, List.setIfInBounds_toArray, List.set_cons_zero, List.set_cons_succ]
            refine wpAnyH_take (i := 15) (oi := { dst := some 130, op := .load 9 (.tmp 129), type := _, pos := _, after := _, guard := some (4, false) }) (v := .string nm) rfl (by kernel_rfl) (by kernel_rfl) (by kernel_rfl) (fun _ _ _ h => h) (Or.inl ⟨by rfl, ?_⟩) hS1a ?_
            · intro wS hSw
              have zc := HCl.out wS hSw; go_simp
            simp only [Act.put, List.setIfInBounds_toArray, List.set_cons_zero, List.set_cons_succ]
            refine wpAnyH_ready (rs := [10]) (by kernel_rfl) (by simp) ?_
            refine AllReadyH.cons (o := { dst := some 125, op := .call { callee := .value (.func 23), args := #[.tmp 120, .tmp 124], argTypes := #[22, 9] }, type := _, pos := _, after := _, guard := some (4, false) }) rfl (fun K hK => ?_) AllReadyH.nil
            rw [if_pos (by rfl)]
            have sv2a := hS1a.size
            go_wp2_with (go_at_call 23; refine (HLa.out x1a hS1a).mono ?_; rintro e x2a ⟨rfl, hb2a⟩)
            have sz2a := hb2a.size
            have hS2a := hS1a.trans (hb2a.mono hS1a.size)
            refine hK.out _ _ hS2a (fun _ => ?_)
            clear hK K
            refine wpAnyH_ready (rs := [16]) (by kernel_rfl) (by simp) ?_
            refine AllReadyH.cons (o := { dst := some 131, op := .call { callee := .value (.func 23), args := #[.tmp 126, .tmp 130], argTypes := #[22, 9] }, type := _, pos := _, after := _, guard := some (4, false) }) rfl (fun K hK => ?_) AllReadyH.nil
            rw [if_pos (by rfl)]
            have sv3a := hS2a.size
            go_wp2_with (go_at_call 23; refine (HLb.out x2a hS2a).mono ?_; rintro e x3a ⟨rfl, hb3a⟩)
            have sz3a := hb3a.size
            have hS3a := hS2a.trans (hb3a.mono hS2a.size)
            refine hK.out _ _ hS3a (fun _ => ?_)
            clear hK K
            refine wpAnyH_take (i := 17) (oi := { dst := some 132, op := .binOp .neq 3 (.tmp 125) (.tmp 131) 3, type := _, pos := _, after := _, guard := some (4, false) }) (v := .bool false) rfl (by kernel_rfl) (by kernel_rfl) (by kernel_rfl) (fun _ _ _ h => h) (Or.inl ⟨by rfl, ?_⟩) hS3a ?_
            · intro wS hSw
              go_simp
            simp only [Act.put, List.setIfInBounds_toArray, List.set_cons_zero, List.set_cons_succ]
            refine wpAnyH_take (i := 18) (oi := { dst := some 133, op := .pick (.tmp 119) (.const (.bool true)) (.tmp 132), type := _, pos := _, after := _, guard := none }) (v := .bool false) rfl (by kernel_rfl) (by kernel_rfl) (by kernel_rfl) (fun _ _ _ h => h) (Or.inl ⟨by rfl, ?_⟩) hS3a ?_
            · intro wS hSw
              go_simp
            simp only [Act.put, List.setIfInBounds_toArray, List.set_cons_zero, List.set_cons_succ]
            refine wpAnyH_done (by kernel_rfl) ?_ _
            have HBn := hidU (HB2.out.trans (hS3a.mono HB2.out.size))
            go_wp2
            go_roundw
            · exact ⟨i + 1, by go_num, by omega, HBn⟩
            · simp [intOf]; omega
          · have HTw := hidU (HT11.out.below Fa hB.out)
            have HBw := hidU (HB11.out.trans (hB.out.mono HB11.out.size))
            obtain ⟨sb, hsb⟩ : ∃ x : Bool, Hid (x = (D.lf == 0)) := ⟨_, (rfl : (D.lf == 0) = _)⟩
            have hss : sb = ((wa : Int) == p) := by
              rw [hsb.out, hwa.out, Bool.eq_iff_iff, beq_iff_eq, beq_iff_eq]
              have := HLf.out.1
              constructor <;> intro q <;> omega
            have H13 := hidU (HTw.out.one.stopped Fa hsb.out.symm)
            have HSe := hidU hss
            clear hss
            go_wp2_with (go_at_call 24; refine H13.out.mono ?_; rintro _ x1 ⟨rfl, hbx⟩; refine Hid.out ?_)
            refine hidU ?_
            have HB1 := hidU (HBw.out.trans (hbx.mono HBw.out.size))
            have H14 := hidU ((HTw.out.below Fa hbx).one.writes Fa (v := (wa : Int)) (by rw [hwa.out]))
            clear hbx H13
            go_wp2_with (go_at_call 25; refine H14.out.mono ?_; rintro _ x2 ⟨rfl, hbx⟩; refine Hid.out ?_)
            refine hidU ?_
            have HB2 := hidU (HB1.out.trans (hbx.mono HB1.out.size))
            have hss := HSe.out
            clear hbx H14
            go_wp2
            go_ret
            exact ⟨by rw [hss]; simp, HB2.out⟩
    · have HF := hidU (FIN.out wr hB HT' (by rw [HE.out, List.drop_of_length_le (by rw [← hm.out]; omega)]; rfl)).out
      clear HWr FIN hB HT'
      obtain ⟨HBf, n', hn', hTw, hfs, hwr⟩ := HF.out
      have HB6 := hidU HBf
      have HT6 := hidU hTw
      have HFs := hidU hfs
      have HWe := hidU hwr
      clear HBf hTw hfs hwr HF
      have H7 := hidU (HT6.out.one.names Fa (ns := D.fs.map Fi.nm) (by omega) rfl)
      have H8 : Hid (∀ x, Below wr.heap.size wr x → Calls Tryd.prog 20 #[.pointer (some ⟨gb, 0, none⟩)] x fun r w' => ∃ a c, r = .returned (.slice a (D.fs.map Fi.nm).length c) ∧ RowX eS w' a (D.fs.map Fi.nm) ∧ (D.fs.map Fi.nm).length ≤ c ∧ Below x.heap.size x w') := fun x hx => (HT6.out.below Fa hx).two.names Fa (ns := D.fs.map Fi.nm) (by omega) (by rw [HFs.out])
      obtain ⟨ns, hns⟩ : ∃ x, Hid (x = D.fs.map Fi.nm) := ⟨_, (rfl : D.fs.map Fi.nm = _)⟩
      rw [← hns.out] at H7 H8
      obtain ⟨k, hk⟩ : ∃ k, Hid (k = ns.length) := ⟨_, (rfl : ns.length = _)⟩
      rw [← hk.out] at H7 H8
      go_wp2_with (go_at_call 20; refine H7.out.mono ?_; rintro _ w7 ⟨la, lc, rfl, hrow, hlk, hb7⟩; refine Hid.out ?_)
      refine hidU ?_
      have HT7 := hidU (HT6.out.below Fa hb7)
      have HB7 := hidU (HB6.out.trans (hb7.mono HB6.out.size))
      have HR7 := hidU hrow
      have H9 := hidU (H8.out w7 hb7)
      clear hb7 hrow H7 H8 HT6 HB6
      go_wp2_with (go_at_call 20; refine H9.out.mono ?_; rintro _ w8 ⟨lb, lcb, rfl, hrow, hlkb, hb8⟩; refine Hid.out ?_)
      refine hidU ?_
      have HT8 := hidU (HT7.out.below Fa hb8)
      have HB8 := hidU (HB7.out.trans (hb8.mono HB7.out.size))
      have HR8 := hidU (HR7.out.below hb8)
      have HQ8 := hidU hrow
      clear hb8 hrow H9 HT7 HB7 HR7
      obtain ⟨wa, hwa⟩ : ∃ x, Hid (x = D.wr) := ⟨_, (rfl : D.wr = _)⟩
      have H10 := hidU (HT8.out.one.writes Fa (v := (wa : Int)) (by rw [hwa.out]))
      go_wp2_with (go_at_call 25; refine H10.out.mono ?_; rintro _ w9 ⟨rfl, hb9⟩; refine Hid.out ?_)
      refine hidU ?_
      have HT9 := hidU (HT8.out.below Fa hb9)
      have HB9 := hidU (HB8.out.trans (hb9.mono HB8.out.size))
      have HR9 := hidU (HR8.out.below hb9)
      have HQ9 := hidU (HQ8.out.below hb9)
      clear hb9 H10 HT8 HB8 HR8 HQ8
      have H11 := hidU (HT9.out.two.writes Fa (v := (wa : Int)) (by rw [hwa.out, HWe.out]))
      go_wp2_with (go_at_call 25; refine H11.out.mono ?_; rintro _ w10 ⟨rfl, hb9⟩; refine Hid.out ?_)
      refine hidU ?_
      have HT10 := hidU (HT9.out.below Fa hb9)
      have HB10 := hidU (HB9.out.trans (hb9.mono HB9.out.size))
      have HR10 := hidU (HR9.out.below hb9)
      have HQ10 := hidU (HQ9.out.below hb9)
      clear hb9 H11 HT9 HB9 HR9 HQ9
      have hk256 : k ≤ 256 := by rw [hk.out, hns.out, List.length_map]; obtain ⟨_, _, _, _, _, _, q, _⟩ := HT10.out; exact q.ln
      have H12 := hidU (sameTexts_any ns ns la lb lc lcb w10 HR10.out HQ10.out (by rw [← hk.out]; exact hlk) (by rw [← hk.out]; exact hlkb) (by rw [← hk.out]; omega) (by rw [← hk.out]; omega))
      rw [show sameS ns ns = true by simp [sameS], ← hk.out] at H12
      go_wp2_with (go_at_call 30; refine H12.out.mono ?_; rintro _ w11 ⟨rfl, hb9, _⟩; refine Hid.out ?_)
      refine hidU ?_
      have HT11 := hidU (HT10.out.below Fa hb9)
      have HB11 := hidU (HB10.out.trans (hb9.mono HB10.out.size))
      have HR11 := hidU (HR10.out.below hb9)
      clear hb9 H12 HT10 HB10 HR10 HQ10
      go_wp2
      go_loopw [13] (fun j wr => ∃ i : Nat, j = .int .i64 (i : Int) ∧ i ≤ k ∧ Hid (Below w11.heap.size w11 wr)) (fun j _ => k - (intOf j).toNat)
      case atStart => exact ⟨0, rfl, by omega, Below.refl _ _⟩
      case round =>
        obtain ⟨i, rfl, hi, hB⟩ := hrel
        by_cases hc : i < k
        · obtain ⟨f, hf⟩ : ∃ f, D.fs[i]? = some f := ⟨_, List.getElem?_eq_getElem (by rw [hk.out, hns.out, List.length_map] at hc; exact hc)⟩
          have hni : ns[i]? = some f.nm := by rw [hns.out, List.getElem?_map, hf]; rfl
          have hmem : f ∈ D.fs := List.mem_of_getElem? hf
          obtain ⟨gd, gdb⟩ : Gd (1 + m) D ∧ Gd n' Db := by obtain ⟨_, _, _, _, _, _, q, q', _⟩ := HT11.out; exact ⟨q, q'⟩
          have hlen : f.bs.length ≤ 67108864 := Nat.le_trans (mem_used hmem) (Nat.le_trans gd.us gd.sz)
          have HNz : Hid (f.nm.size ≤ 9223372036854775807) := Nat.le_trans (nmOk_size (HNm.out f hmem)) (by decide)
          obtain ⟨q1, q2, q3⟩ := rd_yes (find_self gd.so.apart f hmem)
          obtain ⟨q4, q5, q6⟩ := rd_yes (d := Db) (nm := f.nm) (f := f) (by rw [← HFs.out]; exact find_self gd.so.apart f hmem)
          obtain ⟨lg, lo, rfl, cl⟩ := row_cell (HR11.out.below hB.out) hni
          have HNi := hidU hni
          have Hr1 := hidU ((HT11.out.below Fa hB.out).one.read Fa (by omega) HNz.out q1 q2)
          have Hr2 : Hid (∀ x, Below wr.heap.size wr x → Calls Tryd.prog 13 #[.pointer (some ⟨gb, 0, none⟩), .string f.nm] x fun r w' => ∃ a c, r = .returned (.tuple #[.slice a f.bs.length c, .int .i64 0]) ∧ Row w' a f.bs ∧ f.bs.length ≤ c ∧ Below x.heap.size x w') := fun x hx =>
            ((HT11.out.below Fa (hB.out.trans (hx.mono hB.out.size))).two.read Fa (by omega) HNz.out q4 q5).mono fun r w' => by rintro ⟨a, c, e1, e2, e3, e4, _⟩; exact ⟨a, c, e1, e2, e3, e4⟩
          obtain ⟨v, hv⟩ : ∃ v : Int, Hid (v = (f.bs.length : Int) - f.sf) := ⟨_, (rfl : (f.bs.length : Int) - f.sf = _)⟩
          have HL1 : Hid (∀ x, Below w11.heap.size w11 x → Calls Tryd.prog 23 #[.pointer (some ⟨ga, 0, none⟩), .string f.nm] x fun r w' => r = .returned (.int .i64 v) ∧ Below x.heap.size x w') := fun x hx =>
            (HT11.out.below Fa hx).one.loose Fa (by omega) HNz.out (by rw [q3, hv.out])
          have HL2 : Hid (∀ x, Below w11.heap.size w11 x → Calls Tryd.prog 23 #[.pointer (some ⟨gb, 0, none⟩), .string f.nm] x fun r w' => r = .returned (.int .i64 v) ∧ Below x.heap.size x w') := fun x hx =>
            (HT11.out.below Fa hx).two.loose Fa (by omega) HNz.out (by rw [q6, hv.out])
          have HCl : Hid (∀ x, Below w11.heap.size w11 x → x.cell? ⟨lg, lo + i, none⟩ = some (.string f.nm)) := fun x hx => by
            obtain ⟨g', o', e, q⟩ := row_cell (HR11.out.below hx) HNi.out
            cases e
            exact q
          obtain ⟨bn, hbn⟩ : ∃ x, Hid (x = f.bs.length) := ⟨_, (rfl : f.bs.length = _)⟩
          obtain ⟨nm, hnm⟩ : ∃ x, Hid (x = f.nm) := ⟨_, (rfl : f.nm = _)⟩
          rw [← hbn.out] at hlen
          rw [← hbn.out, ← hnm.out] at Hr1 Hr2
          rw [← hnm.out] at cl HL1 HL2 HCl
          clear hf hni hmem q1 q2 q3 q4 q5 q6 gd gdb
          go_wp2_with (go_at_call 13; refine Hr1.out.mono ?_; rintro _ x1 ⟨ca, cc, rfl, hrb, hcc, hbx, _⟩; refine Hid.out ?_)
          refine hidU ?_
          have HB1 := hidU (hB.out.trans (hbx.mono hB.out.size))
          have HRc := hidU hrb
          have Hr3 := hidU (Hr2.out x1 hbx)
          have cl1 := HCl.out x1 HB1.out
          clear hbx hrb Hr1 Hr2 cl
          go_wp2_with (go_at_call 13; refine Hr3.out.mono ?_; rintro _ x2 ⟨da, dc, rfl, hrd, hdc, hbx⟩; refine Hid.out ?_)
          refine hidU ?_
          have HB2 := hidU (HB1.out.trans (hbx.mono HB1.out.size))
          have HRd := hidU hrd
          have HRc2 := hidU (HRc.out.below hbx)
          clear hbx hrd Hr3 cl1 HRc
          have HSb : Hid (∀ x, Below x2.heap.size x2 x → Calls Tryd.prog 31 #[.slice ca bn cc, .slice da bn dc] x fun r w' => r = .returned (.bool true) ∧ Below x.heap.size x w') := fun x hx => by
            have q := same_len ca da bn bn cc dc f.bs f.bs x (HRc2.out.below hx) (HRd.out.below hx) hbn.out.symm hbn.out.symm
            rw [show (f.bs == f.bs) = true from beq_self_eq_true _] at q
            exact q.mono fun r w' => by rintro ⟨e1, rfl⟩; exact ⟨e1, Below.refl _ _⟩
          have HLa : Hid (∀ x, Below x2.heap.size x2 x → Calls Tryd.prog 23 #[.pointer (some ⟨ga, 0, none⟩), .string nm] x fun r w' => r = .returned (.int .i64 v) ∧ Below x.heap.size x w') := fun x hx => HL1.out x (HB2.out.trans (hx.mono HB2.out.size))
          have HLb : Hid (∀ x, Below x2.heap.size x2 x → Calls Tryd.prog 23 #[.pointer (some ⟨gb, 0, none⟩), .string nm] x fun r w' => r = .returned (.int .i64 v) ∧ Below x.heap.size x w') := fun x hx => HL2.out x (HB2.out.trans (hx.mono HB2.out.size))
          have HCl0 := HCl
          clear HCl
          have HCl : Hid (∀ x, Below x2.heap.size x2 x → x.cell? ⟨lg, lo + i, none⟩ = some (.string nm)) := fun x hx => HCl0.out x (HB2.out.trans (hx.mono HB2.out.size))
          clear HCl0 HL1 HL2
          go_wp2
          have hS0a : Below x2.heap.size x2 x2.drew := Below.drew (Below.refl _ _)
          refine wp_region_held_drew (S := fun xS => Below x2.heap.size x2 xS) (by kernel_rfl) hS0a ?_
          obtain ⟨x0a, hx0⟩ : ∃ x, x = x2.drew := ⟨_, rfl⟩
          rw [← hx0] at hS0a  ⊢
          clear hx0
          intro _
          refine wpAnyH_take (i := 0) (oi := { dst := some 115, op := .move (.tmp 14), type := _, pos := _, after := _, guard := none }) (v := .slice ca bn cc) rfl (by kernel_rfl) (by kernel_rfl) (by kernel_rfl) (fun _ _ _ h => h) (Or.inl ⟨by rfl, ?_⟩) hS0a ?_
          · intro wS hSw
            go_simp
          simp only [Act.put, List.setIfInBounds_toArray, List.set_cons_zero, List.set_cons_succ]
          refine wpAnyH_take (i := 1) (oi := { dst := some 116, op := .move (.tmp 16), type := _, pos := _, after := _, guard := none }) (v := .slice da bn dc) rfl (by kernel_rfl) (by kernel_rfl) (by kernel_rfl) (fun _ _ _ h => h) (Or.inl ⟨by rfl, ?_⟩) hS0a ?_
          · intro wS hSw
            go_simp
          simp only [Act.put, List.setIfInBounds_toArray, List.set_cons_zero, List.set_cons_succ]
          refine wpAnyH_ready (rs := [2]) (by kernel_rfl) (by simp) ?_
          refine AllReadyH.cons (o := { dst := some 117, op := .call { callee := .value (.func 31), args := #[.tmp 115, .tmp 116], argTypes := #[29, 29] }, type := _, pos := _, after := _, guard := none }) rfl (fun K hK => ?_) AllReadyH.nil
          rw [if_pos (by rfl)]
          have sv1a := hS0a.size
          go_wp2_with (go_at_call 31; refine (HSb.out x0a hS0a).mono ?_; rintro e x1a ⟨rfl, hb1a⟩)
          have sz1a := hb1a.size
          have hS1a := hS0a.trans (hb1a.mono hS0a.size)
          refine hK.out _ _ hS1a (fun _ => ?_)
          clear hK K
          refine wpAnyH_take (i := 3) (oi := { dst := some 118, op := .unOp .not 4 (.tmp 117), type := _, pos := _, after := _, guard := none }) (v := .bool false) rfl (by kernel_rfl) (by kernel_rfl) (by kernel_rfl) (fun _ _ _ h => h) (Or.inl ⟨by rfl, ?_⟩) hS1a ?_
          · intro wS hSw
            go_simp
          simp only [Act.put, List.setIfInBounds_toArray, List.set_cons_zero, List.set_cons_succ]
          refine wpAnyH_take (i := 4) (oi := { dst := some 119, op := .move (.tmp 118), type := _, pos := _, after := _, guard := none }) (v := .bool false) rfl (by kernel_rfl) (by kernel_rfl) (by kernel_rfl) (fun _ _ _ h => h) (Or.inl ⟨by rfl, ?_⟩) hS1a ?_
          · intro wS hSw
            go_simp
          simp only [Act.put, List.setIfInBounds_toArray, List.set_cons_zero, List.set_cons_succ]
          refine wpAnyH_take (i := 5) (oi := { dst := some 120, op := .move (.tmp 6), type := _, pos := _, after := _, guard := some (4, false) }) (v := .pointer (some ⟨ga, 0, none⟩)) rfl (by kernel_rfl) (by kernel_rfl) (by kernel_rfl) (fun _ _ _ h => h) (Or.inl ⟨by rfl, ?_⟩) hS1a ?_
          · intro wS hSw
            go_simp
          simp only [Act.put, List.setIfInBounds_toArray, List.set_cons_zero, List.set_cons_succ]
          refine wpAnyH_take (i := 6) (oi := { dst := some 121, op := .move (.tmp 11), type := _, pos := _, after := _, guard := some (4, false) }) (v := .slice (some ⟨lg, lo, none⟩) k lc) rfl (by kernel_rfl) (by kernel_rfl) (by kernel_rfl) (fun _ _ _ h => h) (Or.inl ⟨by rfl, ?_⟩) hS1a ?_
          · intro wS hSw
            go_simp
          simp only [Act.put, List.setIfInBounds_toArray, List.set_cons_zero, List.set_cons_succ]
          refine wpAnyH_take (i := 7) (oi := { dst := some 122, op := .move (.tmp 13), type := _, pos := _, after := _, guard := some (4, false) }) (v := .int .i64 (i : Int)) rfl (by kernel_rfl) (by kernel_rfl) (by kernel_rfl) (fun _ _ _ h => h) (Or.inl ⟨by rfl, ?_⟩) hS1a ?_
          · intro wS hSw
            go_simp
          simp only [Act.put, List.setIfInBounds_toArray, List.set_cons_zero, List.set_cons_succ]
          refine wpAnyH_take (i := 8) (oi := { dst := some 123, op := .indexAddr 44 (.tmp 121) (.tmp 122), type := _, pos := _, after := _, guard := some (4, false) }) (v := .pointer (some ⟨lg, lo + i, none⟩)) rfl (by kernel_rfl) (by kernel_rfl) (by kernel_rfl) (fun _ _ _ h => h) (Or.inl ⟨by rfl, ?_⟩) hS1a ?_
          · intro wS hSw
            go_simp
          simp only [Act.put, List.setIfInBounds_toArray, List.set_cons_zero, List.set_cons_succ]
          refine wpAnyH_take (i := 9) (oi := { dst := some 124, op := .load 9 (.tmp 123), type := _, pos := _, after := _, guard := some (4, false) }) (v := .string nm) rfl (by kernel_rfl) (by kernel_rfl) (by kernel_rfl) (fun _ _ _ h => h) (Or.inl ⟨by rfl, ?_⟩) hS1a ?_
          · intro wS hSw
            have zc := HCl.out wS hSw; go_simp
          simp only [Act.put, List.setIfInBounds_toArray, List.set_cons_zero, List.set_cons_succ]
          refine wpAnyH_take (i := 11) (oi := { dst := some 126, op := .move (.tmp 8), type := _, pos := _, after := _, guard := some (4, false) }) (v := .pointer (some ⟨gb, 0, none⟩)) rfl (by kernel_rfl) (by kernel_rfl) (by kernel_rfl) (fun _ _ _ h => h) (Or.inl ⟨by rfl, ?_⟩) hS1a ?_
          · intro wS hSw
            go_simp
          simp only [Act.put, List.setIfInBounds_toArray, List.set_cons_zero, List.set_cons_succ]
          refine wpAnyH_take (i := 12) (oi := { dst := some 127, op := .move (.tmp 11), type := _, pos := _, after := _, guard := some (4, false) }) (v := .slice (some ⟨lg, lo, none⟩) k lc) rfl (by kernel_rfl) (by kernel_rfl) (by kernel_rfl) (fun _ _ _ h => h) (Or.inl ⟨by rfl, ?_⟩) hS1a ?_
          · intro wS hSw
            go_simp
          simp only [Act.put, List.setIfInBounds_toArray, List.set_cons_zero, List.set_cons_succ]
          refine wpAnyH_take (i := 13) (oi := { dst := some 128, op := .move (.tmp 13), type := _, pos := _, after := _, guard := some (4, false) }) (v := .int .i64 (i : Int)) rfl (by kernel_rfl) (by kernel_rfl) (by kernel_rfl) (fun _ _ _ h => h) (Or.inl ⟨by rfl, ?_⟩) hS1a ?_
          · intro wS hSw
            go_simp
          simp only [Act.put, List.setIfInBounds_toArray, List.set_cons_zero, List.set_cons_succ]
          refine wpAnyH_take (i := 14) (oi := { dst := some 129, op := .indexAddr 44 (.tmp 127) (.tmp 128), type := _, pos := _, after := _, guard := some (4, false) }) (v := .pointer (some ⟨lg, lo + i, none⟩)) rfl (by kernel_rfl) (by kernel_rfl) (by kernel_rfl) (fun _ _ _ h => h) (Or.inl ⟨by rfl, ?_⟩) hS1a ?_
          · intro wS hSw
            go_simp
          simp only [Act.put, List.setIfInBounds_toArray, List.set_cons_zero, List.set_cons_succ]
          refine wpAnyH_take (i := 15) (oi := { dst := some 130, op := .load 9 (.tmp 129), type := _, pos := _, after := _, guard := some (4, false) }) (v := .string nm) rfl (by kernel_rfl) (by kernel_rfl) (by kernel_rfl) (fun _ _ _ h => h) (Or.inl ⟨by rfl, ?_⟩) hS1a ?_
          · intro wS hSw
            have zc := HCl.out wS hSw; go_simp
          simp only [Act.put, List.setIfInBounds_toArray, List.set_cons_zero, List.set_cons_succ]
          refine wpAnyH_ready (rs := [10]) (by kernel_rfl) (by simp) ?_
          refine AllReadyH.cons (o := { dst := some 125, op := .call { callee := .value (.func 23), args := #[.tmp 120, .tmp 124], argTypes := #[22, 9] }, type := _, pos := _, after := _, guard := some (4, false) }) rfl (fun K hK => ?_) AllReadyH.nil
          rw [if_pos (by rfl)]
          have sv2a := hS1a.size
          go_wp2_with (go_at_call 23; refine (HLa.out x1a hS1a).mono ?_; rintro e x2a ⟨rfl, hb2a⟩)
          have sz2a := hb2a.size
          have hS2a := hS1a.trans (hb2a.mono hS1a.size)
          refine hK.out _ _ hS2a (fun _ => ?_)
          clear hK K
          refine wpAnyH_ready (rs := [16]) (by kernel_rfl) (by simp) ?_
          refine AllReadyH.cons (o := { dst := some 131, op := .call { callee := .value (.func 23), args := #[.tmp 126, .tmp 130], argTypes := #[22, 9] }, type := _, pos := _, after := _, guard := some (4, false) }) rfl (fun K hK => ?_) AllReadyH.nil
          rw [if_pos (by rfl)]
          have sv3a := hS2a.size
          go_wp2_with (go_at_call 23; refine (HLb.out x2a hS2a).mono ?_; rintro e x3a ⟨rfl, hb3a⟩)
          have sz3a := hb3a.size
          have hS3a := hS2a.trans (hb3a.mono hS2a.size)
          refine hK.out _ _ hS3a (fun _ => ?_)
          clear hK K
          refine wpAnyH_take (i := 17) (oi := { dst := some 132, op := .binOp .neq 3 (.tmp 125) (.tmp 131) 3, type := _, pos := _, after := _, guard := some (4, false) }) (v := .bool false) rfl (by kernel_rfl) (by kernel_rfl) (by kernel_rfl) (fun _ _ _ h => h) (Or.inl ⟨by rfl, ?_⟩) hS3a ?_
          · intro wS hSw
            go_simp
          simp only [Act.put, List.setIfInBounds_toArray, List.set_cons_zero, List.set_cons_succ]
          refine wpAnyH_take (i := 18) (oi := { dst := some 133, op := .pick (.tmp 119) (.const (.bool true)) (.tmp 132), type := _, pos := _, after := _, guard := none }) (v := .bool false) rfl (by kernel_rfl) (by kernel_rfl) (by kernel_rfl) (fun _ _ _ h => h) (Or.inl ⟨by rfl, ?_⟩) hS3a ?_
          · intro wS hSw
            go_simp
          simp only [Act.put, List.setIfInBounds_toArray, List.set_cons_zero, List.set_cons_succ]
          refine wpAnyH_done (by kernel_rfl) ?_ _
          have HBn := hidU (HB2.out.trans (hS3a.mono HB2.out.size))
          go_wp2
          go_roundw
          · exact ⟨i + 1, by go_num, by omega, HBn⟩
          · simp [intOf]; omega
        · have HTw := hidU (HT11.out.below Fa hB.out)
          have HBw := hidU (HB11.out.trans (hB.out.mono HB11.out.size))
          obtain ⟨sb, hsb⟩ : ∃ x : Bool, Hid (x = (D.lf == 0)) := ⟨_, (rfl : (D.lf == 0) = _)⟩
          have hss : sb = ((wa : Int) == p) := by
            rw [hsb.out, hwa.out, Bool.eq_iff_iff, beq_iff_eq, beq_iff_eq]
            have := HLf.out.1
            constructor <;> intro q <;> omega
          have H13 := hidU (HTw.out.one.stopped Fa hsb.out.symm)
          have HSe := hidU hss
          clear hss
          go_wp2_with (go_at_call 24; refine H13.out.mono ?_; rintro _ x1 ⟨rfl, hbx⟩; refine Hid.out ?_)
          refine hidU ?_
          have HB1 := hidU (HBw.out.trans (hbx.mono HBw.out.size))
          have H14 := hidU ((HTw.out.below Fa hbx).one.writes Fa (v := (wa : Int)) (by rw [hwa.out]))
          clear hbx H13
          go_wp2_with (go_at_call 25; refine H14.out.mono ?_; rintro _ x2 ⟨rfl, hbx⟩; refine Hid.out ?_)
          refine hidU ?_
          have HB2 := hidU (HB1.out.trans (hbx.mono HB1.out.size))
          have hss := HSe.out
          clear hbx H14
          go_wp2
          go_ret
          exact ⟨by rw [hss]; simp, HB2.out⟩
end Go.Proofs.YtcmkjjlchljffaaDoor

/- Both disks of a pair in their two calls of Append; rows that are made. -/
namespace Go.Proofs.YtcmkjjlchljffaaDoor
open Go.RowKit
set_option linter.unusedVariables false

/-- The program's disk and the given answer's, and blocks that they do not have. -/
def Fu (CD : CDT) (B : Nat) (x : World) (gc gr n : Nat) (D D' : Dk) (S : Nat → Prop) : Prop :=
  ∃ Wc Fc Wr Fr, CD B x gc Wc Fc D' ∧ RD B x gr Wr Fr D ∧ Apart Wc Fc Wr Fr ∧ Gd n D ∧ ∀ k, S k → ¬ Fc k ∧ ¬ Fr k ∧ k < x.heap.size
section
variable {CD : CDT} {B gc gr n g : Nat} {x x' : World} {D D' : Dk} {S S' : Nat → Prop} {nm : ByteArray} {ba : Option Addr} {lb bc : Nat} {b : List UInt8}
theorem Fu.below (Fa : Face True CD) (h : Fu CD B x gc gr n D D' S) (hb : Below x.heap.size x x') : Fu CD B x' gc gr n D D' S := by
  obtain ⟨Wc, Fc, Wr, Fr, h1, h2, h3, h4, h5⟩ := h
  exact ⟨Wc, Fc, Wr, Fr, Fa.below h1 hb, h2.below hb, h3, h4, fun k hk => ⟨(h5 k hk).1, (h5 k hk).2.1, Nat.lt_of_lt_of_le (h5 k hk).2.2 hb.size⟩⟩
/-- A new block is none of theirs. -/
theorem Fu.fresh (Fa : Face True CD) (h : Fu CD B x gc gr n D D' S) (hb : Below x.heap.size x x') (hg : x.heap.size ≤ g) (hl : g < x'.heap.size) : Fu CD B x' gc gr n D D' (fun k => S k ∨ k = g) := by
  obtain ⟨Wc, Fc, Wr, Fr, h1, h2, h3, h4, h5⟩ := h
  refine ⟨Wc, Fc, Wr, Fr, Fa.below h1 hb, h2.below hb, h3, h4, ?_⟩
  rintro k (hk | rfl)
  · exact ⟨(h5 k hk).1, (h5 k hk).2.1, Nat.lt_of_lt_of_le (h5 k hk).2.2 hb.size⟩
  · exact ⟨fun q => by have := Fa.lt h1 _ q; omega, fun q => by have := h2.lt _ q; omega, hl⟩
theorem Fu.drop (h : Fu CD B x gc gr n D D' S) (hs : ∀ k, S' k → S k) : Fu CD B x gc gr n D D' S' := by
  obtain ⟨Wc, Fc, Wr, Fr, h1, h2, h3, h4, h5⟩ := h
  exact ⟨Wc, Fc, Wr, Fr, h1, h2, h3, h4, fun k hk => h5 k (hs k hk)⟩
theorem Fu.app1 (Fa : Face True CD) {d1 : Dk} {e1 : Int} (ho : apO D nm b = (d1, e1)) (h : Fu CD B x gc gr n D D S) (hB : B ≤ x.heap.size) (hn : n ≤ 1048576) (hs : nm.size ≤ 9223372036854775807) (hr : Row x ba b) (hlb : lb = b.length) (bC : lb ≤ bc) (bN : ba = none → bc = 0) (hl : lb ≤ 1099511627776) (hS : ∀ ad, ba = some ad → S ad.block) :
    Calls Tryd.prog 10 #[.pointer (some ⟨gc, 0, none⟩), .string nm, .slice ba lb bc] x fun r w' => r = .returned (.int .i64 e1) ∧ Fu CD B w' gc gr n D d1 S ∧ Below B x w' ∧ Std S x w' := by
  obtain ⟨Wc, Fc, Wr, Fr, h1, h2, h3, h4, h5⟩ := h
  refine (Fa.append (nm := nm) h1 (h4.fine (by omega)) h4.so hB hs hr hlb bC bN hl fun _ ad ha => ⟨fun q => (h5 _ (hS ad ha)).1 (Fa.wf h1 _ q).1, (h5 _ (hS ad ha)).2.2⟩).mono ?_
  rintro r w' hp
  rw [ho] at hp
  obtain ⟨rfl, W', F', q1, q2⟩ := hp
  refine ⟨rfl, ⟨W', F', Wr, Fr, q1, h2.same (h3.stands q2 h2.lt) q2.chg.size, h3.moves q2 h2.lt fun k hk => h2.lt k (h2.wf k hk).1, h4, fun k hk => ⟨fun q => (q2.rd k q).elim (h5 k hk).1 (by have := (h5 k hk).2.2; omega), (h5 k hk).2.1, Nat.lt_of_lt_of_le (h5 k hk).2.2 q2.chg.size⟩⟩, ?_, ?_⟩
  · exact q2.chg.below hB fun k hk => (Fa.wf h1 k hk).2
  · exact fun k hk => q2.chg.block k (h5 k hk).2.2 fun q => (h5 k hk).1 (Fa.wf h1 k q).1
theorem Fu.app2 (Fa : Face True CD) {d1 : Dk} {e1 : Int} (ho : apO D nm b = (d1, e1)) (h : Fu CD B x gc gr n D d1 S) (hB : B ≤ x.heap.size) (hn : n ≤ 1048576) (hs : nm.size ≤ 9223372036854775807) (hr : Row x ba b) (hlb : lb = b.length) (bC : lb ≤ bc) (bN : ba = none → bc = 0) (hl : lb ≤ 1099511627776) (hS : ∀ ad, ba = some ad → S ad.block) :
    Calls Tryd.prog 11 #[.pointer (some ⟨gr, 0, none⟩), .string nm, .slice ba lb bc] x fun r w' => r = .returned (.int .i64 e1) ∧ Fu CD B w' gc gr (n + 1) d1 d1 S ∧ Below B x w' ∧ Std S x w' := by
  obtain ⟨Wc, Fc, Wr, Fr, h1, h2, h3, h4, h5⟩ := h
  refine (refAppend_any B gr Wr Fr D nm ba lb bc b x h2 (h4.fine (by omega)) hB hs hr hlb bC bN hl fun _ ad ha => ⟨fun q => (h5 _ (hS ad ha)).2.1 (h2.wf _ q).1, (h5 _ (hS ad ha)).2.2⟩).mono ?_
  rintro r w' hp
  rw [ho] at hp
  obtain ⟨rfl, W', F', q1, q2⟩ := hp
  have hg : Gd (n + 1) d1 := by have := gd_ap (nm := nm) (b := b) h4; rw [ho] at this; exact this
  refine ⟨rfl, ⟨Wc, Fc, W', F', Fa.same h1 (h3.symm.stands q2 (Fa.lt h1)) q2.chg.size, q1, (h3.symm.moves q2 (Fa.lt h1) fun k hk => Fa.lt h1 k (Fa.wf h1 k hk).1).symm, hg, fun k hk => ⟨(h5 k hk).1, fun q => (q2.rd k q).elim (h5 k hk).2.1 (by have := (h5 k hk).2.2; omega), Nat.lt_of_lt_of_le (h5 k hk).2.2 q2.chg.size⟩⟩, ?_, ?_⟩
  · exact q2.chg.below hB fun k hk => (h2.wf k hk).2
  · exact fun k hk => q2.chg.block k (h5 k hk).2.2 fun q => (h5 k hk).2.1 (h2.wf k q).1
theorem Fu.told (Fa : Face True CD) (h : Fu CD B x gc gr n D D S) (hn : n ≤ 1048576) (hs : nm.size ≤ 9223372036854775807) :
    Calls Tryd.prog 12 #[.pointer (some ⟨gc, 0, none⟩), .pointer (some ⟨gr, 0, none⟩), .string nm] x fun r w' => r = .returned (.bool true) ∧ Below x.heap.size x w' := by
  obtain ⟨Wc, Fc, Wr, Fr, h1, h2, h3, h4, h5⟩ := h
  exact told_ok Fa B gc gr Wc Fc Wr Fr D nm x h1 h2 (h4.fine (by omega)) h4.so hs
theorem Fu.new {w1 w2 : World} {z : Nat} {W1 F1 : Nat → Prop} (Fa : Face True CD) (hz : z ≤ 67108864) (c1 : CD B w1 gc W1 F1 ⟨z, [], -1, 0⟩) (b2 : Below w1.heap.size w1 w2) (hB : B ≤ w1.heap.size)
    (hA : At 61 w2 w1.heap.size [.int .i64 (z : Int), .slice none 0 0, .int .i64 (-1), .int .i64 0]) : Fu CD B w2 gc w1.heap.size 0 ⟨z, [], -1, 0⟩ ⟨z, [], -1, 0⟩ (fun _ => False) := by
  have hl := Fa.lt c1
  refine ⟨W1, F1, _, _, Fa.below c1 b2, RD.new hB hA, ⟨fun k q1 q2 => ?_, fun k q1 q2 => ?_⟩, ⟨hz, Nat.zero_le _, Nat.zero_le _, Int.le_refl _, by show (-1 : Int) ≤ _; omega, Nat.le_refl _, fun f h => (by cases h), List.Pairwise.nil⟩, fun k q => q.elim⟩
  · have := hl k (Fa.wf c1 k q1).1; omega
  · have := hl k q2; omega
end
theorem made_rep (z : Value) (n : Nat) : (madeCells #[z] n).toList = List.replicate n z := by
  apply List.ext_getElem
  · rw [Array.length_toList, size_madeCells, List.length_replicate]
  · intro i h1 h2
    simp [madeCells, Nat.mod_one]
/-- A row of noughts is made. -/
theorem wp_makeB {o : Oper} {a : Act} {w : World} {K : Act → World → Prop} {Q : Exit → Act → World → Prop} (l c : Operand) (ho : o.op = .makeSlice 29 l c)
    (n : Nat) (hl : a.eval l = .int .i64 (n : Int)) (hc : a.eval c = .int .i64 (n : Int)) (hb : n ≤ 1048576)
    (h : ∀ w', At 5 w' w.heap.size ((List.replicate n (0 : UInt8)).map B8) → Below w.heap.size w w' → K (a.put o.dst (.slice (some ⟨w.heap.size, 0, none⟩) n n)) w') : o.wp Tryd.prog a w K Q := by
  have hinfo : (Tryd.prog.info? 5).map (fun i => (i.zero, i.size, i.bytes)) = some (some (.int .u8 0), 1, 1) := by kernel_rfl
  obtain ⟨i, hi, hzz⟩ := Option.map_eq_some_iff.1 hinfo
  simp only [Prod.mk.injEq] at hzz
  obtain ⟨hz, hs, hbb⟩ := hzz
  have hb' : (i.bytes : Int) * (n : Int) ≤ 281474976710656 := by rw [hbb]; omega
  have hr := run_make (P := Tryd.prog) w 29 5 i (.int .u8 0) Tryd.underlying29 hi hz .i64 .i64 n n (by omega) (Int.le_refl _) hb' (by omega)
  unfold Oper.wp
  simp [execOp, ho, hl, hc, hr, Result.andThen]
  refine h _ ?_ ((Below.refl _ w).alloc (Nat.le_refl _) _)
  have e : (madeCells (Value.int .u8 0).cells (n * i.size)).toList = (List.replicate n (0 : UInt8)).map B8 := by
    rw [hs, Nat.mul_one, show (Value.int .u8 0).cells = #[.int .u8 0] from rfl, made_rep, List.map_replicate]; rfl
  have e2 : madeCells (Value.int .u8 0).cells (n * i.size) = ((List.replicate n (0 : UInt8)).map B8).toArray := by rw [← e]
  rw [e2]
  exact _root_.Go.heap_alloc_new w _
end Go.Proofs.YtcmkjjlchljffaaDoor

/- DiskFull, given what the program's disk tells. -/
namespace Go.Proofs.YtcmkjjlchljffaaDoor
open Go.RowKit
set_option linter.unusedVariables false

abbrev zr (m : Nat) : List UInt8 := List.replicate m 0
/-- The pair while two rows are made and Append is called of both. -/
def Fb (CD : CDT) (w x : World) (gc gr n m : Nat) (D D' : Dk) (g1 g2 : Option Nat) : Prop :=
  Below w.heap.size w x ∧ ∃ S : Nat → Prop, Fu CD w.heap.size x gc gr n D D' S ∧ (∀ g, g1 = some g → S g ∧ At 5 x g ((zr m).map B8)) ∧ ∀ g, g2 = some g → S g ∧ At 5 x g ((zr m).map B8)
section
variable {CD : CDT} {w x x' : World} {gc gr n m g : Nat} {D D' d1 : Dk} {e1 : Int} {g1 g2 : Option Nat} {nm : ByteArray}
theorem Fb.below (Fa : Face True CD) (h : Fb CD w x gc gr n m D D' none none) (hb : Below x.heap.size x x') : Fb CD w x' gc gr n m D D' none none := by
  obtain ⟨h1, S, h2, _, _⟩ := h
  exact ⟨h1.trans (hb.mono h1.size), S, h2.below Fa hb, fun g q => (by cases q), fun g q => (by cases q)⟩
theorem Fb.make1 (Fa : Face True CD) (h : Fb CD w x gc gr n m D D' none g2) (hA : At 5 x' x.heap.size ((zr m).map B8)) (hb : Below x.heap.size x x') : Fb CD w x' gc gr n m D D' (some x.heap.size) g2 := by
  obtain ⟨h1, S, h2, _, h4⟩ := h
  refine ⟨h1.trans (hb.mono h1.size), _, h2.fresh Fa hb (Nat.le_refl _) hA.lt, ?_, ?_⟩
  · rintro g ⟨⟩; exact ⟨.inr rfl, hA⟩
  · intro g hg; exact ⟨.inl (h4 g hg).1, (h4 g hg).2.below hb⟩
theorem Fb.make2 (Fa : Face True CD) (h : Fb CD w x gc gr n m D D' g1 none) (hA : At 5 x' x.heap.size ((zr m).map B8)) (hb : Below x.heap.size x x') : Fb CD w x' gc gr n m D D' g1 (some x.heap.size) := by
  obtain ⟨h1, S, h2, h3, _⟩ := h
  refine ⟨h1.trans (hb.mono h1.size), _, h2.fresh Fa hb (Nat.le_refl _) hA.lt, ?_, ?_⟩
  · intro g hg; exact ⟨.inl (h3 g hg).1, (h3 g hg).2.below hb⟩
  · rintro g ⟨⟩; exact ⟨.inr rfl, hA⟩
theorem Fb.call1 (Fa : Face True CD) (h : Fb CD w x gc gr n m D D (some g) g2) (ho : apO D ⟨#[98, 105, 103]⟩ (zr m) = (d1, e1)) (hn : n ≤ 300) (hm : m ≤ 1048576) :
    Calls Tryd.prog 10 #[.pointer (some ⟨gc, 0, none⟩), .string ⟨#[98, 105, 103]⟩, .slice (some ⟨g, 0, none⟩) m m] x fun r w' => r = .returned (.int .i64 e1) ∧ Fb CD w w' gc gr n m D d1 (some g) g2 := by
  obtain ⟨h1, S, h2, h3, h4⟩ := h
  have hl : (zr m).length = m := List.length_replicate
  have hA := (h3 g rfl).2
  refine (h2.app1 Fa ho h1.size (by omega) (by decide) (lb := m) (bc := m) (ba := some ⟨g, 0, none⟩) (Blk.row_all (blk_at.2 hA)) hl.symm (Nat.le_refl _) (fun q => by cases q) (by omega) (fun ad q => by cases q; exact (h3 g rfl).1)).mono ?_
  rintro r w' ⟨rfl, q1, q2, q3⟩
  exact ⟨rfl, h1.trans q2, S, q1, fun k hk => ⟨(h3 k hk).1, (h3 k hk).2.same (q3 k (h3 k hk).1)⟩, fun k hk => ⟨(h4 k hk).1, (h4 k hk).2.same (q3 k (h4 k hk).1)⟩⟩
theorem Fb.call2 (Fa : Face True CD) (h : Fb CD w x gc gr n m D d1 g1 (some g)) (ho : apO D ⟨#[98, 105, 103]⟩ (zr m) = (d1, e1)) (hn : n ≤ 300) (hm : m ≤ 1048576) :
    Calls Tryd.prog 11 #[.pointer (some ⟨gr, 0, none⟩), .string ⟨#[98, 105, 103]⟩, .slice (some ⟨g, 0, none⟩) m m] x fun r w' => r = .returned (.int .i64 e1) ∧ Fb CD w w' gc gr (n + 1) m d1 d1 g1 (some g) := by
  obtain ⟨h1, S, h2, h3, h4⟩ := h
  have hl : (zr m).length = m := List.length_replicate
  have hA := (h4 g rfl).2
  refine (h2.app2 Fa ho h1.size (by omega) (by decide) (lb := m) (bc := m) (ba := some ⟨g, 0, none⟩) (Blk.row_all (blk_at.2 hA)) hl.symm (Nat.le_refl _) (fun q => by cases q) (by omega) (fun ad q => by cases q; exact (h4 g rfl).1)).mono ?_
  rintro r w' ⟨rfl, q1, q2, q3⟩
  exact ⟨rfl, h1.trans q2, S, q1, fun k hk => ⟨(h3 k hk).1, (h3 k hk).2.same (q3 k (h3 k hk).1)⟩, fun k hk => ⟨(h4 k hk).1, (h4 k hk).2.same (q3 k (h4 k hk).1)⟩⟩
theorem Fb.told (Fa : Face True CD) (h : Fb CD w x gc gr n m D D g1 g2) (hn : n ≤ 1048576) (hs : nm.size ≤ 9223372036854775807) :
    Calls Tryd.prog 12 #[.pointer (some ⟨gc, 0, none⟩), .pointer (some ⟨gr, 0, none⟩), .string nm] x fun r w' => r = .returned (.bool true) ∧ Below w.heap.size w w' := by
  obtain ⟨h1, S, h2, _⟩ := h
  exact (h2.told Fa hn hs).mono fun r w' => by rintro ⟨rfl, q⟩; exact ⟨rfl, h1.trans (q.mono h1.size)⟩
end
theorem run_two {w : World} {g : Nat} {x y : Int} (h : At 5 w g [.int .u8 x, .int .u8 y]) (c : Nat) : ∃ s : ByteArray, s.size = 2 ∧ (convert 29 9 (.slice (some ⟨g, 0, none⟩) 2 c)).run Tryd.prog w = .ok (.string s) w := by
  have hc := run_convert_bytes_string w 29 9 5 (some ⟨g, 0, none⟩) 2 c Tryd.underlying29 Tryd.underlying5 Tryd.underlying9
  have h2 := run_bytesToString (P := Tryd.prog) w ⟨g, 0, none⟩ 2 c [x, y] (by
      have := run_loadCells_list (P := Tryd.prog) w ⟨g, 0, none⟩ [.int .u8 x, .int .u8 y] (fun j v hj => by rw [add_none, Nat.zero_add]; exact (h.cell j).trans (by simpa using hj))
      simpa using this)
  exact ⟨_, rfl, hc.trans h2⟩
theorem lt_or_le' (a b : Int) : a < b ∨ b ≤ a := by omega
set_option maxRecDepth 100000 in
set_option maxHeartbeats 12800000 in
theorem full_of {CD : CDT} (Fa : Face True CD) (z f m0 : Int) (w : World) :
    Calls Tryd.prog 3 #[.int .i64 z, .int .i64 f, .int .i64 m0] w fun r w' => r = .returned (.bool true) ∧ Below w.heap.size w w' := by
  by_cases hbad : z < 1 ∨ 2000 < z ∨ f < 0 ∨ 300 < f ∨ m0 < 0 ∨ 3000 < m0
  · rcases lt_or_le' z 1 with h1 | h1
    · go_enter Tryd.func3, Tryd.ntmps3
      go_wp2
      go_ret
      exact ⟨rfl, Below.refl _ _⟩
    have d1 : decide (z < 1) = false := decide_eq_false (by omega)
    rcases lt_or_le' 2000 z with h2 | h2
    · go_enter Tryd.func3, Tryd.ntmps3
      go_wp2
      go_ret
      exact ⟨rfl, Below.refl _ _⟩
    have d2 : decide (2000 < z) = false := decide_eq_false (by omega)
    rcases lt_or_le' f 0 with h3 | h3
    · go_enter Tryd.func3, Tryd.ntmps3
      go_wp2
      go_ret
      exact ⟨rfl, Below.refl _ _⟩
    have d3 : decide (f < 0) = false := decide_eq_false (by omega)
    rcases lt_or_le' 300 f with h4 | h4
    · go_enter Tryd.func3, Tryd.ntmps3
      go_wp2
      go_ret
      exact ⟨rfl, Below.refl _ _⟩
    have d4 : decide (300 < f) = false := decide_eq_false (by omega)
    rcases lt_or_le' m0 0 with h5 | h5
    · go_enter Tryd.func3, Tryd.ntmps3
      go_wp2
      go_ret
      exact ⟨rfl, Below.refl _ _⟩
    have d5 : decide (m0 < 0) = false := decide_eq_false (by omega)
    have h6 : 3000 < m0 := by omega
    go_enter Tryd.func3, Tryd.ntmps3
    go_wp2
    go_ret
    exact ⟨rfl, Below.refl _ _⟩
  obtain ⟨zn, rfl⟩ : ∃ k : Nat, z = (k : Int) := ⟨z.toNat, by omega⟩
  obtain ⟨k, rfl⟩ : ∃ k : Nat, f = (k : Int) := ⟨f.toNat, by omega⟩
  obtain ⟨m, rfl⟩ : ∃ k : Nat, m0 = (k : Int) := ⟨m0.toNat, by omega⟩
  have d1 : decide ((zn : Int) < 1) = false := decide_eq_false (by omega)
  have d2 : decide (2000 < (zn : Int)) = false := decide_eq_false (by omega)
  have d3 : decide ((k : Int) < 0) = false := decide_eq_false (by omega)
  have d4 : decide (300 < (k : Int)) = false := decide_eq_false (by omega)
  have d5 : decide ((m : Int) < 0) = false := decide_eq_false (by omega)
  have d6 : decide (3000 < (m : Int)) = false := decide_eq_false (by omega)
  have hk : k ≤ 300 := by omega
  have hm2 : m ≤ 1048576 := by omega
  have hz1 : 1 ≤ zn := by omega
  have hz2 : zn ≤ 67108864 := by omega
  have H1 := hidU (Fa.newOk (w := w) w.heap.size hz1 hz2 (Nat.le_refl _))
  have H2 : Hid (∀ x, Calls Tryd.prog 9 #[.int .i64 (zn : Int)] x fun r w' => r = .returned (.tuple #[.pointer (some ⟨x.heap.size, 0, none⟩), .int .i64 0]) ∧ Below x.heap.size x w' ∧ w'.heap.size = x.heap.size + 1 ∧ At 61 w' x.heap.size [.int .i64 (zn : Int), .slice none 0 0, .int .i64 (-1), .int .i64 0]) := fun x => refNew_ok (zn : Int) x (by omega) (by omega)
  have HZ := hidU hz2
  clear hbad hz1 hz2
  go_enter Tryd.func3, Tryd.ntmps3
  go_wp2_with (go_at_call 8; refine H1.out.mono ?_; rintro _ w1 ⟨gc, W1, F1, rfl, hc1, hb1, _⟩; refine Hid.out ?_)
  refine hidU ?_
  have HB1 := hidU hb1
  have HC1 := hidU hc1
  have H3 := hidU (H2.out w1)
  clear hb1 hc1 H1 H2 d1 d2 d3 d4 d5 d6
  go_wp2_with (go_at_call 9; refine H3.out.mono ?_; rintro _ w2 ⟨rfl, hb2, _, hA2⟩; refine Hid.out ?_)
  refine hidU ?_
  have HF2 := hidU (Fu.new Fa HZ.out HC1.out hb2 HB1.out.size hA2)
  have HB2 := hidU (HB1.out.trans (hb2.mono HB1.out.size))
  obtain ⟨gr, hgr⟩ : ∃ x, x = w1.heap.size := ⟨_, rfl⟩
  rw [← hgr] at HF2 ⊢
  clear hb2 hA2 H3 HC1 HB1 hgr
  go_wp2
  go_loopw [11] (fun j wr => ∃ i : Nat, j = .int .i64 (i : Int) ∧ i ≤ k ∧ Hid (Below w.heap.size w wr) ∧ Hid (∃ D, Fu CD w.heap.size wr gc gr i D D (fun _ => False))) (fun j _ => k - (intOf j).toNat)
  case atStart => exact ⟨0, rfl, by omega, HB2, ⟨_, HF2.out⟩⟩
  case round =>
    obtain ⟨i, rfl, hi, hB, hF⟩ := hrel
    clear HF2 HB2
    by_cases hc : i < k
    · obtain ⟨D, hD⟩ := hF.out
      have HF := hidU hD
      clear hF hD
      obtain ⟨s, hs2, hcv⟩ := run_two (w := wr.alloc (Obj.cells #[.int .u8 (97 + (i : Int) % 26), .int .u8 (97 + (i : Int) / 26)] 5)) (g := wr.heap.size) (_root_.Go.heap_alloc_new wr _) 2
      have HBa : Hid (Below wr.heap.size wr (wr.alloc (Obj.cells #[.int .u8 (97 + (i : Int) % 26), .int .u8 (97 + (i : Int) / 26)] 5))) := (Below.refl _ wr).alloc (Nat.le_refl _) _
      have HBb := hidU (hB.out.trans (HBa.out.mono hB.out.size))
      have HFa := hidU (HF.out.below Fa HBa.out)
      have HS2 : Hid (s.size ≤ 9223372036854775807) := by show s.size ≤ _; omega
      obtain ⟨d1, hd1⟩ : ∃ x, x = (apO D s []).1 := ⟨_, rfl⟩
      obtain ⟨e1, he1⟩ : ∃ x, x = (apO D s []).2 := ⟨_, rfl⟩
      have hho : Hid (apO D s [] = (d1, e1)) := by show _ = _; rw [hd1, he1]
      have H15 := hidU (HFa.out.app1 Fa hho.out HBb.out.size (by omega) HS2.out (ba := none) (lb := 0) (bc := 0) (.inl rfl) rfl (Nat.le_refl _) (fun _ => rfl) (by omega) (fun ad q => by cases q))
      clear hs2 hd1 he1 HBa HFa HF
      go_wp2_with (go_at_call 10; refine H15.out.mono ?_; rintro _ x1 ⟨rfl, hf1, hb1, _⟩; refine Hid.out ?_)
      refine hidU ?_
      have HB1 := hidU (HBb.out.trans hb1)
      have H16 := hidU (hf1.app2 Fa hho.out HB1.out.size (by omega) HS2.out (ba := none) (lb := 0) (bc := 0) (.inl rfl) rfl (Nat.le_refl _) (fun _ => rfl) (by omega) (fun ad q => by cases q))
      clear hf1 hb1 hcv H15 HBb hB
      go_wp2_with (go_at_call 11; refine H16.out.mono ?_; rintro _ x2 ⟨rfl, hf2, hb2, _⟩; refine Hid.out ?_)
      refine hidU ?_
      have HB2 := hidU (HB1.out.trans hb2)
      have HF2 := hidU hf2
      clear hf2 hb2 H16 HB1
      go_wp2
      go_roundw
      · exact ⟨i + 1, by go_num, by omega, HB2, ⟨_, HF2.out⟩⟩
      · simp [intOf]; omega
    obtain ⟨D, hD⟩ := hF.out
    have hik : i = k := by omega
    have HF0 : Hid (Fb CD w wr gc gr k m D D none none) := ⟨hB.out, _, hik ▸ hD, fun g q => (by cases q), fun g q => (by cases q)⟩
    obtain ⟨d1, hd1⟩ : ∃ x, x = (apO D ⟨#[98, 105, 103]⟩ (zr m)).1 := ⟨_, rfl⟩
    obtain ⟨e1, he1⟩ : ∃ x, x = (apO D ⟨#[98, 105, 103]⟩ (zr m)).2 := ⟨_, rfl⟩
    have hho : Hid (apO D ⟨#[98, 105, 103]⟩ (zr m) = (d1, e1)) := by show _ = _; rw [hd1, he1]
    have hn2 : k ≤ 300 := hk
    obtain ⟨x1, hx1⟩ : ∃ x, x = wr := ⟨_, rfl⟩
    rw [← hx1] at HF0 ⊢
    clear hF hD hB hd1 he1 hx1 hik
    go_wp2
    have hS0a : Std (fun _ => False) x1.drew x1.drew := fun _ _ => rfl
    refine wp_region_held_drew (S := fun xS => Std (fun _ => False) xS xS) (by kernel_rfl) hS0a ?_
    have HF0d : Hid (Fb CD w x1.drew gc gr k m D D none none) := hidU (HF0.out.below Fa (Below.drew (Below.refl _ _)))
    obtain ⟨x0a, hx0⟩ : ∃ x, x = x1.drew := ⟨_, rfl⟩
    rw [← hx0] at hS0a HF0d ⊢
    clear hx0
    intro _
    refine wpAnyH_take (i := 0) (oi := { dst := some 73, op := .move (.tmp 7), type := _, pos := _, after := _, guard := none }) (v := .pointer (some ⟨gc, 0, none⟩)) rfl (by kernel_rfl) (by kernel_rfl) (by kernel_rfl) (fun _ _ _ h => h) (Or.inl ⟨by rfl, ?_⟩) hS0a ?_
    · intro wS hSw
      go_simp
    simp only [Act.put, List.setIfInBounds_toArray, List.set_cons_zero, List.set_cons_succ]
    refine wpAnyH_take (i := 1) (oi := { dst := some 74, op := .move (.tmp 2), type := _, pos := _, after := _, guard := none }) (v := .int .i64 (m : Int)) rfl (by kernel_rfl) (by kernel_rfl) (by kernel_rfl) (fun _ _ _ h => h) (Or.inl ⟨by rfl, ?_⟩) hS0a ?_
    · intro wS hSw
      go_simp
    simp only [Act.put, List.setIfInBounds_toArray, List.set_cons_zero, List.set_cons_succ]
    refine wpAnyH_take (i := 4) (oi := { dst := some 77, op := .move (.tmp 9), type := _, pos := _, after := _, guard := none }) (v := .pointer (some ⟨gr, 0, none⟩)) rfl (by kernel_rfl) (by kernel_rfl) (by kernel_rfl) (fun _ _ _ h => h) (Or.inl ⟨by rfl, ?_⟩) hS0a ?_
    · intro wS hSw
      go_simp
    simp only [Act.put, List.setIfInBounds_toArray, List.set_cons_zero, List.set_cons_succ]
    refine wpAnyH_take (i := 5) (oi := { dst := some 78, op := .move (.tmp 2), type := _, pos := _, after := _, guard := none }) (v := .int .i64 (m : Int)) rfl (by kernel_rfl) (by kernel_rfl) (by kernel_rfl) (fun _ _ _ h => h) (Or.inl ⟨by rfl, ?_⟩) hS0a ?_
    · intro wS hSw
      go_simp
    simp only [Act.put, List.setIfInBounds_toArray, List.set_cons_zero, List.set_cons_succ]
    refine wpAnyH_ready (rs := [2, 6]) (by kernel_rfl) (by simp) ?_
    refine AllReadyH.cons (o := { dst := some 75, op := .makeSlice 29 (.tmp 74) (.tmp 74), type := _, pos := _, after := _, guard := none }) rfl (fun K hK => ?_) (AllReadyH.cons (o := { dst := some 79, op := .makeSlice 29 (.tmp 78) (.tmp 78), type := _, pos := _, after := _, guard := none }) rfl (fun K hK => ?_) AllReadyH.nil)
    · skip
      rw [if_pos (by rfl)]
      refine wp_makeB (.tmp 74) (.tmp 74) rfl m rfl rfl hm2 ?_
      intro x1a hA1a hb1a
      have HF1a := hidU (HF0d.out.make1 Fa hA1a hb1a)
      clear hA1a hb1a
      have hS1a := (fun _ _ => rfl : Std (fun _ => False) x1a x1a)
      refine hK.out _ _ hS1a (fun _ => ?_)
      clear hK K
      refine wpAnyH_ready (rs := [3, 6]) (by kernel_rfl) (by simp) ?_
      refine AllReadyH.cons (o := { dst := some 76, op := .call { callee := .value (.func 10), args := #[.tmp 73, .const (.string { data := #[98, 105, 103] }), .tmp 75], argTypes := #[22, 9, 29] }, type := _, pos := _, after := _, guard := none }) rfl (fun K hK => ?_) (AllReadyH.cons (o := { dst := some 79, op := .makeSlice 29 (.tmp 78) (.tmp 78), type := _, pos := _, after := _, guard := none }) rfl (fun K hK => ?_) AllReadyH.nil)
      · skip
        rw [if_pos (by rfl)]
        have HC2a := hidU (HF1a.out.call1 Fa hho.out hn2 hm2)
        go_wp2_with (go_at_call 10; refine HC2a.out.mono ?_; rintro _ x2a ⟨rfl, hF2a⟩)
        have HF2a := hidU hF2a
        clear hF2a HC2a
        have hS2a := (fun _ _ => rfl : Std (fun _ => False) x2a x2a)
        refine hK.out _ _ hS2a (fun _ => ?_)
        clear hK K
        refine wpAnyH_ready (rs := [6]) (by kernel_rfl) (by simp) ?_
        refine AllReadyH.cons (o := { dst := some 79, op := .makeSlice 29 (.tmp 78) (.tmp 78), type := _, pos := _, after := _, guard := none }) rfl (fun K hK => ?_) AllReadyH.nil
        rw [if_pos (by rfl)]
        refine wp_makeB (.tmp 78) (.tmp 78) rfl m rfl rfl hm2 ?_
        intro x3a hA3a hb3a
        have HF3a := hidU (HF2a.out.make2 Fa hA3a hb3a)
        clear hA3a hb3a
        have hS3a := (fun _ _ => rfl : Std (fun _ => False) x3a x3a)
        refine hK.out _ _ hS3a (fun _ => ?_)
        clear hK K
        refine wpAnyH_ready (rs := [7]) (by kernel_rfl) (by simp) ?_
        refine AllReadyH.cons (o := { dst := some 80, op := .call { callee := .value (.func 11), args := #[.tmp 77, .const (.string { data := #[98, 105, 103] }), .tmp 79], argTypes := #[26, 9, 29] }, type := _, pos := _, after := _, guard := none }) rfl (fun K hK => ?_) AllReadyH.nil
        rw [if_pos (by rfl)]
        have HC4a := hidU (HF3a.out.call2 Fa hho.out hn2 hm2)
        go_wp2_with (go_at_call 11; refine HC4a.out.mono ?_; rintro _ x4a ⟨rfl, hF4a⟩)
        have HF4a := hidU hF4a
        clear hF4a HC4a
        have hS4a := (fun _ _ => rfl : Std (fun _ => False) x4a x4a)
        refine hK.out _ _ hS4a (fun _ => ?_)
        clear hK K
        refine wpAnyH_take (i := 8) (oi := { dst := some 81, op := .binOp .eql 23 (.tmp 76) (.tmp 80) 23, type := _, pos := _, after := _, guard := none }) (v := .bool true) rfl (by kernel_rfl) (by kernel_rfl) (by kernel_rfl) (fun _ _ _ h => h) (Or.inl ⟨by rfl, ?_⟩) hS4a ?_
        · intro wS hSw
          go_simp
        simp only [Act.put, List.setIfInBounds_toArray, List.set_cons_zero, List.set_cons_succ]
        refine wpAnyH_take (i := 9) (oi := { dst := some 82, op := .move (.tmp 81), type := _, pos := _, after := _, guard := none }) (v := .bool true) rfl (by kernel_rfl) (by kernel_rfl) (by kernel_rfl) (fun _ _ _ h => h) (Or.inl ⟨by rfl, ?_⟩) hS4a ?_
        · intro wS hSw
          go_simp
        simp only [Act.put, List.setIfInBounds_toArray, List.set_cons_zero, List.set_cons_succ]
        refine wpAnyH_take (i := 10) (oi := { dst := some 83, op := .move (.tmp 7), type := _, pos := _, after := _, guard := some (9, true) }) (v := .pointer (some ⟨gc, 0, none⟩)) rfl (by kernel_rfl) (by kernel_rfl) (by kernel_rfl) (fun _ _ _ h => h) (Or.inl ⟨by rfl, ?_⟩) hS4a ?_
        · intro wS hSw
          go_simp
        simp only [Act.put, List.setIfInBounds_toArray, List.set_cons_zero, List.set_cons_succ]
        refine wpAnyH_take (i := 11) (oi := { dst := some 84, op := .move (.tmp 9), type := _, pos := _, after := _, guard := some (9, true) }) (v := .pointer (some ⟨gr, 0, none⟩)) rfl (by kernel_rfl) (by kernel_rfl) (by kernel_rfl) (fun _ _ _ h => h) (Or.inl ⟨by rfl, ?_⟩) hS4a ?_
        · intro wS hSw
          go_simp
        simp only [Act.put, List.setIfInBounds_toArray, List.set_cons_zero, List.set_cons_succ]
        refine wpAnyH_ready (rs := [12]) (by kernel_rfl) (by simp) ?_
        refine AllReadyH.cons (o := { dst := some 85, op := .call { callee := .value (.func 12), args := #[.tmp 83, .tmp 84, .const (.string { data := #[98, 105, 103] })], argTypes := #[22, 26, 9] }, type := _, pos := _, after := _, guard := some (9, true) }) rfl (fun K hK => ?_) AllReadyH.nil
        rw [if_pos (by rfl)]
        have HC5a := hidU (HF4a.out.told Fa (by omega) (nm := ⟨#[98, 105, 103]⟩) (by decide))
        go_wp2_with (go_at_call 12; refine HC5a.out.mono ?_; rintro _ x5a ⟨rfl, hbf⟩)
        have HBf := hidU hbf
        clear hbf HC5a
        have hS5a := (fun _ _ => rfl : Std (fun _ => False) x5a x5a)
        refine hK.out _ _ hS5a (fun _ => ?_)
        clear hK K
        refine wpAnyH_take (i := 13) (oi := { dst := some 86, op := .pick (.tmp 82) (.tmp 85) (.const (.bool false)), type := _, pos := _, after := _, guard := none }) (v := .bool true) rfl (by kernel_rfl) (by kernel_rfl) (by kernel_rfl) (fun _ _ _ h => h) (Or.inl ⟨by rfl, ?_⟩) hS5a ?_
        · intro wS hSw
          go_simp
        simp only [Act.put, List.setIfInBounds_toArray, List.set_cons_zero, List.set_cons_succ]
        refine wpAnyH_take (i := 14) (oi := { dst := some 6, op := .assign (.tmp 86), type := _, pos := _, after := _, guard := none }) (v := .bool true) rfl (by kernel_rfl) (by kernel_rfl) (by kernel_rfl) (fun _ _ _ h => h) (Or.inl ⟨by rfl, ?_⟩) hS5a ?_
        · intro wS hSw
          go_simp
        simp only [Act.put, List.setIfInBounds_toArray, List.set_cons_zero, List.set_cons_succ]
        refine wpAnyH_done (by kernel_rfl) ?_ _
        go_wp2
        go_ret
        exact ⟨rfl, HBf.out⟩
      · skip
        rw [if_pos (by rfl)]
        refine wp_makeB (.tmp 78) (.tmp 78) rfl m rfl rfl hm2 ?_
        intro x2a hA2a hb2a
        have HF2a := hidU (HF1a.out.make2 Fa hA2a hb2a)
        clear hA2a hb2a
        have hS2a := (fun _ _ => rfl : Std (fun _ => False) x2a x2a)
        refine hK.out _ _ hS2a (fun _ => ?_)
        clear hK K
        refine wpAnyH_ready (rs := [3]) (by kernel_rfl) (by simp) ?_
        refine AllReadyH.cons (o := { dst := some 76, op := .call { callee := .value (.func 10), args := #[.tmp 73, .const (.string { data := #[98, 105, 103] }), .tmp 75], argTypes := #[22, 9, 29] }, type := _, pos := _, after := _, guard := none }) rfl (fun K hK => ?_) AllReadyH.nil
        rw [if_pos (by rfl)]
        have HC3a := hidU (HF2a.out.call1 Fa hho.out hn2 hm2)
        go_wp2_with (go_at_call 10; refine HC3a.out.mono ?_; rintro _ x3a ⟨rfl, hF3a⟩)
        have HF3a := hidU hF3a
        clear hF3a HC3a
        have hS3a := (fun _ _ => rfl : Std (fun _ => False) x3a x3a)
        refine hK.out _ _ hS3a (fun _ => ?_)
        clear hK K
        refine wpAnyH_ready (rs := [7]) (by kernel_rfl) (by simp) ?_
        refine AllReadyH.cons (o := { dst := some 80, op := .call { callee := .value (.func 11), args := #[.tmp 77, .const (.string { data := #[98, 105, 103] }), .tmp 79], argTypes := #[26, 9, 29] }, type := _, pos := _, after := _, guard := none }) rfl (fun K hK => ?_) AllReadyH.nil
        rw [if_pos (by rfl)]
        have HC4a := hidU (HF3a.out.call2 Fa hho.out hn2 hm2)
        go_wp2_with (go_at_call 11; refine HC4a.out.mono ?_; rintro _ x4a ⟨rfl, hF4a⟩)
        have HF4a := hidU hF4a
        clear hF4a HC4a
        have hS4a := (fun _ _ => rfl : Std (fun _ => False) x4a x4a)
        refine hK.out _ _ hS4a (fun _ => ?_)
        clear hK K
        refine wpAnyH_take (i := 8) (oi := { dst := some 81, op := .binOp .eql 23 (.tmp 76) (.tmp 80) 23, type := _, pos := _, after := _, guard := none }) (v := .bool true) rfl (by kernel_rfl) (by kernel_rfl) (by kernel_rfl) (fun _ _ _ h => h) (Or.inl ⟨by rfl, ?_⟩) hS4a ?_
        · intro wS hSw
          go_simp
        simp only [Act.put, List.setIfInBounds_toArray, List.set_cons_zero, List.set_cons_succ]
        refine wpAnyH_take (i := 9) (oi := { dst := some 82, op := .move (.tmp 81), type := _, pos := _, after := _, guard := none }) (v := .bool true) rfl (by kernel_rfl) (by kernel_rfl) (by kernel_rfl) (fun _ _ _ h => h) (Or.inl ⟨by rfl, ?_⟩) hS4a ?_
        · intro wS hSw
          go_simp
        simp only [Act.put, List.setIfInBounds_toArray, List.set_cons_zero, List.set_cons_succ]
        refine wpAnyH_take (i := 10) (oi := { dst := some 83, op := .move (.tmp 7), type := _, pos := _, after := _, guard := some (9, true) }) (v := .pointer (some ⟨gc, 0, none⟩)) rfl (by kernel_rfl) (by kernel_rfl) (by kernel_rfl) (fun _ _ _ h => h) (Or.inl ⟨by rfl, ?_⟩) hS4a ?_
        · intro wS hSw
          go_simp
        simp only [Act.put, List.setIfInBounds_toArray, List.set_cons_zero, List.set_cons_succ]
        refine wpAnyH_take (i := 11) (oi := { dst := some 84, op := .move (.tmp 9), type := _, pos := _, after := _, guard := some (9, true) }) (v := .pointer (some ⟨gr, 0, none⟩)) rfl (by kernel_rfl) (by kernel_rfl) (by kernel_rfl) (fun _ _ _ h => h) (Or.inl ⟨by rfl, ?_⟩) hS4a ?_
        · intro wS hSw
          go_simp
        simp only [Act.put, List.setIfInBounds_toArray, List.set_cons_zero, List.set_cons_succ]
        refine wpAnyH_ready (rs := [12]) (by kernel_rfl) (by simp) ?_
        refine AllReadyH.cons (o := { dst := some 85, op := .call { callee := .value (.func 12), args := #[.tmp 83, .tmp 84, .const (.string { data := #[98, 105, 103] })], argTypes := #[22, 26, 9] }, type := _, pos := _, after := _, guard := some (9, true) }) rfl (fun K hK => ?_) AllReadyH.nil
        rw [if_pos (by rfl)]
        have HC5a := hidU (HF4a.out.told Fa (by omega) (nm := ⟨#[98, 105, 103]⟩) (by decide))
        go_wp2_with (go_at_call 12; refine HC5a.out.mono ?_; rintro _ x5a ⟨rfl, hbf⟩)
        have HBf := hidU hbf
        clear hbf HC5a
        have hS5a := (fun _ _ => rfl : Std (fun _ => False) x5a x5a)
        refine hK.out _ _ hS5a (fun _ => ?_)
        clear hK K
        refine wpAnyH_take (i := 13) (oi := { dst := some 86, op := .pick (.tmp 82) (.tmp 85) (.const (.bool false)), type := _, pos := _, after := _, guard := none }) (v := .bool true) rfl (by kernel_rfl) (by kernel_rfl) (by kernel_rfl) (fun _ _ _ h => h) (Or.inl ⟨by rfl, ?_⟩) hS5a ?_
        · intro wS hSw
          go_simp
        simp only [Act.put, List.setIfInBounds_toArray, List.set_cons_zero, List.set_cons_succ]
        refine wpAnyH_take (i := 14) (oi := { dst := some 6, op := .assign (.tmp 86), type := _, pos := _, after := _, guard := none }) (v := .bool true) rfl (by kernel_rfl) (by kernel_rfl) (by kernel_rfl) (fun _ _ _ h => h) (Or.inl ⟨by rfl, ?_⟩) hS5a ?_
        · intro wS hSw
          go_simp
        simp only [Act.put, List.setIfInBounds_toArray, List.set_cons_zero, List.set_cons_succ]
        refine wpAnyH_done (by kernel_rfl) ?_ _
        go_wp2
        go_ret
        exact ⟨rfl, HBf.out⟩
    · skip
      rw [if_pos (by rfl)]
      refine wp_makeB (.tmp 78) (.tmp 78) rfl m rfl rfl hm2 ?_
      intro x1a hA1a hb1a
      have HF1a := hidU (HF0d.out.make2 Fa hA1a hb1a)
      clear hA1a hb1a
      have hS1a := (fun _ _ => rfl : Std (fun _ => False) x1a x1a)
      refine hK.out _ _ hS1a (fun _ => ?_)
      clear hK K
      refine wpAnyH_ready (rs := [2]) (by kernel_rfl) (by simp) ?_
      refine AllReadyH.cons (o := { dst := some 75, op := .makeSlice 29 (.tmp 74) (.tmp 74), type := _, pos := _, after := _, guard := none }) rfl (fun K hK => ?_) AllReadyH.nil
      rw [if_pos (by rfl)]
      refine wp_makeB (.tmp 74) (.tmp 74) rfl m rfl rfl hm2 ?_
      intro x2a hA2a hb2a
      have HF2a := hidU (HF1a.out.make1 Fa hA2a hb2a)
      clear hA2a hb2a
      have hS2a := (fun _ _ => rfl : Std (fun _ => False) x2a x2a)
      refine hK.out _ _ hS2a (fun _ => ?_)
      clear hK K
      refine wpAnyH_ready (rs := [3]) (by kernel_rfl) (by simp) ?_
      refine AllReadyH.cons (o := { dst := some 76, op := .call { callee := .value (.func 10), args := #[.tmp 73, .const (.string { data := #[98, 105, 103] }), .tmp 75], argTypes := #[22, 9, 29] }, type := _, pos := _, after := _, guard := none }) rfl (fun K hK => ?_) AllReadyH.nil
      rw [if_pos (by rfl)]
      have HC3a := hidU (HF2a.out.call1 Fa hho.out hn2 hm2)
      go_wp2_with (go_at_call 10; refine HC3a.out.mono ?_; rintro _ x3a ⟨rfl, hF3a⟩)
      have HF3a := hidU hF3a
      clear hF3a HC3a
      have hS3a := (fun _ _ => rfl : Std (fun _ => False) x3a x3a)
      refine hK.out _ _ hS3a (fun _ => ?_)
      clear hK K
      refine wpAnyH_ready (rs := [7]) (by kernel_rfl) (by simp) ?_
      refine AllReadyH.cons (o := { dst := some 80, op := .call { callee := .value (.func 11), args := #[.tmp 77, .const (.string { data := #[98, 105, 103] }), .tmp 79], argTypes := #[26, 9, 29] }, type := _, pos := _, after := _, guard := none }) rfl (fun K hK => ?_) AllReadyH.nil
      rw [if_pos (by rfl)]
      have HC4a := hidU (HF3a.out.call2 Fa hho.out hn2 hm2)
      go_wp2_with (go_at_call 11; refine HC4a.out.mono ?_; rintro _ x4a ⟨rfl, hF4a⟩)
      have HF4a := hidU hF4a
      clear hF4a HC4a
      have hS4a := (fun _ _ => rfl : Std (fun _ => False) x4a x4a)
      refine hK.out _ _ hS4a (fun _ => ?_)
      clear hK K
      refine wpAnyH_take (i := 8) (oi := { dst := some 81, op := .binOp .eql 23 (.tmp 76) (.tmp 80) 23, type := _, pos := _, after := _, guard := none }) (v := .bool true) rfl (by kernel_rfl) (by kernel_rfl) (by kernel_rfl) (fun _ _ _ h => h) (Or.inl ⟨by rfl, ?_⟩) hS4a ?_
      · intro wS hSw
        go_simp
      simp only [Act.put, List.setIfInBounds_toArray, List.set_cons_zero, List.set_cons_succ]
      refine wpAnyH_take (i := 9) (oi := { dst := some 82, op := .move (.tmp 81), type := _, pos := _, after := _, guard := none }) (v := .bool true) rfl (by kernel_rfl) (by kernel_rfl) (by kernel_rfl) (fun _ _ _ h => h) (Or.inl ⟨by rfl, ?_⟩) hS4a ?_
      · intro wS hSw
        go_simp
      simp only [Act.put, List.setIfInBounds_toArray, List.set_cons_zero, List.set_cons_succ]
      refine wpAnyH_take (i := 10) (oi := { dst := some 83, op := .move (.tmp 7), type := _, pos := _, after := _, guard := some (9, true) }) (v := .pointer (some ⟨gc, 0, none⟩)) rfl (by kernel_rfl) (by kernel_rfl) (by kernel_rfl) (fun _ _ _ h => h) (Or.inl ⟨by rfl, ?_⟩) hS4a ?_
      · intro wS hSw
        go_simp
      simp only [Act.put, List.setIfInBounds_toArray, List.set_cons_zero, List.set_cons_succ]
      refine wpAnyH_take (i := 11) (oi := { dst := some 84, op := .move (.tmp 9), type := _, pos := _, after := _, guard := some (9, true) }) (v := .pointer (some ⟨gr, 0, none⟩)) rfl (by kernel_rfl) (by kernel_rfl) (by kernel_rfl) (fun _ _ _ h => h) (Or.inl ⟨by rfl, ?_⟩) hS4a ?_
      · intro wS hSw
        go_simp
      simp only [Act.put, List.setIfInBounds_toArray, List.set_cons_zero, List.set_cons_succ]
      refine wpAnyH_ready (rs := [12]) (by kernel_rfl) (by simp) ?_
      refine AllReadyH.cons (o := { dst := some 85, op := .call { callee := .value (.func 12), args := #[.tmp 83, .tmp 84, .const (.string { data := #[98, 105, 103] })], argTypes := #[22, 26, 9] }, type := _, pos := _, after := _, guard := some (9, true) }) rfl (fun K hK => ?_) AllReadyH.nil
      rw [if_pos (by rfl)]
      have HC5a := hidU (HF4a.out.told Fa (by omega) (nm := ⟨#[98, 105, 103]⟩) (by decide))
      go_wp2_with (go_at_call 12; refine HC5a.out.mono ?_; rintro _ x5a ⟨rfl, hbf⟩)
      have HBf := hidU hbf
      clear hbf HC5a
      have hS5a := (fun _ _ => rfl : Std (fun _ => False) x5a x5a)
      refine hK.out _ _ hS5a (fun _ => ?_)
      clear hK K
      refine wpAnyH_take (i := 13) (oi := { dst := some 86, op := .pick (.tmp 82) (.tmp 85) (.const (.bool false)), type := _, pos := _, after := _, guard := none }) (v := .bool true) rfl (by kernel_rfl) (by kernel_rfl) (by kernel_rfl) (fun _ _ _ h => h) (Or.inl ⟨by rfl, ?_⟩) hS5a ?_
      · intro wS hSw
        go_simp
      simp only [Act.put, List.setIfInBounds_toArray, List.set_cons_zero, List.set_cons_succ]
      refine wpAnyH_take (i := 14) (oi := { dst := some 6, op := .assign (.tmp 86), type := _, pos := _, after := _, guard := none }) (v := .bool true) rfl (by kernel_rfl) (by kernel_rfl) (by kernel_rfl) (fun _ _ _ h => h) (Or.inl ⟨by rfl, ?_⟩) hS5a ?_
      · intro wS hSw
        go_simp
      simp only [Act.put, List.setIfInBounds_toArray, List.set_cons_zero, List.set_cons_succ]
      refine wpAnyH_done (by kernel_rfl) ?_ _
      go_wp2
      go_ret
      exact ⟨rfl, HBf.out⟩
end Go.Proofs.YtcmkjjlchljffaaDoor

/- Maps whose keys are texts, of elements of any kind. -/
namespace Go.Proofs.YtcmkjjlchljffaaDoor
open Go.RowKit Go.Maps Go.MapKept Go.WideMaps
set_option linter.unusedVariables false

/-- A map's type: the type of its elements, the value of one, the zero value. -/
structure Mt (α : Type) where
  T : TypeId
  E : TypeId
  val : α → Value
  z : Value
  und : Tryd.prog.underlying T = some (.map 9 E)
  hz : ∀ w, (zeroValue E).run Tryd.prog w = .ok z w
theorem u9 : Tryd.prog.underlying 9 = some .string := by kernel_rfl
theorem key9 : Keyed Tryd.prog 9 := string_keyed u9
def keyB {α : Type} (s : ByteArray) (p : ByteArray × α) : Bool := p.1.toList == s.toList
theorem toL_inj {a b : ByteArray} (h : a.toList = b.toList) : a = b := by
  rw [ByteArray.toList_eq, ByteArray.toList_eq] at h
  apply ByteArray.ext
  exact Array.toList_inj.1 h
theorem keyB_iff {α : Type} {s : ByteArray} {p : ByteArray × α} : keyB s p = true ↔ p.1 = s := ⟨fun h => toL_inj (beq_iff_eq.1 h), fun h => by rw [keyB, h]; simp⟩
theorem keyB_not {α : Type} {s : ByteArray} {p : ByteArray × α} : keyB s p = false ↔ p.1 ≠ s := by rw [Bool.eq_false_iff, ne_eq, keyB_iff]
theorem nodup_of_map {α β : Type} (f : α → β) : ∀ {l : List α}, (l.map f).Nodup → l.Nodup
  | [], _ => List.nodup_nil
  | a :: l, h => by
    rw [List.map_cons, List.nodup_cons] at h
    exact List.nodup_cons.2 ⟨fun hm => h.1 (List.mem_map.2 ⟨a, hm, rfl⟩), nodup_of_map f h.2⟩
/-- A map in memory. -/
def MapS {α : Type} (t : Mt α) (w : World) (b : Nat) (m : List (ByteArray × α)) : Prop :=
  ∃ arr clock, w.heap[b]? = some (.map arr clock) ∧ Stamped arr clock ∧ arr.toList.map (fun e => (e.key, e.val)) = m.map (fun p => (Value.string p.1, t.val p.2)) ∧ ∀ p ∈ m, p.1.size ≤ maxLen
def lookM {α : Type} (m : List (ByteArray × α)) (s : ByteArray) : Option α := (m.find? (keyB s)).map (·.2)
def updM {α : Type} (m : List (ByteArray × α)) (s : ByteArray) (x : α) : List (ByteArray × α) := if (lookM m s).isSome then m.map (fun p => if keyB s p then (s, x) else p) else m ++ [(s, x)]
def delM {α : Type} (m : List (ByteArray × α)) (s : ByteArray) : List (ByteArray × α) := m.filter fun p => !keyB s p
section
variable {α : Type} {t : Mt α} {w w' : World} {b : Nat} {m : List (ByteArray × α)} {s : ByteArray} {x : α}
theorem MapS.same (h : MapS t w b m) (e : w'.heap[b]? = w.heap[b]?) : MapS t w' b m := by
  obtain ⟨arr, clock, h1, h2⟩ := h
  exact ⟨arr, clock, e.trans h1, h2⟩
theorem MapS.lt (h : MapS t w b m) : b < w.heap.size := by
  obtain ⟨arr, clock, h1, h2⟩ := h
  exact heapLt h1
theorem MapS.below (h : MapS t w b m) (hb : Below w.heap.size w w') : MapS t w' b m := h.same (hb.block b h.lt)
theorem MapS.made (t : Mt α) (w : World) : MapS t (w.alloc (.map #[] 0)) w.heap.size [] := ⟨#[], 0, _root_.Go.heap_alloc_new w _, ⟨fun _ h => (by cases h), List.nodup_nil, List.nodup_nil⟩, rfl, fun _ h => by cases h⟩
theorem MapS.nodup (h : MapS t w b m) : (m.map (·.1)).Nodup := by
  obtain ⟨arr, clock, h1, ⟨_, _, h2⟩, h3, h4⟩ := h
  have e : arr.toList.map (·.key) = (m.map (·.1)).map Value.string := by
    have := congrArg (List.map Prod.fst) h3
    rw [List.map_map, List.map_map] at this
    rw [List.map_map]
    exact this
  rw [e] at h2
  exact nodup_of_map _ h2
theorem find_of_mem (hn : (m.map (·.1)).Nodup) (h : (s, x) ∈ m) : m.find? (keyB s) = some (s, x) := by
  induction m with
  | nil => cases h
  | cons p m ih =>
    rw [List.map_cons, List.nodup_cons] at hn
    by_cases hp : keyB s p = true
    · rw [List.find?_cons_of_pos hp]
      rcases List.mem_cons.1 h with e | e
      · rw [e]
      · exfalso
        apply hn.1
        rw [keyB_iff.1 hp]
        exact List.mem_map.2 ⟨_, e, rfl⟩
    · rw [List.find?_cons_of_neg hp]
      rcases List.mem_cons.1 h with e | e
      · exact absurd (keyB_iff.2 (by rw [← e])) hp
      · exact ih hn.2 e
/-- What is found. -/
theorem MapS.find (h : MapS t w b m) (hs : s.size ≤ maxLen) : ∃ arr clock, w.heap[b]? = some (.map arr clock) ∧ Stamped arr clock ∧ arr.toList.map (fun e => (e.key, e.val)) = m.map (fun p => (Value.string p.1, t.val p.2)) ∧
    (((Instr.findKey 9 (.string s) arr.toList).run Tryd.prog w = .ok none w ∧ (∀ e ∈ arr.toList, e.key ≠ .string s) ∧ lookM m s = none ∧ ∀ p ∈ m, keyB s p = false) ∨
     ∃ j x, (Instr.findKey 9 (.string s) arr.toList).run Tryd.prog w = .ok (some (j, t.val x)) w ∧ lookM m s = some x ∧ m[j]? = some (s, x) ∧ (arr[j]?).map (·.key) = some (.string s)) := by
  have hnd := h.nodup
  obtain ⟨arr, clock, h1, h2, h3, h4⟩ := h
  refine ⟨arr, clock, h1, h2, h3, ?_⟩
  have hkey : ∀ u : ByteArray, u.size ≤ maxLen → ∃ l, keyOf Tryd.prog 9 (.string u) = some l := fun u hu => ⟨_, keyOf_string_mk u9 hu⟩
  obtain ⟨lx, hlx⟩ := hkey s hs
  have hall : ∀ e ∈ arr.toList, ∃ l, keyOf Tryd.prog 9 e.key = some l := by
    intro e he
    have : (e.key, e.val) ∈ arr.toList.map (fun e => (e.key, e.val)) := List.mem_map.2 ⟨e, he, rfl⟩
    rw [h3] at this
    obtain ⟨p, hp, hq⟩ := List.mem_map.1 this
    injection hq with hq _
    rw [← hq]
    exact hkey _ (h4 p hp)
  rcases key9.find w hlx arr.toList hall with ⟨f1, f2⟩ | ⟨j, e, f1, f2, f3⟩
  · refine .inl ⟨f1, f2, ?_, ?_⟩
    · have : m.find? (keyB s) = none := by
        rw [List.find?_eq_none]
        intro p hp hk
        have : (Value.string p.1, t.val p.2) ∈ arr.toList.map (fun e => (e.key, e.val)) := by rw [h3]; exact List.mem_map.2 ⟨p, hp, rfl⟩
        obtain ⟨e, he, hq⟩ := List.mem_map.1 this
        injection hq with hq _
        exact f2 e he (by rw [hq, keyB_iff.1 hk])
      rw [lookM, this]
      rfl
    · intro p hp
      rw [keyB_not]
      intro hk
      have : (Value.string p.1, t.val p.2) ∈ arr.toList.map (fun e => (e.key, e.val)) := by rw [h3]; exact List.mem_map.2 ⟨p, hp, rfl⟩
      obtain ⟨e, he, hq⟩ := List.mem_map.1 this
      injection hq with hq _
      exact f2 e he (by rw [hq, hk])
  · have hj := congrArg (fun l => l[j]?) h3
    simp only [List.getElem?_map, f2, Option.map_some] at hj
    cases hm : m[j]? with
    | none => rw [hm] at hj; cases hj
    | some p =>
      rw [hm] at hj
      simp only [Option.map_some, Option.some.injEq, Prod.mk.injEq] at hj
      obtain ⟨g1, g2⟩ := hj
      rw [f3] at g1
      injection g1 with g1
      obtain ⟨p1, p2⟩ := p
      simp only at g1 g2
      subst g1
      refine .inr ⟨j, p2, by rw [f1, g2], ?_, hm, ?_⟩
      · rw [lookM, find_of_mem hnd (List.mem_of_getElem? hm)]
        rfl
      · rw [← Array.getElem?_toList, f2]
        simp [f3]
theorem MapS.look (h : MapS t w b m) (hs : s.size ≤ maxLen) (c : Bool) : (Instr.lookup t.T (.map (some b)) (.string s) c).run Tryd.prog w = .ok (if c then .tuple #[((lookM m s).map t.val).getD t.z, .bool (lookM m s).isSome] else ((lookM m s).map t.val).getD t.z) w := by
  obtain ⟨arr, clock, h1, h2, h3, hc⟩ := h.find hs
  obtain ⟨lx, hlx⟩ : ∃ l, keyOf Tryd.prog 9 (.string s) = some l := ⟨_, keyOf_string_mk u9 hs⟩
  rcases hc with ⟨f1, f2, f3, _⟩ | ⟨j, x, f1, f2, f3, f4⟩
  · rw [f3]
    simp [Instr.lookup, run_underlying t.und, MapKept.run_getObj_map h1, key9.check w _ hlx, f1, t.hz, Result.andThen]
  · rw [f2]
    simp [Instr.lookup, run_underlying t.und, MapKept.run_getObj_map h1, key9.check w _ hlx, f1, Result.andThen]
theorem MapS.len (h : MapS t w b m) (ty : TypeId) : (Builtin.len_ #[t.T] ty #[.map (some b)]).run Tryd.prog w = .ok (.int .i64 (m.length : Int)) w := by
  obtain ⟨arr, clock, h1, h2, h3, h4⟩ := h
  have e : arr.size = m.length := by have := congrArg List.length h3; simpa using this
  simp [Builtin.len_, run_underlying t.und, MapKept.run_getObj_map h1, goInt, Result.andThen, e]
theorem key_at (hn : (m.map (·.1)).Nodup) {i j : Nat} {p : ByteArray × α} (hj : m[j]? = some (s, x)) (hi : m[i]? = some p) : keyB s p = true ↔ i = j := by
  have h1 : (m.map (·.1))[j]? = some s := by rw [List.getElem?_map, hj]; rfl
  have h2 : (m.map (·.1))[i]? = some p.1 := by rw [List.getElem?_map, hi]; rfl
  constructor
  · intro hk
    rw [keyB_iff.1 hk] at h2
    have l1 := (List.getElem?_eq_some_iff.1 h2).1
    exact (List.getElem?_inj l1 hn).1 (h2.trans h1.symm)
  · rintro rfl
    rw [hi] at hj
    cases hj
    exact keyB_iff.2 rfl
def setB (w : World) (b : Nat) (o : Obj) : World := { w with heap := w.heap.setIfInBounds b o }
theorem putB {arr : Array MapEntry} {clock : Nat} {o : Obj} (h1 : w.heap[b]? = some (.map arr clock)) : But b w (setB w b o) ∧ (setB w b o).heap.size = w.heap.size ∧ (setB w b o).heap[b]? = some o := by
  have hlt := heapLt h1
  refine ⟨⟨rfl, rfl, rfl, by simp [setB], fun k hk hne => by simp only [setB]; rw [Array.getElem?_setIfInBounds_ne (fun e => hne e.symm)]⟩, by simp [setB], by simp [setB, hlt]⟩
theorem MapS.update (h : MapS t w b m) (hs : s.size ≤ maxLen) (x : α) : ∃ w', (Instr.mapUpdate t.T (.map (some b)) (.string s) (t.val x)).run Tryd.prog w = .ok () w' ∧ MapS t w' b (updM m s x) ∧ But b w w' ∧ w'.heap.size = w.heap.size := by
  have hnd := h.nodup
  have h4 : ∀ p ∈ m, p.1.size ≤ maxLen := by obtain ⟨_, _, _, _, _, h4⟩ := h; exact h4
  obtain ⟨arr, clock, h1, h2, h3, hc⟩ := h.find hs
  obtain ⟨lx, hlx⟩ : ∃ l, keyOf Tryd.prog 9 (.string s) = some l := ⟨_, keyOf_string_mk u9 hs⟩
  have put := fun o => putB (o := o) h1
  rcases hc with ⟨f1, f2, f3, f5⟩ | ⟨j, y, f1, f2, f3, f4⟩
  · obtain ⟨p1, p2, p3⟩ := put (.map (arr.push ⟨.string s, t.val x, clock⟩) (clock + 1))
    refine ⟨_, ?_, ⟨_, _, p3, stamped_push h2 f2, ?_, ?_⟩, p1, p2⟩
    · simp [Instr.mapUpdate, run_underlying t.und, MapKept.run_getObj_map h1, key9.check w _ hlx, f1, Result.andThen, MapKept.run_setObj_map _ h1, setB]
    · rw [updM, f3]
      simp [h3]
    · intro p hp
      rw [updM, f3] at hp
      rcases List.mem_append.1 hp with hp | hp
      · exact h4 p hp
      · simp at hp
        rw [hp]
        exact hs
  · have hk : ((arr[j]?).map (·.key)).getD (.string s) = .string s := by rw [f4]; rfl
    obtain ⟨p1, p2, p3⟩ := put (.map (arr.modify j fun e => { e with key := .string s, val := t.val x }) clock)
    refine ⟨_, ?_, ⟨_, _, p3, stamped_modify h2 j _ (fun _ _ => rfl) (fun e _ he => by rw [he] at f4; simp at f4; exact f4.symm), ?_, ?_⟩, p1, p2⟩
    · simp [Instr.mapUpdate, run_underlying t.und, MapKept.run_getObj_map h1, key9.check w _ hlx, f1, hk, key9.stays w hlx, Result.andThen, MapKept.run_setObj_map _ h1, setB]
    · rw [updM, f2]
      refine List.ext_getElem? fun i => ?_
      have hi := congrArg (fun l => l[i]?) h3
      simp only [List.getElem?_map] at hi
      simp only [List.getElem?_map, Array.getElem?_toList, Array.getElem?_modify, Option.isSome_some, if_true]
      cases hm : m[i]? with
      | none =>
        rw [hm] at hi
        simp only [Option.map_none, Option.map_eq_none_iff, Array.getElem?_toList] at hi
        rw [hi]
        simp
      | some p =>
        rw [hm] at hi
        simp only [Option.map_some] at hi
        rw [Array.getElem?_toList] at hi
        cases ha : arr[i]? with
        | none => rw [ha] at hi; cases hi
        | some e =>
          rw [ha] at hi
          simp only [Option.map_some, Option.some.injEq] at hi
          by_cases hij : i = j
          · subst hij
            have hkb := (key_at hnd f3 hm).2 rfl
            simp [hkb]
          · have hkb : keyB s p = false := by rw [Bool.eq_false_iff]; exact fun hk => hij ((key_at hnd f3 hm).1 hk)
            rw [if_neg (fun e => hij e.symm)]
            simp [hkb, hi]
    · intro p hp
      rw [updM, f2] at hp
      simp only [Option.isSome_some, if_true] at hp
      obtain ⟨q, hq, rfl⟩ := List.mem_map.1 hp
      split
      · exact hs
      · exact h4 q hq
theorem filter_erase : ∀ (m : List (ByteArray × α)) (j : Nat), (∀ i p, m[i]? = some p → (keyB s p = true ↔ i = j)) → m.filter (fun p => !keyB s p) = m.eraseIdx j
  | [], _, _ => by simp
  | p :: m, 0, h => by
    have h0 := (h 0 p rfl).2 rfl
    rw [List.filter_cons_of_neg (by simp [h0]), List.eraseIdx_cons_zero, List.filter_eq_self]
    intro q hq
    obtain ⟨i, hi⟩ := List.getElem?_of_mem hq
    have := h (i + 1) q (by simpa using hi)
    simp only [Nat.add_eq_zero_iff, Nat.succ_ne_self, and_false, iff_false] at this
    simpa using this
  | p :: m, j + 1, h => by
    have h0 : keyB s p = false := by
      rw [Bool.eq_false_iff]
      intro hk
      have := (h 0 p rfl).1 hk
      omega
    rw [List.filter_cons_of_pos (by simp [h0]), List.eraseIdx_cons_succ, filter_erase m j fun i q hq => ?_]
    have := h (i + 1) q (by simpa using hq)
    rw [this]
    omega
theorem MapS.delete (h : MapS t w b m) (hs : s.size ≤ maxLen) (ty : TypeId) : ∃ w', (Builtin.delete_ #[t.T, 9] ty #[.map (some b), .string s]).run Tryd.prog w = .ok (.tuple #[]) w' ∧ MapS t w' b (delM m s) ∧ But b w w' ∧ w'.heap.size = w.heap.size := by
  have hnd := h.nodup
  have h4 : ∀ p ∈ m, p.1.size ≤ maxLen := by obtain ⟨_, _, _, _, _, h4⟩ := h; exact h4
  obtain ⟨arr, clock, h1, h2, h3, hc⟩ := h.find hs
  obtain ⟨lx, hlx⟩ : ∃ l, keyOf Tryd.prog 9 (.string s) = some l := ⟨_, keyOf_string_mk u9 hs⟩
  have put := fun o => putB (o := o) h1
  rcases hc with ⟨f1, f2, f3, f5⟩ | ⟨j, y, f1, f2, f3, f4⟩
  · obtain ⟨p1, p2, p3⟩ := put (.map arr clock)
    refine ⟨_, ?_, ⟨_, _, p3, h2, ?_, fun p hp => h4 p (List.mem_filter.1 hp).1⟩, p1, p2⟩
    · simp [Builtin.delete_, run_underlying t.und, MapKept.run_getObj_map h1, key9.check w _ hlx, f1, Result.andThen, MapKept.run_setObj_map _ h1, setB]
    · rw [delM, List.filter_eq_self.2 (fun p hp => by simp [f5 p hp])]
      exact h3
  · obtain ⟨p1, p2, p3⟩ := put (.map (arr.eraseIdxIfInBounds j) clock)
    have hjs : j < arr.size := by
      have := (List.getElem?_eq_some_iff.1 f3).1
      have e := congrArg List.length h3
      simp at e
      omega
    refine ⟨_, ?_, ⟨_, _, p3, stamped_erase h2 j, ?_, fun p hp => h4 p (List.mem_filter.1 hp).1⟩, p1, p2⟩
    · simp [Builtin.delete_, run_underlying t.und, MapKept.run_getObj_map h1, key9.check w _ hlx, f1, Result.andThen, MapKept.run_setObj_map _ h1, setB]
    · rw [delM, filter_erase m j fun i p hp => key_at hnd f3 hp]
      have hsub : (arr.eraseIdxIfInBounds j).toList = arr.toList.eraseIdx j := by
        unfold Array.eraseIdxIfInBounds
        rw [dif_pos hjs]
        simp
      rw [hsub]
      have : ∀ {β γ : Type} (f : β → γ) (l : List β) (k : Nat), (l.eraseIdx k).map f = (l.map f).eraseIdx k := by
        intro β γ f l
        induction l with
        | nil => intro k; simp
        | cons a l ih => intro k; cases k <;> simp [ih]
      rw [this, this, h3]
end
section
variable {α : Type} (t : Mt α) {o : Oper} {a : Act} {w : World} {Q : Exit → Act → World → Prop} {ops : Array Oper} {rest : List Oper} {b : Nat} {m : List (ByteArray × α)}
theorem wpList_upd (hg : o.guard = none) (mo xo vo : Operand) (hop : o.op = Op.mapUpdate t.T mo xo vo) (s : ByteArray) (x : α) (hm : a.eval mo = .map (some b)) (hx : a.eval xo = .string s) (hv : a.eval vo = t.val x) (h : MapS t w b m) (hs : s.size ≤ maxLen)
    (hK : ∀ w', MapS t w' b (updM m s x) → But b w w' → w'.heap.size = w.heap.size → wpList Tryd.prog ops Q rest (a.put o.dst undef) w') : wpList Tryd.prog ops Q (o :: rest) a w := by
  refine wpList_plain hg fun K' hK' => ?_
  obtain ⟨w', hrun, r1, r2, r3⟩ := h.update hs x
  unfold Oper.wp
  simp [execOp, hop, hm, hx, hv, hrun, Result.andThen]
  exact hK' _ _ (hK w' r1 r2 r3)
theorem wpList_del (hg : o.guard = none) (mo xo : Operand) (hop : o.op = Op.call { callee := Callee.builtin Builtin.delete, args := #[mo, xo], argTypes := #[t.T, 9] }) (s : ByteArray) (hm : a.eval mo = .map (some b)) (hx : a.eval xo = .string s) (h : MapS t w b m) (hs : s.size ≤ maxLen)
    (hK : ∀ w', MapS t w' b (delM m s) → But b w w' → w'.heap.size = w.heap.size → wpList Tryd.prog ops Q rest (a.put o.dst (.tuple #[])) w') : wpList Tryd.prog ops Q (o :: rest) a w := by
  refine wpList_plain hg fun K' hK' => ?_
  obtain ⟨w', hrun, r1, r2, r3⟩ := h.delete hs o.type
  unfold Oper.wp
  simp [execOp, hop, resolve, invoke, builtin, hm, hx, hrun, Result.andThen]
  exact hK' _ _ (hK w' r1 r2 r3)
theorem wpList_look (hg : o.guard = none) (mo xo : Operand) (c : Bool) (hop : o.op = Op.lookup t.T mo xo c) (s : ByteArray) (hm : a.eval mo = .map (some b)) (hx : a.eval xo = .string s) (h : MapS t w b m) (hs : s.size ≤ maxLen) (r : Value)
    (hr : r = if c then .tuple #[((lookM m s).map t.val).getD t.z, .bool (lookM m s).isSome] else ((lookM m s).map t.val).getD t.z) (hK : wpList Tryd.prog ops Q rest (a.put o.dst r) w) : wpList Tryd.prog ops Q (o :: rest) a w := by
  refine wpList_plain hg fun K' hK' => ?_
  have hrun := h.look hs c
  rw [← hr] at hrun
  unfold Oper.wp
  simp [execOp, hop, hm, hx, hrun, Result.andThen]
  exact hK' _ _ hK
end
end Go.Proofs.YtcmkjjlchljffaaDoor

/- The landed disk in memory: its cells, its map of files, each file's bytes in a block of its own. -/
namespace Go.Proofs.YtcmkjjlchljffaaDoor
open Go.RowKit
set_option linter.unusedVariables false

/-- A file of the map: its bytes' slice, the bytes, how many are safe, whether it lasts. -/
structure FM where
  v : Value
  bs : List UInt8
  sf : Nat
  hd : Bool
def FM.val (f : FM) : Value := .agg #[f.v, .int .i64 (f.sf : Int), .bool f.hd]
def FM.cells (f : FM) : List Value := [f.v, .int .i64 (f.sf : Int), .bool f.hd]
def toFi (p : ByteArray × FM) : Fi := ⟨p.1, p.2.bs, p.2.sf, p.2.hd⟩
def mF : Mt FM := ⟨33, 66, FM.val, .agg #[.slice none 0 0, .int .i64 0, .bool false], by kernel_rfl, fun w => by kernel_rfl⟩
abbrev FMap := List (ByteArray × FM)
/-- The blocks of a disk. -/
def FW (g mb : Nat) (m : FMap) : Nat → Prop := fun k => k = g ∨ k = mb ∨ ∃ p ∈ m, p.2.v.ownBlock = some k
/-- The landed disk in memory. -/
structure Ds (B : Nat) (w : World) (g mb : Nat) (m : FMap) (sz : Nat) (lf : Int) (wr : Nat) : Prop where
  at_ : At 35 w g [.pointer (some ⟨g, 0, none⟩), .int .i64 (sz : Int), .map (some mb), .int .i64 lf, .int .i64 (wr : Int)]
  mp : MapS mF w mb m
  own : ∀ p ∈ m, OwnX eB B w p.2.v p.2.bs
  apart : ∀ p ∈ m, ∀ q ∈ m, p.1 ≠ q.1 → ∀ k, p.2.v.ownBlock = some k → q.2.v.ownBlock ≠ some k
  bg : B ≤ g
  bm : B ≤ mb
  ns : ∀ p ∈ m, p.1.size ≤ 40
section
variable {B g mb : Nat} {w w' : World} {m : FMap} {sz wr : Nat} {lf : Int}
theorem Ds.same (h : Ds B w g mb m sz lf wr) (k : ∀ k, FW g mb m k → w'.heap[k]? = w.heap[k]?) : Ds B w' g mb m sz lf wr :=
  ⟨h.at_.same (k g (.inl rfl)), h.mp.same (k mb (.inr (.inl rfl))), fun p hp => (h.own p hp).same fun i hi => k i (.inr (.inr ⟨p, hp, hi⟩)), h.apart, h.bg, h.bm, h.ns⟩
theorem Ds.lt (h : Ds B w g mb m sz lf wr) : ∀ k, FW g mb m k → k < w.heap.size := by
  rintro k (rfl | rfl | ⟨p, hp, hk⟩)
  · exact heapLt h.at_
  · exact h.mp.lt
  · exact ((h.own p hp).block k hk).2.1
theorem Ds.base (h : Ds B w g mb m sz lf wr) : ∀ k, FW g mb m k → B ≤ k := by
  rintro k (rfl | rfl | ⟨p, hp, hk⟩)
  · exact h.bg
  · exact h.bm
  · exact ((h.own p hp).block k hk).1
theorem Ds.below (h : Ds B w g mb m sz lf wr) (hb : Below w.heap.size w w') : Ds B w' g mb m sz lf wr := h.same fun k hk => hb.block k (h.lt k hk)
theorem Ds.ne (h : Ds B w g mb m sz lf wr) : g ≠ mb := by
  intro e
  obtain ⟨arr, clock, h1, _⟩ := h.mp
  have h2 : w.heap[g]? = some (.cells _ 35 (0, 0)) := h.at_
  rw [e, h1] at h2
  cases h2
theorem Ds.neG (h : Ds B w g mb m sz lf wr) {p : ByteArray × FM} (hp : p ∈ m) : p.2.v.ownBlock ≠ some g := fun e => by
  obtain ⟨_, _, cs, hA⟩ := (h.own p hp).block g e
  exact hA.ne h.at_ (show (5 : Nat) ≠ 35 by decide) rfl
theorem Ds.neM (h : Ds B w g mb m sz lf wr) {p : ByteArray × FM} (hp : p ∈ m) : p.2.v.ownBlock ≠ some mb := fun e => by
  obtain ⟨_, _, cs, hA⟩ := (h.own p hp).block mb e
  obtain ⟨arr, clock, h1, _⟩ := h.mp
  have h2 : w.heap[mb]? = some (.cells _ 5 (0, 0)) := hA
  rw [h1] at h2
  cases h2
theorem find_lk (nm : ByteArray) : ∀ m : FMap, (m.map toFi).find? (isN nm) = (m.find? (keyB nm)).map toFi
  | [] => rfl
  | p :: m => by
    rw [List.map_cons]
    cases hk : keyB nm p with
    | true => rw [List.find?_cons_of_pos (by exact hk), List.find?_cons_of_pos hk]; rfl
    | false => rw [List.find?_cons_of_neg (by show ¬ (keyB nm p = true); rw [hk]; simp), List.find?_cons_of_neg (by rw [hk]; simp)]; exact find_lk nm m
theorem look_find {nm : ByteArray} {m : FMap} : (m.map toFi).find? (isN nm) = (lookM m nm).map (fun f => toFi (nm, f)) := by
  rw [find_lk, lookM]
  cases hf : m.find? (keyB nm) with
  | none => rfl
  | some p =>
    have := keyB_iff.1 (List.find?_some hf)
    subst this
    rfl
theorem look_mem {nm : ByteArray} {m : FMap} {f : FM} (h : lookM m nm = some f) : (nm, f) ∈ m := by
  unfold lookM at h
  cases hf : m.find? (keyB nm) with
  | none => rw [hf] at h; cases h
  | some p =>
    rw [hf] at h
    have h1 := keyB_iff.1 (List.find?_some hf)
    injection h with h
    rw [← h, ← h1]
    exact List.mem_of_find?_eq_some hf
theorem isN_inj {a b : ByteArray} {f : Fi} (h : f.nm = b) : isN a f = false ↔ a ≠ b := by
  unfold isN
  rw [h, beq_eq_false_iff_ne, ne_eq, ne_eq]
  exact ⟨fun q e => q (by rw [e]), fun q e => q (toL_inj e).symm⟩
end
/-- What the program's disk is. -/
structure CDv (B : Nat) (w : World) (g mb : Nat) (W F : Nat → Prop) (m : FMap) (d : Dk) : Prop where
  ds : Ds B w g mb m d.sz d.lf d.wr
  fs : (m.map toFi).Perm d.fs
  sub : ∀ k, FW g mb m k → W k
  wf : ∀ k, W k → F k ∧ B ≤ k
  lt : ∀ k, F k → k < w.heap.size
def CDp : CDT := fun B w g W F d => ∃ mb m, CDv B w g mb W F m d
section
variable {B g mb : Nat} {w w' : World} {W F : Nat → Prop} {m : FMap} {d : Dk}
theorem CDv.same (h : CDv B w g mb W F m d) (k : ∀ k, F k → w'.heap[k]? = w.heap[k]?) (hs : w.heap.size ≤ w'.heap.size) : CDv B w' g mb W F m d :=
  ⟨h.ds.same fun i hi => k i (h.wf i (h.sub i hi)).1, h.fs, h.sub, h.wf, fun i hi => Nat.lt_of_lt_of_le (h.lt i hi) hs⟩
/-- Names are apart. -/
theorem apart_of {fs : List Fi} (hn : (fs.map Fi.nm).Nodup) : fs.Pairwise (fun a b => isN a.nm b = false) := by
  rw [List.nodup_iff_pairwise_ne, List.pairwise_map] at hn
  exact hn.imp fun {a b} q => (isN_inj rfl).2 q
theorem CDv.nodup (h : CDv B w g mb W F m d) : (d.fs.map Fi.nm).Nodup := by
  have h1 := h.ds.mp.nodup
  have h2 := h.fs.map Fi.nm
  rw [List.map_map] at h2
  exact h2.nodup_iff.1 h1
theorem find_perm {nm : ByteArray} : ∀ {a b : List Fi}, a.Perm b → (a.map Fi.nm).Nodup → a.find? (isN nm) = b.find? (isN nm) := by
  intro a b hp hn
  cases ha : a.find? (isN nm) with
  | none =>
    symm
    rw [List.find?_eq_none] at ha ⊢
    exact fun x hx => ha x (hp.mem_iff.2 hx)
  | some f =>
    cases hb : b.find? (isN nm) with
    | none =>
      rw [List.find?_eq_none] at hb
      exact absurd (List.find?_some ha) (hb f (hp.mem_iff.1 (List.mem_of_find?_eq_some ha)))
    | some f' =>
      have m1 := List.mem_of_find?_eq_some ha
      have m2 := hp.mem_iff.2 (List.mem_of_find?_eq_some hb)
      have e1 := List.find?_some ha
      have e2 := List.find?_some hb
      have en : f.nm = f'.nm := by
        unfold isN at e1 e2
        rw [beq_iff_eq] at e1 e2
        exact toL_inj (e1.trans e2.symm)
      congr 1
      clear ha hb e1 e2 hp
      revert m1 m2
      induction a with
      | nil => intro m1; cases m1
      | cons x a ih =>
        intro m1 m2
        rw [List.map_cons, List.nodup_cons] at hn
        rcases List.mem_cons.1 m1 with q1 | q1
        · rcases List.mem_cons.1 m2 with q2 | q2
          · rw [q1, q2]
          · exact absurd (List.mem_map.2 ⟨f', q2, by rw [← en, q1]⟩) hn.1
        · rcases List.mem_cons.1 m2 with q2 | q2
          · exact absurd (List.mem_map.2 ⟨f, q1, by rw [en, q2]⟩) hn.1
          · exact ih hn.2 q1 q2
theorem CDv.find (h : CDv B w g mb W F m d) (nm : ByteArray) : d.fs.find? (isN nm) = (lookM m nm).map (fun f => toFi (nm, f)) := by
  rw [← look_find]
  refine (find_perm h.fs ?_).symm
  rw [List.map_map]
  exact h.ds.mp.nodup
end
end Go.Proofs.YtcmkjjlchljffaaDoor

/- The landed disk: what it tells of itself. -/
namespace Go.Proofs.YtcmkjjlchljffaaDoor
open Go.RowKit
set_option linter.unusedVariables false
set_option maxRecDepth 100000

section
variable {g : Nat} {w : World} {c1 c2 c3 c4 : Value}
theorem i35 : ∃ j, Tryd.prog.info? 35 = some j := by
  cases h : Tryd.prog.info? 35 with
  | some j => exact ⟨j, rfl⟩
  | none =>
    have : (Tryd.prog.info? 35).isSome = true := by kernel_rfl
    rw [h] at this; cases this
theorem eq_ptr (a : Addr) (u : World) : (binOp .eql 22 (.pointer (some a)) (.pointer (some a))).run Tryd.prog u = .ok (.bool true) u := by
  obtain ⟨j, hj⟩ := i35
  exact run_eql_ptr_same u a Tryd.underlying22 hj
theorem eq_ptr0 (a : Addr) (u : World) : (binOp .eql 22 (.pointer none) (.pointer (some a))).run Tryd.prog u = .ok (.bool false) u := by
  have h : ∀ d : Nat, (Op.equalIn (d + 1) 22 (.pointer none) (.pointer (some a))).run Tryd.prog u = .ok false u := fun d => by
    simp [Op.equalIn, run_underlying Tryd.underlying22]
  simp only [binOp]
  simp [Op.equal, Op.maxDepth, h 9999]
theorem made_yes (h : At 35 w g [.pointer (some ⟨g, 0, none⟩), c1, c2, c3, c4]) : Calls Tryd.prog 33 #[.pointer (some ⟨g, 0, none⟩)] w fun r w' => r = .returned (.bool true) ∧ w' = w := by
  have q := h.cell 0
  simp only [List.getElem?_cons_zero] at q
  go_enter Tryd.func33, Tryd.ntmps33
  go_wp2
  rw [eq_ptr]
  go_wp2
  go_ret
  exact ⟨rfl, rfl⟩
theorem made_no (h : At 35 w g [.pointer none, c1, c2, c3, c4]) : Calls Tryd.prog 33 #[.pointer (some ⟨g, 0, none⟩)] w fun r w' => r = .returned (.bool false) ∧ w' = w := by
  have q := h.cell 0
  simp only [List.getElem?_cons_zero] at q
  go_enter Tryd.func33, Tryd.ntmps33
  go_wp2
  rw [eq_ptr0]
  go_wp2
  go_ret
  exact ⟨rfl, rfl⟩
theorem made_nil (w : World) : Calls Tryd.prog 33 #[.pointer none] w fun r w' => r = .returned (.bool false) ∧ w' = w := by
  go_enter Tryd.func33, Tryd.ntmps33
  go_wp2
  go_ret
  exact ⟨rfl, rfl⟩
end
section
variable {B g mb : Nat} {w : World} {m : FMap} {sz wr : Nat} {lf : Int}
theorem size_p (h : Ds B w g mb m sz lf wr) : Calls Tryd.prog 22 #[.pointer (some ⟨g, 0, none⟩)] w fun r w' => r = .returned (.int .i64 (sz : Int)) ∧ w' = w := by
  have HM := hidU (made_yes h.at_)
  have q := h.at_.cell 1
  simp only [List.getElem?_cons_zero, List.getElem?_cons_succ] at q
  clear h
  go_enter Tryd.func22, Tryd.ntmps22
  go_wp2_with (go_at_call 33; refine HM.out.mono ?_; rintro _ w1 ⟨rfl, hw⟩; obtain rfl : w = w1 := hw.symm; clear hw)
  go_ret
  exact ⟨rfl, rfl⟩
theorem writes_p (h : Ds B w g mb m sz lf wr) : Calls Tryd.prog 25 #[.pointer (some ⟨g, 0, none⟩)] w fun r w' => r = .returned (.int .i64 (wr : Int)) ∧ w' = w := by
  have HM := hidU (made_yes h.at_)
  have q := h.at_.cell 4
  simp only [List.getElem?_cons_zero, List.getElem?_cons_succ] at q
  clear h
  go_enter Tryd.func25, Tryd.ntmps25
  go_wp2_with (go_at_call 33; refine HM.out.mono ?_; rintro _ w1 ⟨rfl, hw⟩; obtain rfl : w = w1 := hw.symm; clear hw)
  go_ret
  exact ⟨rfl, rfl⟩
theorem stopped_p (h : Ds B w g mb m sz lf wr) : Calls Tryd.prog 24 #[.pointer (some ⟨g, 0, none⟩)] w fun r w' => r = .returned (.bool (lf == 0)) ∧ w' = w := by
  have HM := hidU (made_yes h.at_)
  have q := h.at_.cell 3
  simp only [List.getElem?_cons_zero, List.getElem?_cons_succ] at q
  clear h
  go_enter Tryd.func24, Tryd.ntmps24
  go_wp2_with (go_at_call 33; refine HM.out.mono ?_; rintro _ w1 ⟨rfl, hw⟩; obtain rfl : w = w1 := hw.symm; clear hw)
  go_ret
  exact ⟨rfl, rfl⟩
end
/-- A file's loose bytes. -/
theorem loose_any (f : FM) (n : Nat) (c : Nat) (a : Option Addr) (w : World) (hv : f.v = .slice a n c) (hs : f.sf ≤ 4611686018427387904) (hn : n ≤ 4611686018427387904) : Calls Tryd.prog 51 #[f.val] w fun r w' => r = .returned (.int .i64 ((n : Int) - f.sf)) ∧ Below w.heap.size w w' := by
  obtain ⟨v, bs, sf, hd⟩ := f
  simp only at hv hs
  subst hv
  unfold FM.val
  go_enter Tryd.func51, Tryd.ntmps51
  go_wp2
  go_ret
  exact ⟨rfl, (Below.refl _ w).alloc (Nat.le_refl _) _⟩
end Go.Proofs.YtcmkjjlchljffaaDoor

/- The landed disk: made, New, lacks, Loose. -/
namespace Go.Proofs.YtcmkjjlchljffaaDoor
open Go.RowKit
set_option linter.unusedVariables false
set_option maxRecDepth 100000
set_option maxHeartbeats 3200000

section
variable {B g mb : Nat} {w : World} {m : FMap} {sz wr : Nat} {lf : Int} {nm : ByteArray}
theorem Ds.files (h : Ds B w g mb m sz lf wr) : w.cell? ⟨g, 2, none⟩ = some (.map (some mb)) := by
  have q := h.at_.cell 2
  simpa only [List.getElem?_cons_zero, List.getElem?_cons_succ] using q
def lkZ (m : FMap) (nm : ByteArray) : Int := if (lookM m nm).isSome then 0 else 6
theorem lacks_p (h : Ds B w g mb m sz lf wr) (hs : nm.size ≤ 9223372036854775807) : Calls Tryd.prog 49 #[.pointer (some ⟨g, 0, none⟩), .string nm] w fun r w' => r = .returned (.int .i64 (lkZ m nm)) ∧ Below w.heap.size w w' := by
  have HM := hidU (made_yes h.at_)
  have q := h.files
  have HP := hidU h.mp
  obtain ⟨R, hR⟩ : ∃ R, Hid (R = lkZ m nm) := ⟨_, (rfl : _ = lkZ _ _)⟩
  rw [← hR.out]
  cases hl : lookM m nm with
  | none =>
    have e : R = 6 := by rw [hR.out, lkZ, hl]; rfl
    subst e
    have HL := hidU hl
    clear h hR hl
    go_enter Tryd.func49, Tryd.ntmps49
    go_wp2_with (first
      | (go_at_call 33; refine HM.out.mono ?_; rintro _ w1 ⟨rfl, hw⟩; obtain rfl : w = w1 := hw.symm; clear hw)
      | (refine wpList_look mF rfl (.tmp 14) (.tmp 15) true rfl nm rfl rfl HP.out hs (.tuple #[.agg #[.slice none 0 0, .int .i64 0, .bool false], .bool false]) (by rw [HL.out]; rfl) ?_))
    go_ret
    exact ⟨rfl, (Below.refl _ w).alloc (Nat.le_refl _) _⟩
  | some f =>
    have e : R = 0 := by rw [hR.out, lkZ, hl]; rfl
    subst e
    obtain ⟨a, c, hv, _⟩ := (h.own _ (look_mem hl)).row
    obtain ⟨v, bs, sf, hd⟩ := f
    simp only at hv
    subst hv
    have HL := hidU hl
    obtain ⟨n, hn⟩ : ∃ n, Hid (bs.length = n) := ⟨_, (rfl : bs.length = _)⟩
    rw [hn.out] at HL
    clear h hR hl
    go_enter Tryd.func49, Tryd.ntmps49
    go_wp2_with (first
      | (go_at_call 33; refine HM.out.mono ?_; rintro _ w1 ⟨rfl, hw⟩; obtain rfl : w = w1 := hw.symm; clear hw)
      | (refine wpList_look mF rfl (.tmp 14) (.tmp 15) true rfl nm rfl rfl HP.out hs (.tuple #[.agg #[.slice a n c, .int .i64 (sf : Int), .bool hd], .bool true]) (by rw [HL.out]; rfl) ?_))
    go_ret
    exact ⟨rfl, (Below.refl _ w).alloc (Nat.le_refl _) _⟩
end
end Go.Proofs.YtcmkjjlchljffaaDoor
