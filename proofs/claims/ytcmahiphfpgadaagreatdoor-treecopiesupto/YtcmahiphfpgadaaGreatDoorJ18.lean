/- Joined texts of the proof. -/
import Derived.Test.YtcmahiphfpgadaaGreatDoorJ13
import Derived.Test.YtcmahiphfpgadaaGreatDoorJ12
import Derived.Test.YtcmahiphfpgadaaGreatDoorJ8

/- Programs that came in are opened: nil rows have no room. -/
namespace Go.Proofs.YtcmahiphfpgadaaGreatDoor
open Go.ChangeShapes Go.WideShapes Go.ChangeAt Go.RowKit
set_option linter.unusedVariables false

/-- Nil rows have no room. -/
def PT.NilOk (p : PT) : Prop := (p.a1 = none → p.c1 = 0) ∧ (p.a2 = none → p.c2 = 0) ∧ ∀ t ∈ p.threads, t.a1 = none → t.c1 = 0

section
variable {H : Type} {enc : TypeId × Value → H} {w : World} {sp : Nat → Bool} {held : Bool}
theorem nil_row {fuel : Nat} {t e : TypeId} (ht : Tryz.prog.underlying t = some (.slice e)) {a : Option Addr} {n c : Nat} {x : DataW H × List MemPlace} (h : DataW.trod enc Tryz.prog w 0 sp held fuel t [.slice a n c] = some x) : a = none → c = 0 := by
  rintro rfl
  rcases DataW.trod_slice ht h with ⟨h1, -⟩ | ⟨ad, len, cap, elems, rest, m, hf, h1, -⟩
  · simp at h1
    exact h1.2
  · simp at h1
theorem open_th2 (fuel : Nat) (cs : List Value) (x : DataW H × List MemPlace) (h : DataW.trod enc Tryz.prog w 0 sp held fuel 59 cs = some x) (hN : Rows.uptoBulk x.1 ≤ 1048576) : ∃ v : TT, (cs = v.cells ∧ v.In w.heap.size w ∧ thOk v.th ∧ (v.a1 = none → v.c1 = 0)) ∧ thW v.th ≤ Rows.uptoBulk x.1 := by
  obtain ⟨v, ⟨rfl, h2, h3⟩, h4⟩ := open_th fuel cs x h hN
  refine ⟨v, ⟨rfl, h2, h3, ?_⟩, h4⟩
  obtain ⟨xs, n, hf, rfl, hl, hlen, hx⟩ := DataW.trod_struct Tryz.underlying59 h
  obtain ⟨y0, y1, y2, rfl⟩ := len3 (show xs.length = 3 from hlen)
  have f1 := hx 1 { name := "Locals", type := 22, offset := 1, embedded := false, tag := "", pkgPath := "", byteOffset := 16 } rfl
  dsimp only at f1
  rw [c22] at f1
  have f1 : DataW.trod enc Tryz.prog w 0 sp held n 22 [.slice v.a1 v.locals.length v.c1] = some y1 := f1
  exact nil_row Tryz.underlying22 f1

/-- A program that came in. -/
theorem open_pg2 (fuel : Nat) (cs : List Value) (x : DataW H × List MemPlace) (h : DataW.trod enc Tryz.prog w 0 sp held fuel 26 cs = some x) (hN : Rows.uptoBulk x.1 ≤ 1048576) : ∃ p : PT, (cs = p.cells ∧ p.In w.heap.size w ∧ pgOk p.pg) ∧ pgW p.pg ≤ 1048576 ∧ p.NilOk := by
  obtain ⟨xs, n, hf, rfl, hl, hlen, hx⟩ := DataW.trod_struct Tryz.underlying26 h
  rw [c26] at hl
  obtain ⟨a, b, c, rfl⟩ := len3 hl
  obtain ⟨y0, y1, y2, rfl⟩ := len3 (show xs.length = 3 from hlen)
  have f0 := hx 0 { name := "Shared", type := 22, offset := 0, embedded := false, tag := "", pkgPath := "", byteOffset := 0 } rfl
  dsimp only at f0
  rw [c22] at f0
  have f0 : DataW.trod enc Tryz.prog w 0 sp held n 22 [a] = some y0 := f0
  have f1 := hx 1 { name := "Mutexes", type := 23, offset := 1, embedded := false, tag := "", pkgPath := "", byteOffset := 24 } rfl
  dsimp only at f1
  rw [c23] at f1
  have f1 : DataW.trod enc Tryz.prog w 0 sp held n 23 [b] = some y1 := f1
  have f2 := hx 2 { name := "Threads", type := 24, offset := 2, embedded := false, tag := "", pkgPath := "", byteOffset := 48 } rfl
  dsimp only at f2
  rw [c24] at f2
  have f2 : DataW.trod enc Tryz.prog w 0 sp held n 24 [c] = some y2 := f2
  have hbk : Rows.uptoBulk y0.1 + (Rows.uptoBulk y1.1 + Rows.uptoBulk y2.1) + 1 ≤ 1048576 := by
    simpa [Rows.uptoBulk, Rows.uptoBulkAll] using hN
  obtain ⟨a1, c1', ks, e0, k1, k2, k3, k4⟩ := open_row 22 56 3 (by decide) Tryz.underlying22 c56 (fun v : VT => vrW v.vr) (fun (e : VT) cs' => cs' = e.cells ∧ e.In w.heap.size w ∧ vrOk e.vr) n _ _ f0 1048576 (by omega) (fun m hm cs' y hy hby => open_vr m cs' y hy)
  obtain ⟨a2, c2', ms, e1, m1, m2, m3, m4⟩ := open_row 23 9 1 (by decide) Tryz.underlying23 c9 (fun s : ByteArray => s.data.toList.length + 1) (fun (s : ByteArray) cs' => cs' = [.string s]) n _ _ f1 1048576 (by omega) (fun m hm cs' y hy hby => open_nm m cs' y hy)
  obtain ⟨a3, c3', ts, e2, l1, l2, l3, l4⟩ := open_row 24 59 3 (by decide) Tryz.underlying24 c59 (fun v : TT => thW v.th) (fun (e : TT) cs' => cs' = e.cells ∧ e.In w.heap.size w ∧ thOk e.th ∧ (e.a1 = none → e.c1 = 0)) n _ _ f2 1048576 (by omega) (fun m hm cs' y hy hby => open_th2 m cs' y hy hby)
  simp at e0 e1 e2
  subst e0 e1 e2
  obtain ⟨r1, o1⟩ := rowV_open k1 k2 k4
  refine ⟨⟨a1, c1', ks, a2, c2', ms, a3, c3', ts⟩, ⟨rfl, ⟨r1, ⟨m1, m2, ?_⟩, l1, l2, ?_⟩, o1, ?_⟩, ?_, nil_row Tryz.underlying22 f0, nil_row Tryz.underlying23 f1, ?_⟩
  · rcases m4 with m4 | ⟨g, o, ha, hg, hr⟩
    · exact .inl m4
    · refine .inr ⟨g, o, ha, hg, fun i s hs => ?_⟩
      obtain ⟨cs', h1, rfl⟩ := hr i s hs
      have := h1 0 _ rfl
      simpa using this
  · rcases l4 with l4 | ⟨g, o, ha, hg, hr⟩
    · exact .inl l4
    · refine .inr ⟨g, o, ha, hg, fun i e he => ?_⟩
      obtain ⟨cs', h1, rfl, h3, -⟩ := hr i e he
      exact ⟨h1, h3⟩
  · intro t ht
    obtain ⟨e, he, rfl⟩ := List.mem_map.1 ht
    obtain ⟨i, hi⟩ := List.mem_iff_getElem?.1 he
    rcases l4 with l4 | ⟨g, o, ha, hg, hr⟩
    · have he' : e ∈ ts := he
      rw [l4] at he'; cases he'
    · obtain ⟨cs', -, -, -, h4, -⟩ := hr i e hi
      exact h4
  · show ((ks.map VT.vr).map vrW).sum + ((ms.map fun s : ByteArray => s.data.toList).map fun m => m.length + 1).sum + ((ts.map TT.th).map thW).sum ≤ _
    rw [List.map_map, List.map_map, List.map_map]
    have e1 : (ks.map (vrW ∘ VT.vr)).sum = (ks.map fun v : VT => vrW v.vr).sum := rfl
    have e2 : (ms.map ((fun m : List UInt8 => m.length + 1) ∘ fun s : ByteArray => s.data.toList)).sum = (ms.map fun s : ByteArray => s.data.toList.length + 1).sum := rfl
    have e3 : (ts.map (thW ∘ TT.th)).sum = (ts.map fun v : TT => thW v.th).sum := rfl
    rw [e1, e2, e3]
    omega
  · intro t ht
    obtain ⟨i, hi⟩ := List.mem_iff_getElem?.1 ht
    rcases l4 with l4 | ⟨g, o, ha, hg, hr⟩
    · have ht' : t ∈ ts := ht
      rw [l4] at ht'; cases ht'
    · obtain ⟨cs', -, -, -, -, h5⟩ := hr i t hi
      exact h5
end
end Go.Proofs.YtcmahiphfpgadaaGreatDoor

/- Rows are copied into blocks that may be written. -/
namespace Go.Proofs.YtcmahiphfpgadaaGreatDoor
open Go.RowKit
set_option linter.unusedVariables false

/-- What copying does. -/
def SoSW (B : Nat) (x : ST) : Prop := ∀ w, x.In B w → B ≤ w.heap.size → Calls Tryz.prog 93 #[.agg x.cells.toArray] w fun r w' => ∃ y : ST, r = .returned (.agg y.cells.toArray) ∧ y.st = x.st ∧ y.In w'.heap.size w' ∧ y.Lies (Fr w.heap.size w') ∧ Below w.heap.size w w'

set_option maxRecDepth 100000 in
set_option maxHeartbeats 3200000 in
theorem softS_of (B : Nat) (xs : List ST) (hS : ∀ x ∈ xs, SoSW B x) (a : Option Addr) (c : Nat) (w : World) (h : RowS B w a c xs) (hBw : B ≤ w.heap.size) :
    Calls Tryz.prog 92 #[.slice a xs.length c, .func (.func 93) #[] #[]] w fun r w' => ∃ (a' : Option Addr) (c' : Nat) (ys : List ST), r = .returned (.slice a' ys.length c') ∧ ys.map ST.st = xs.map ST.st ∧ RowS w'.heap.size w' a' c' ys ∧ (ys = [] ∨ ∃ g o, a' = some ⟨g, o, none⟩ ∧ Fr w.heap.size w' g) ∧ ST.LiesL (Fr w.heap.size w') ys ∧ Below w.heap.size w w' := by
  obtain ⟨n, hn⟩ : ∃ n, Hid (n = xs.length) := ⟨_, (rfl : xs.length = _)⟩
  have hl := h.1
  have hk := h.2.1
  rw [← hn.out] at hl hk ⊢
  have HS : Hid (∀ x ∈ xs, SoSW B x) := hS
  have HR : Hid (RowS B w a c xs) := h
  clear hS h
  cases a with
  | none =>
    have hx : Hid (xs = []) := by
      obtain ⟨_, _, h | ⟨g, o, h, _⟩⟩ := HR.out
      · exact h
      · cases h
    clear HR HS
    have hnil := fun u => Lib.run_eql_slice_nil (P := Tryz.prog) u 57 87 none n c 0 0 Tryz.underlying57
    go_enter Tryz.func92, Tryz.ntmps92
    go_wp2_with fail
    go_ret
    exact ⟨none, 0, [], rfl, by rw [hx.out], ⟨by simp, by simp, .inl rfl⟩, .inl rfl, ST.LiesL.of (fun e he => by cases he), Below.refl _ _⟩
  | some ad =>
    have hnil := fun u => Lib.run_eql_slice_nil (P := Tryz.prog) u 57 87 (some ad) n c 0 0 Tryz.underlying57
    go_enter Tryz.func92, Tryz.ntmps92
    go_wp2_with (first
      | ((with_reducible show wpList _ _ _ _ _ _); refine wpList_make_soft (P := Tryz.prog) rfl (.tmp 11) (.tmp 11) 57 rfl 87 _ 9 136 Tryz.underlying57 f87 n rfl rfl (by omega) (by omega) ?_; intro w1 ht1 hb1 hs1; refine Hid.out ?_))
    refine hidU ?_
    have H1 : Hid ((w1.there w.heap.size 0 (n * 9) ∧ Soft w1 w.heap.size) ∧ Below w.heap.size w w1 ∧ w.heap.size < w1.heap.size) := ⟨ht1, hb1, hs1⟩
    clear ht1 hb1 hs1
    go_wp2_with fail
    go_loopw [15] (fun j wr => ∃ i : Nat, j = .int .i64 (i : Int) ∧ i ≤ n ∧ Hid (∃ ys : List ST, ys.length = i ∧ ys.map ST.st = (xs.take i).map ST.st ∧ Below w.heap.size w wr ∧ (wr.there w.heap.size 0 (n * 9) ∧ Soft wr w.heap.size) ∧ w.heap.size < wr.heap.size ∧ ∀ (q : Nat) (y : ST), ys[q]? = some y → wr.rangeAt w.heap.size (q * 9) y.cells ∧ y.In wr.heap.size wr ∧ y.Lies (Fr (w.heap.size + 1) wr))) (fun j _ => n - (intOf j).toNat)
    case atStart => exact ⟨0, rfl, by omega, [], rfl, rfl, H1.out.2.1, H1.out.1, H1.out.2.2, fun q y h => by simp at h⟩
    case round =>
      clear H1
      obtain ⟨i, rfl, hi, hX⟩ := hrel
      by_cases hc : i < n
      · obtain ⟨x, hx⟩ : ∃ k, xs[i]? = some k := ⟨xs[i]'(by rw [← hn.out]; exact hc), by rw [List.getElem?_eq_getElem]⟩
        obtain ⟨ys, hyl, hym, hbw, hth, hlt, hall⟩ := hX.out
        have hold : Old B w wr := Old.of_below hbw hBw
        obtain ⟨g1, o1, had, hg1, hr1, hx1⟩ := (HR.out.old hold).at i x hx
        cases had
        have HY : Hid (ys.length = i ∧ ys.map ST.st = (xs.take i).map ST.st ∧ Below w.heap.size w wr ∧ (wr.there w.heap.size 0 (n * 9) ∧ Soft wr w.heap.size) ∧ ∀ (q : Nat) (y : ST), ys[q]? = some y → wr.rangeAt w.heap.size (q * 9) y.cells ∧ y.In wr.heap.size wr ∧ y.Lies (Fr (w.heap.size + 1) wr)) := ⟨hyl, hym, hbw, hth, hall⟩
        have HK : Hid (x.In B wr ∧ B ≤ wr.heap.size) := ⟨hx1, by have := hbw.size; omega⟩
        have HTK : Hid ((xs.take (i + 1)).map ST.st = (xs.take i).map ST.st ++ [x.st]) := by
          show _ = _
          rw [List.take_add_one, hx]
          simp
        have hIx := HS.out x (List.mem_of_getElem? hx)
        have HI : Hid (∀ w, x.In B w → B ≤ w.heap.size → Calls Tryz.prog 93 #[.agg x.cells.toArray] w fun r w' => ∃ y : ST, r = .returned (.agg y.cells.toArray) ∧ y.st = x.st ∧ y.In w'.heap.size w' ∧ y.Lies (Fr w.heap.size w') ∧ Below w.heap.size w w') := hIx
        clear hX hyl hym hbw hth hall hold hx1 HR HS hIx
        go_wp2_with (first
          | ((with_reducible show wpList _ _ _ _ _ _); refine wpList_load_mid (P := Tryz.prog) rfl 87 (.tmp 18) rfl g1 (o1 + i * 9) (by first | rfl | (simp; done)) x.cells _ hr1 Tryz.underlying87 rfl (by rw [ST.cells_len]; exact i38) ?_)
          | ((with_reducible show wpList _ _ _ _ _ _); refine wpList_alloc_at rfl 87 rfl _ 9 z38 ?_; intro w2 hA2 hb2 hs2)
          | ((with_reducible show wpList _ _ _ _ _ _); refine wpList_store_at (P := Tryz.prog) rfl 87 (.tmp 7) (.tmp 19) rfl wr.heap.size x.cells rfl rfl 87 _ hA2 (by rw [ST.cells_len]; exact i38) (by rw [ST.cells_len]; rfl) x.one ?_; intro w3 hA3 hb3 hs3; refine Hid.out ?_))
        refine hidU ?_
        have hB3 : Below wr.heap.size wr w3 := hb3.below hb2 (Nat.le_refl _) (by omega)
        have hC := HI.out w3 (HK.out.1.old (Old.of_below hB3 HK.out.2)) (by have := hB3.size; have := HK.out.2; omega)
        have H3 : Hid (Below wr.heap.size wr w3) := hB3
        clear hb3 hb2 hA2 hr1 hs2 hs3 HI HK hB3
        go_wp2_with (first
          | ((with_reducible show wpList _ _ _ _ _ _); refine wpList_load_at (P := Tryz.prog) rfl 87 (.tmp 7) rfl wr.heap.size rfl 87 x.cells hA3 _ Tryz.underlying87 rfl (by rw [ST.cells_len]; exact i38) ?_))
        refine hC.mono ?_
        rintro r w4 ⟨y, rfl, hye, hyi, hyu, hb4⟩
        have hw4 : Below wr.heap.size wr w4 := H3.out.trans (hb4.mono H3.out.size)
        have hht : w4.there w.heap.size (i * 9) y.cells.toArray.size := by
          intro j hj
          have hlen : y.cells.toArray.size = 9 := by simp [ST.cells_len]
          rw [hlen] at hj
          have hin : i * 9 + j < n * 9 := by
            have : (i + 1) * 9 ≤ n * 9 := Nat.mul_le_mul_right _ (by omega)
            omega
          have h0 := HY.out.2.2.2.1.1 (i * 9 + j) hin
          rw [Nat.zero_add] at h0
          rw [World.cell?_of_block (w := wr) (w' := w4) (hw4.block _ hlt), World.frozen?_of_block (w := wr) (w' := w4) (hw4.block _ hlt)]
          exact h0
        clear hC hA3
        go_wp2_with (first
          | ((with_reducible show wpList _ _ _ _ _ _); refine wpList_store_mid (P := Tryz.prog) rfl 87 (.tmp 25) (.tmp 24) rfl w.heap.size (i * 9) y.cells.toArray (by first | rfl | (simp; done)) rfl hht (by rw [show y.cells.toArray.size = 9 by simp [ST.cells_len]]; exact i38) (all_oneCell_toArray y.one) ?_; refine Hid.out ?_))
        refine hidU ?_
        have hlen : y.cells.length = 9 := by simp [ST.cells_len]
        have HF : Hid (∃ ys : List ST, ys.length = i + 1 ∧ ys.map ST.st = (xs.take (i + 1)).map ST.st ∧ Below w.heap.size w (w4.setCells w.heap.size (i * 9) y.cells.toArray.toList) ∧ ((w4.setCells w.heap.size (i * 9) y.cells.toArray.toList).there w.heap.size 0 (n * 9) ∧ Soft (w4.setCells w.heap.size (i * 9) y.cells.toArray.toList) w.heap.size) ∧ w.heap.size < (w4.setCells w.heap.size (i * 9) y.cells.toArray.toList).heap.size ∧ ∀ (q : Nat) (y' : ST), ys[q]? = some y' → (w4.setCells w.heap.size (i * 9) y.cells.toArray.toList).rangeAt w.heap.size (q * 9) y'.cells ∧ y'.In (w4.setCells w.heap.size (i * 9) y.cells.toArray.toList).heap.size (w4.setCells w.heap.size (i * 9) y.cells.toArray.toList) ∧ y'.Lies (Fr (w.heap.size + 1) (w4.setCells w.heap.size (i * 9) y.cells.toArray.toList))) := by
          obtain ⟨hyl, hym, hbw, hth, hall⟩ := HY.out
          have hsz := size_setCells w.heap.size y.cells.toArray.toList (i * 9) w4
          have hBut : But w.heap.size w4 (w4.setCells w.heap.size (i * 9) y.cells.toArray.toList) := But.setCells _ _ _ (But.refl _ _)
          have hw04 : Below w.heap.size w w4 := hbw.trans (hw4.mono hbw.size)
          have hs4 : wr.heap.size ≤ w4.heap.size := hw4.size
          have hs34 : w3.heap.size ≤ w4.heap.size := hb4.size
          have hs3 : wr.heap.size ≤ w3.heap.size := H3.out.size
          have hMid : ∀ C, C ≤ w4.heap.size → Mid (w.heap.size + 1) C w4 (w4.setCells w.heap.size (i * 9) y.cells.toArray.toList) := fun C hC k h1 h2 => hBut.block k (by omega) (by omega)
          refine ⟨ys ++ [y], by simp [hyl], by rw [List.map_append, hym, HTK.out]; simp [hye], hBut.below hw04 (Nat.le_refl _) (by omega), ?_, by omega, ?_⟩
          · refine ⟨World.there_setCells ?_ _ _ _, Soft.setCells _ _ _ _ (hth.2.keep (hw4.block _ hlt))⟩
            intro j hj
            rw [World.cell?_of_block (w := wr) (w' := w4) (hw4.block _ hlt), World.frozen?_of_block (w := wr) (w' := w4) (hw4.block _ hlt)]
            exact hth.1 j hj
          · intro q y' hq
            rw [hsz]
            by_cases hqi : q < i
            · rw [List.getElem?_append_left (by omega)] at hq
              obtain ⟨r1, r2, r3⟩ := hall q y' hq
              have hl' : y'.cells.length = 9 := by simp [ST.cells_len]
              have z0 := ST.keepF (A := w.heap.size + 1) (fun k _ h2 => hw4.block k h2) r2 r3
              have z := ST.keepF (hMid _ (Nat.le_refl _)) (z0.1.up hs4) z0.2
              refine ⟨World.rangeAt_setCells_apart (fun j v hj => ?_) _ _ _ (.inr (.inl ?_)), z.1, z.2⟩
              · rw [World.cell?_of_block (w := wr) (w' := w4) (hw4.block _ hlt)]
                exact r1 j v hj
              · rw [hl']
                have : (q + 1) * 9 ≤ i * 9 := Nat.mul_le_mul_right _ (by omega)
                omega
            · rw [List.getElem?_append_right (by omega), hyl] at hq
              have hqe : q = i := by
                have := (List.getElem?_eq_some_iff.1 hq).1
                simp at this
                omega
              subst hqe
              simp at hq
              subst hq
              have z := ST.keepF (hMid _ (Nat.le_refl _)) hyi (hyu.mono (fun k q => q.mono (show w.heap.size + 1 ≤ w3.heap.size by omega)))
              refine ⟨?_, z.1, z.2⟩
              have h0 := World.rangeAt_setCells_same w4 w.heap.size (q * 9) y.cells.toArray.toList (by simpa using hht)
              simpa using h0
        clear HY HTK H3 hye hyi hyu hb4 hw4 hht hlen
        go_wp2
        go_roundw
        case rel => exact ⟨i + 1, by go_num, by omega, HF⟩
        case measure => simp [intOf]; omega
      · have hin : i = n := by omega
        have HY : Hid (∃ (a' : Option Addr) (c' : Nat) (ys : List ST), Value.slice (some ⟨w.heap.size, 0, none⟩) n n = .slice a' ys.length c' ∧ ys.map ST.st = xs.map ST.st ∧ RowS wr.heap.size wr a' c' ys ∧ (ys = [] ∨ ∃ g o, a' = some ⟨g, o, none⟩ ∧ Fr w.heap.size wr g) ∧ ST.LiesL (Fr w.heap.size wr) ys ∧ Below w.heap.size w wr) := by
          obtain ⟨ys, hyl, hym, hbw, hth, hlt, hall⟩ := hX.out
          rw [hin, hn.out, List.take_length] at hym
          rw [hin] at hyl
          exact ⟨_, n, ys, by rw [hyl], hym, RowS.of (by omega) (by omega) hlt (fun q y hy => ⟨(hall q y hy).1, (hall q y hy).2.1⟩), .inr ⟨_, _, rfl, Nat.le_refl _, hth.2⟩, ST.LiesL.of (fun y hy => by
            obtain ⟨q, hq⟩ := List.mem_iff_getElem?.1 hy
            exact (hall q y hq).2.2.mono (fun k q => q.mono (by omega))), hbw⟩
        clear hX hin HR HS
        go_wp2
        go_ret
        obtain ⟨a', c', ys, e1, e2⟩ := HY.out
        exact ⟨a', c', ys, by rw [← e1]; rfl, e2⟩

end Go.Proofs.YtcmahiphfpgadaaGreatDoor

/- Rows are copied into blocks that may be written. -/
namespace Go.Proofs.YtcmahiphfpgadaaGreatDoor
open Go.RowKit
set_option linter.unusedVariables false

/-- What copying does. -/
def SoEW (B : Nat) (x : ET) : Prop := ∀ w, x.In B w → B ≤ w.heap.size → Calls Tryz.prog 118 #[.agg x.cells.toArray] w fun r w' => ∃ y : ET, r = .returned (.agg y.cells.toArray) ∧ y.ex = x.ex ∧ y.In w'.heap.size w' ∧ y.Lies (Fr w.heap.size w') ∧ Below w.heap.size w w'

set_option maxRecDepth 100000 in
set_option maxHeartbeats 3200000 in
theorem softE_of (B : Nat) (xs : List ET) (hS : ∀ x ∈ xs, SoEW B x) (a : Option Addr) (c : Nat) (w : World) (h : RowE B w a c xs) (hBw : B ≤ w.heap.size) :
    Calls Tryz.prog 141 #[.slice a xs.length c, .func (.func 118) #[] #[]] w fun r w' => ∃ (a' : Option Addr) (c' : Nat) (ys : List ET), r = .returned (.slice a' ys.length c') ∧ ys.map ET.ex = xs.map ET.ex ∧ RowE w'.heap.size w' a' c' ys ∧ (ys = [] ∨ ∃ g o, a' = some ⟨g, o, none⟩ ∧ Fr w.heap.size w' g) ∧ ET.LiesL (Fr w.heap.size w') ys ∧ Below w.heap.size w w' := by
  obtain ⟨n, hn⟩ : ∃ n, Hid (n = xs.length) := ⟨_, (rfl : xs.length = _)⟩
  have hl := h.1
  have hk := h.2.1
  rw [← hn.out] at hl hk ⊢
  have HS : Hid (∀ x ∈ xs, SoEW B x) := hS
  have HR : Hid (RowE B w a c xs) := h
  clear hS h
  cases a with
  | none =>
    have hx : Hid (xs = []) := by
      obtain ⟨_, _, h | ⟨g, o, h, _⟩⟩ := HR.out
      · exact h
      · cases h
    clear HR HS
    have hnil := fun u => Lib.run_eql_slice_nil (P := Tryz.prog) u 32 34 none n c 0 0 Tryz.underlying32
    go_enter Tryz.func141, Tryz.ntmps141
    go_wp2_with fail
    go_ret
    exact ⟨none, 0, [], rfl, by rw [hx.out], ⟨by simp, by simp, .inl rfl⟩, .inl rfl, ET.LiesL.of (fun e he => by cases he), Below.refl _ _⟩
  | some ad =>
    have hnil := fun u => Lib.run_eql_slice_nil (P := Tryz.prog) u 32 34 (some ad) n c 0 0 Tryz.underlying32
    go_enter Tryz.func141, Tryz.ntmps141
    go_wp2_with (first
      | ((with_reducible show wpList _ _ _ _ _ _); refine wpList_make_soft (P := Tryz.prog) rfl (.tmp 11) (.tmp 11) 32 rfl 34 _ 5 64 Tryz.underlying32 f34 n rfl rfl (by omega) (by omega) ?_; intro w1 ht1 hb1 hs1; refine Hid.out ?_))
    refine hidU ?_
    have H1 : Hid ((w1.there w.heap.size 0 (n * 5) ∧ Soft w1 w.heap.size) ∧ Below w.heap.size w w1 ∧ w.heap.size < w1.heap.size) := ⟨ht1, hb1, hs1⟩
    clear ht1 hb1 hs1
    go_wp2_with fail
    go_loopw [15] (fun j wr => ∃ i : Nat, j = .int .i64 (i : Int) ∧ i ≤ n ∧ Hid (∃ ys : List ET, ys.length = i ∧ ys.map ET.ex = (xs.take i).map ET.ex ∧ Below w.heap.size w wr ∧ (wr.there w.heap.size 0 (n * 5) ∧ Soft wr w.heap.size) ∧ w.heap.size < wr.heap.size ∧ ∀ (q : Nat) (y : ET), ys[q]? = some y → wr.rangeAt w.heap.size (q * 5) y.cells ∧ y.In wr.heap.size wr ∧ y.Lies (Fr (w.heap.size + 1) wr))) (fun j _ => n - (intOf j).toNat)
    case atStart => exact ⟨0, rfl, by omega, [], rfl, rfl, H1.out.2.1, H1.out.1, H1.out.2.2, fun q y h => by simp at h⟩
    case round =>
      clear H1
      obtain ⟨i, rfl, hi, hX⟩ := hrel
      by_cases hc : i < n
      · obtain ⟨x, hx⟩ : ∃ k, xs[i]? = some k := ⟨xs[i]'(by rw [← hn.out]; exact hc), by rw [List.getElem?_eq_getElem]⟩
        obtain ⟨ys, hyl, hym, hbw, hth, hlt, hall⟩ := hX.out
        have hold : Old B w wr := Old.of_below hbw hBw
        obtain ⟨g1, o1, had, hg1, hr1, hx1⟩ := (HR.out.old hold).at i x hx
        cases had
        have HY : Hid (ys.length = i ∧ ys.map ET.ex = (xs.take i).map ET.ex ∧ Below w.heap.size w wr ∧ (wr.there w.heap.size 0 (n * 5) ∧ Soft wr w.heap.size) ∧ ∀ (q : Nat) (y : ET), ys[q]? = some y → wr.rangeAt w.heap.size (q * 5) y.cells ∧ y.In wr.heap.size wr ∧ y.Lies (Fr (w.heap.size + 1) wr)) := ⟨hyl, hym, hbw, hth, hall⟩
        have HK : Hid (x.In B wr ∧ B ≤ wr.heap.size) := ⟨hx1, by have := hbw.size; omega⟩
        have HTK : Hid ((xs.take (i + 1)).map ET.ex = (xs.take i).map ET.ex ++ [x.ex]) := by
          show _ = _
          rw [List.take_add_one, hx]
          simp
        have hIx := HS.out x (List.mem_of_getElem? hx)
        have HI : Hid (∀ w, x.In B w → B ≤ w.heap.size → Calls Tryz.prog 118 #[.agg x.cells.toArray] w fun r w' => ∃ y : ET, r = .returned (.agg y.cells.toArray) ∧ y.ex = x.ex ∧ y.In w'.heap.size w' ∧ y.Lies (Fr w.heap.size w') ∧ Below w.heap.size w w') := hIx
        clear hX hyl hym hbw hth hall hold hx1 HR HS hIx
        go_wp2_with (first
          | ((with_reducible show wpList _ _ _ _ _ _); refine wpList_load_mid (P := Tryz.prog) rfl 34 (.tmp 18) rfl g1 (o1 + i * 5) (by first | rfl | (simp; done)) x.cells _ hr1 Tryz.underlying34 rfl (by rw [ET.cells_len]; exact i29) ?_)
          | ((with_reducible show wpList _ _ _ _ _ _); refine wpList_alloc_at rfl 34 rfl _ 5 z29 ?_; intro w2 hA2 hb2 hs2)
          | ((with_reducible show wpList _ _ _ _ _ _); refine wpList_store_at (P := Tryz.prog) rfl 34 (.tmp 7) (.tmp 19) rfl wr.heap.size x.cells rfl rfl 34 _ hA2 (by rw [ET.cells_len]; exact i29) (by rw [ET.cells_len]; rfl) x.one ?_; intro w3 hA3 hb3 hs3; refine Hid.out ?_))
        refine hidU ?_
        have hB3 : Below wr.heap.size wr w3 := hb3.below hb2 (Nat.le_refl _) (by omega)
        have hC := HI.out w3 (HK.out.1.old (Old.of_below hB3 HK.out.2)) (by have := hB3.size; have := HK.out.2; omega)
        have H3 : Hid (Below wr.heap.size wr w3) := hB3
        clear hb3 hb2 hA2 hr1 hs2 hs3 HI HK hB3
        go_wp2_with (first
          | ((with_reducible show wpList _ _ _ _ _ _); refine wpList_load_at (P := Tryz.prog) rfl 34 (.tmp 7) rfl wr.heap.size rfl 34 x.cells hA3 _ Tryz.underlying34 rfl (by rw [ET.cells_len]; exact i29) ?_))
        refine hC.mono ?_
        rintro r w4 ⟨y, rfl, hye, hyi, hyu, hb4⟩
        have hw4 : Below wr.heap.size wr w4 := H3.out.trans (hb4.mono H3.out.size)
        have hht : w4.there w.heap.size (i * 5) y.cells.toArray.size := by
          intro j hj
          have hlen : y.cells.toArray.size = 5 := by simp [ET.cells_len]
          rw [hlen] at hj
          have hin : i * 5 + j < n * 5 := by
            have : (i + 1) * 5 ≤ n * 5 := Nat.mul_le_mul_right _ (by omega)
            omega
          have h0 := HY.out.2.2.2.1.1 (i * 5 + j) hin
          rw [Nat.zero_add] at h0
          rw [World.cell?_of_block (w := wr) (w' := w4) (hw4.block _ hlt), World.frozen?_of_block (w := wr) (w' := w4) (hw4.block _ hlt)]
          exact h0
        clear hC hA3
        go_wp2_with (first
          | ((with_reducible show wpList _ _ _ _ _ _); refine wpList_store_mid (P := Tryz.prog) rfl 34 (.tmp 25) (.tmp 24) rfl w.heap.size (i * 5) y.cells.toArray (by first | rfl | (simp; done)) rfl hht (by rw [show y.cells.toArray.size = 5 by simp [ET.cells_len]]; exact i29) (all_oneCell_toArray y.one) ?_; refine Hid.out ?_))
        refine hidU ?_
        have hlen : y.cells.length = 5 := by simp [ET.cells_len]
        have HF : Hid (∃ ys : List ET, ys.length = i + 1 ∧ ys.map ET.ex = (xs.take (i + 1)).map ET.ex ∧ Below w.heap.size w (w4.setCells w.heap.size (i * 5) y.cells.toArray.toList) ∧ ((w4.setCells w.heap.size (i * 5) y.cells.toArray.toList).there w.heap.size 0 (n * 5) ∧ Soft (w4.setCells w.heap.size (i * 5) y.cells.toArray.toList) w.heap.size) ∧ w.heap.size < (w4.setCells w.heap.size (i * 5) y.cells.toArray.toList).heap.size ∧ ∀ (q : Nat) (y' : ET), ys[q]? = some y' → (w4.setCells w.heap.size (i * 5) y.cells.toArray.toList).rangeAt w.heap.size (q * 5) y'.cells ∧ y'.In (w4.setCells w.heap.size (i * 5) y.cells.toArray.toList).heap.size (w4.setCells w.heap.size (i * 5) y.cells.toArray.toList) ∧ y'.Lies (Fr (w.heap.size + 1) (w4.setCells w.heap.size (i * 5) y.cells.toArray.toList))) := by
          obtain ⟨hyl, hym, hbw, hth, hall⟩ := HY.out
          have hsz := size_setCells w.heap.size y.cells.toArray.toList (i * 5) w4
          have hBut : But w.heap.size w4 (w4.setCells w.heap.size (i * 5) y.cells.toArray.toList) := But.setCells _ _ _ (But.refl _ _)
          have hw04 : Below w.heap.size w w4 := hbw.trans (hw4.mono hbw.size)
          have hs4 : wr.heap.size ≤ w4.heap.size := hw4.size
          have hs34 : w3.heap.size ≤ w4.heap.size := hb4.size
          have hs3 : wr.heap.size ≤ w3.heap.size := H3.out.size
          have hMid : ∀ C, C ≤ w4.heap.size → Mid (w.heap.size + 1) C w4 (w4.setCells w.heap.size (i * 5) y.cells.toArray.toList) := fun C hC k h1 h2 => hBut.block k (by omega) (by omega)
          refine ⟨ys ++ [y], by simp [hyl], by rw [List.map_append, hym, HTK.out]; simp [hye], hBut.below hw04 (Nat.le_refl _) (by omega), ?_, by omega, ?_⟩
          · refine ⟨World.there_setCells ?_ _ _ _, Soft.setCells _ _ _ _ (hth.2.keep (hw4.block _ hlt))⟩
            intro j hj
            rw [World.cell?_of_block (w := wr) (w' := w4) (hw4.block _ hlt), World.frozen?_of_block (w := wr) (w' := w4) (hw4.block _ hlt)]
            exact hth.1 j hj
          · intro q y' hq
            rw [hsz]
            by_cases hqi : q < i
            · rw [List.getElem?_append_left (by omega)] at hq
              obtain ⟨r1, r2, r3⟩ := hall q y' hq
              have hl' : y'.cells.length = 5 := by simp [ET.cells_len]
              have z0 := ET.keepF (A := w.heap.size + 1) (fun k _ h2 => hw4.block k h2) r2 r3
              have z := ET.keepF (hMid _ (Nat.le_refl _)) (z0.1.up hs4) z0.2
              refine ⟨World.rangeAt_setCells_apart (fun j v hj => ?_) _ _ _ (.inr (.inl ?_)), z.1, z.2⟩
              · rw [World.cell?_of_block (w := wr) (w' := w4) (hw4.block _ hlt)]
                exact r1 j v hj
              · rw [hl']
                have : (q + 1) * 5 ≤ i * 5 := Nat.mul_le_mul_right _ (by omega)
                omega
            · rw [List.getElem?_append_right (by omega), hyl] at hq
              have hqe : q = i := by
                have := (List.getElem?_eq_some_iff.1 hq).1
                simp at this
                omega
              subst hqe
              simp at hq
              subst hq
              have z := ET.keepF (hMid _ (Nat.le_refl _)) hyi (hyu.mono (fun k q => q.mono (show w.heap.size + 1 ≤ w3.heap.size by omega)))
              refine ⟨?_, z.1, z.2⟩
              have h0 := World.rangeAt_setCells_same w4 w.heap.size (q * 5) y.cells.toArray.toList (by simpa using hht)
              simpa using h0
        clear HY HTK H3 hye hyi hyu hb4 hw4 hht hlen
        go_wp2
        go_roundw
        case rel => exact ⟨i + 1, by go_num, by omega, HF⟩
        case measure => simp [intOf]; omega
      · have hin : i = n := by omega
        have HY : Hid (∃ (a' : Option Addr) (c' : Nat) (ys : List ET), Value.slice (some ⟨w.heap.size, 0, none⟩) n n = .slice a' ys.length c' ∧ ys.map ET.ex = xs.map ET.ex ∧ RowE wr.heap.size wr a' c' ys ∧ (ys = [] ∨ ∃ g o, a' = some ⟨g, o, none⟩ ∧ Fr w.heap.size wr g) ∧ ET.LiesL (Fr w.heap.size wr) ys ∧ Below w.heap.size w wr) := by
          obtain ⟨ys, hyl, hym, hbw, hth, hlt, hall⟩ := hX.out
          rw [hin, hn.out, List.take_length] at hym
          rw [hin] at hyl
          exact ⟨_, n, ys, by rw [hyl], hym, RowE.of (by omega) (by omega) hlt (fun q y hy => ⟨(hall q y hy).1, (hall q y hy).2.1⟩), .inr ⟨_, _, rfl, Nat.le_refl _, hth.2⟩, ET.LiesL.of (fun y hy => by
            obtain ⟨q, hq⟩ := List.mem_iff_getElem?.1 hy
            exact (hall q y hq).2.2.mono (fun k q => q.mono (by omega))), hbw⟩
        clear hX hin HR HS
        go_wp2
        go_ret
        obtain ⟨a', c', ys, e1, e2⟩ := HY.out
        exact ⟨a', c', ys, by rw [← e1]; rfl, e2⟩

end Go.Proofs.YtcmahiphfpgadaaGreatDoor

/- Rows are copied into blocks that may be written. -/
namespace Go.Proofs.YtcmahiphfpgadaaGreatDoor
open Go.RowKit
set_option linter.unusedVariables false

/-- What copying does. -/
def SoVW (B : Nat) (x : VT) : Prop := ∀ w, x.In B w → B ≤ w.heap.size → Calls Tryz.prog 57 #[.agg x.cells.toArray] w fun r w' => ∃ y : VT, r = .returned (.agg y.cells.toArray) ∧ y.vr = x.vr ∧ y.In w'.heap.size w' ∧ y.Lies (Fr w.heap.size w') ∧ Below w.heap.size w w'

set_option maxRecDepth 100000 in
set_option maxHeartbeats 3200000 in
theorem softV_of (B : Nat) (xs : List VT) (hS : ∀ x ∈ xs, SoVW B x) (a : Option Addr) (c : Nat) (w : World) (h : RowV B w a c xs) (hBw : B ≤ w.heap.size) :
    Calls Tryz.prog 56 #[.slice a xs.length c, .func (.func 57) #[] #[]] w fun r w' => ∃ (a' : Option Addr) (c' : Nat) (ys : List VT), r = .returned (.slice a' ys.length c') ∧ ys.map VT.vr = xs.map VT.vr ∧ RowV w'.heap.size w' a' c' ys ∧ (ys = [] ∨ ∃ g o, a' = some ⟨g, o, none⟩ ∧ Fr w.heap.size w' g) ∧ VT.LiesL (Fr w.heap.size w') ys ∧ Below w.heap.size w w' := by
  obtain ⟨n, hn⟩ : ∃ n, Hid (n = xs.length) := ⟨_, (rfl : xs.length = _)⟩
  have hl := h.1
  have hk := h.2.1
  rw [← hn.out] at hl hk ⊢
  have HS : Hid (∀ x ∈ xs, SoVW B x) := hS
  have HR : Hid (RowV B w a c xs) := h
  clear hS h
  cases a with
  | none =>
    have hx : Hid (xs = []) := by
      obtain ⟨_, _, h | ⟨g, o, h, _⟩⟩ := HR.out
      · exact h
      · cases h
    clear HR HS
    have hnil := fun u => Lib.run_eql_slice_nil (P := Tryz.prog) u 22 56 none n c 0 0 Tryz.underlying22
    go_enter Tryz.func56, Tryz.ntmps56
    go_wp2_with fail
    go_ret
    exact ⟨none, 0, [], rfl, by rw [hx.out], ⟨by simp, by simp, .inl rfl⟩, .inl rfl, VT.LiesL.of (fun e he => by cases he), Below.refl _ _⟩
  | some ad =>
    have hnil := fun u => Lib.run_eql_slice_nil (P := Tryz.prog) u 22 56 (some ad) n c 0 0 Tryz.underlying22
    go_enter Tryz.func56, Tryz.ntmps56
    go_wp2_with (first
      | ((with_reducible show wpList _ _ _ _ _ _); refine wpList_make_soft (P := Tryz.prog) rfl (.tmp 11) (.tmp 11) 22 rfl 56 _ 3 32 Tryz.underlying22 f56 n rfl rfl (by omega) (by omega) ?_; intro w1 ht1 hb1 hs1; refine Hid.out ?_))
    refine hidU ?_
    have H1 : Hid ((w1.there w.heap.size 0 (n * 3) ∧ Soft w1 w.heap.size) ∧ Below w.heap.size w w1 ∧ w.heap.size < w1.heap.size) := ⟨ht1, hb1, hs1⟩
    clear ht1 hb1 hs1
    go_wp2_with fail
    go_loopw [15] (fun j wr => ∃ i : Nat, j = .int .i64 (i : Int) ∧ i ≤ n ∧ Hid (∃ ys : List VT, ys.length = i ∧ ys.map VT.vr = (xs.take i).map VT.vr ∧ Below w.heap.size w wr ∧ (wr.there w.heap.size 0 (n * 3) ∧ Soft wr w.heap.size) ∧ w.heap.size < wr.heap.size ∧ ∀ (q : Nat) (y : VT), ys[q]? = some y → wr.rangeAt w.heap.size (q * 3) y.cells ∧ y.In wr.heap.size wr ∧ y.Lies (Fr (w.heap.size + 1) wr))) (fun j _ => n - (intOf j).toNat)
    case atStart => exact ⟨0, rfl, by omega, [], rfl, rfl, H1.out.2.1, H1.out.1, H1.out.2.2, fun q y h => by simp at h⟩
    case round =>
      clear H1
      obtain ⟨i, rfl, hi, hX⟩ := hrel
      by_cases hc : i < n
      · obtain ⟨x, hx⟩ : ∃ k, xs[i]? = some k := ⟨xs[i]'(by rw [← hn.out]; exact hc), by rw [List.getElem?_eq_getElem]⟩
        obtain ⟨ys, hyl, hym, hbw, hth, hlt, hall⟩ := hX.out
        have hold : Old B w wr := Old.of_below hbw hBw
        obtain ⟨g1, o1, had, hg1, hr1, hx1⟩ := (HR.out.old hold).at i x hx
        cases had
        have HY : Hid (ys.length = i ∧ ys.map VT.vr = (xs.take i).map VT.vr ∧ Below w.heap.size w wr ∧ (wr.there w.heap.size 0 (n * 3) ∧ Soft wr w.heap.size) ∧ ∀ (q : Nat) (y : VT), ys[q]? = some y → wr.rangeAt w.heap.size (q * 3) y.cells ∧ y.In wr.heap.size wr ∧ y.Lies (Fr (w.heap.size + 1) wr)) := ⟨hyl, hym, hbw, hth, hall⟩
        have HK : Hid (x.In B wr ∧ B ≤ wr.heap.size) := ⟨hx1, by have := hbw.size; omega⟩
        have HTK : Hid ((xs.take (i + 1)).map VT.vr = (xs.take i).map VT.vr ++ [x.vr]) := by
          show _ = _
          rw [List.take_add_one, hx]
          simp
        have hIx := HS.out x (List.mem_of_getElem? hx)
        have HI : Hid (∀ w, x.In B w → B ≤ w.heap.size → Calls Tryz.prog 57 #[.agg x.cells.toArray] w fun r w' => ∃ y : VT, r = .returned (.agg y.cells.toArray) ∧ y.vr = x.vr ∧ y.In w'.heap.size w' ∧ y.Lies (Fr w.heap.size w') ∧ Below w.heap.size w w') := hIx
        clear hX hyl hym hbw hth hall hold hx1 HR HS hIx
        go_wp2_with (first
          | ((with_reducible show wpList _ _ _ _ _ _); refine wpList_load_mid (P := Tryz.prog) rfl 56 (.tmp 18) rfl g1 (o1 + i * 3) (by first | rfl | (simp; done)) x.cells _ hr1 Tryz.underlying56 rfl i79 ?_)
          | ((with_reducible show wpList _ _ _ _ _ _); refine wpList_alloc_at rfl 56 rfl _ 3 z79 ?_; intro w2 hA2 hb2 hs2)
          | ((with_reducible show wpList _ _ _ _ _ _); refine wpList_store_at (P := Tryz.prog) rfl 56 (.tmp 7) (.tmp 19) rfl wr.heap.size x.cells rfl rfl 56 _ hA2 i79 rfl x.one ?_; intro w3 hA3 hb3 hs3; refine Hid.out ?_))
        refine hidU ?_
        have hB3 : Below wr.heap.size wr w3 := hb3.below hb2 (Nat.le_refl _) (by omega)
        have hC := HI.out w3 (HK.out.1.old (Old.of_below hB3 HK.out.2)) (by have := hB3.size; have := HK.out.2; omega)
        have H3 : Hid (Below wr.heap.size wr w3) := hB3
        clear hb3 hb2 hA2 hr1 hs2 hs3 HI HK hB3
        go_wp2_with (first
          | ((with_reducible show wpList _ _ _ _ _ _); refine wpList_load_at (P := Tryz.prog) rfl 56 (.tmp 7) rfl wr.heap.size rfl 56 x.cells hA3 _ Tryz.underlying56 rfl i79 ?_))
        refine hC.mono ?_
        rintro r w4 ⟨y, rfl, hye, hyi, hyu, hb4⟩
        have hw4 : Below wr.heap.size wr w4 := H3.out.trans (hb4.mono H3.out.size)
        have hht : w4.there w.heap.size (i * 3) y.cells.toArray.size := by
          intro j hj
          have hlen : y.cells.toArray.size = 3 := by simp [VT.cells]
          rw [hlen] at hj
          have hin : i * 3 + j < n * 3 := by
            have : (i + 1) * 3 ≤ n * 3 := Nat.mul_le_mul_right _ (by omega)
            omega
          have h0 := HY.out.2.2.2.1.1 (i * 3 + j) hin
          rw [Nat.zero_add] at h0
          rw [World.cell?_of_block (w := wr) (w' := w4) (hw4.block _ hlt), World.frozen?_of_block (w := wr) (w' := w4) (hw4.block _ hlt)]
          exact h0
        clear hC hA3
        go_wp2_with (first
          | ((with_reducible show wpList _ _ _ _ _ _); refine wpList_store_mid (P := Tryz.prog) rfl 56 (.tmp 25) (.tmp 24) rfl w.heap.size (i * 3) y.cells.toArray (by first | rfl | (simp; done)) rfl hht (by rw [show y.cells.toArray.size = 3 by simp [VT.cells]]; exact i79) (all_oneCell_toArray y.one) ?_; refine Hid.out ?_))
        refine hidU ?_
        have hlen : y.cells.length = 3 := by simp [VT.cells]
        have HF : Hid (∃ ys : List VT, ys.length = i + 1 ∧ ys.map VT.vr = (xs.take (i + 1)).map VT.vr ∧ Below w.heap.size w (w4.setCells w.heap.size (i * 3) y.cells.toArray.toList) ∧ ((w4.setCells w.heap.size (i * 3) y.cells.toArray.toList).there w.heap.size 0 (n * 3) ∧ Soft (w4.setCells w.heap.size (i * 3) y.cells.toArray.toList) w.heap.size) ∧ w.heap.size < (w4.setCells w.heap.size (i * 3) y.cells.toArray.toList).heap.size ∧ ∀ (q : Nat) (y' : VT), ys[q]? = some y' → (w4.setCells w.heap.size (i * 3) y.cells.toArray.toList).rangeAt w.heap.size (q * 3) y'.cells ∧ y'.In (w4.setCells w.heap.size (i * 3) y.cells.toArray.toList).heap.size (w4.setCells w.heap.size (i * 3) y.cells.toArray.toList) ∧ y'.Lies (Fr (w.heap.size + 1) (w4.setCells w.heap.size (i * 3) y.cells.toArray.toList))) := by
          obtain ⟨hyl, hym, hbw, hth, hall⟩ := HY.out
          have hsz := size_setCells w.heap.size y.cells.toArray.toList (i * 3) w4
          have hBut : But w.heap.size w4 (w4.setCells w.heap.size (i * 3) y.cells.toArray.toList) := But.setCells _ _ _ (But.refl _ _)
          have hw04 : Below w.heap.size w w4 := hbw.trans (hw4.mono hbw.size)
          have hs4 : wr.heap.size ≤ w4.heap.size := hw4.size
          have hs34 : w3.heap.size ≤ w4.heap.size := hb4.size
          have hs3 : wr.heap.size ≤ w3.heap.size := H3.out.size
          have hMid : ∀ C, C ≤ w4.heap.size → Mid (w.heap.size + 1) C w4 (w4.setCells w.heap.size (i * 3) y.cells.toArray.toList) := fun C hC k h1 h2 => hBut.block k (by omega) (by omega)
          refine ⟨ys ++ [y], by simp [hyl], by rw [List.map_append, hym, HTK.out]; simp [hye], hBut.below hw04 (Nat.le_refl _) (by omega), ?_, by omega, ?_⟩
          · refine ⟨World.there_setCells ?_ _ _ _, Soft.setCells _ _ _ _ (hth.2.keep (hw4.block _ hlt))⟩
            intro j hj
            rw [World.cell?_of_block (w := wr) (w' := w4) (hw4.block _ hlt), World.frozen?_of_block (w := wr) (w' := w4) (hw4.block _ hlt)]
            exact hth.1 j hj
          · intro q y' hq
            rw [hsz]
            by_cases hqi : q < i
            · rw [List.getElem?_append_left (by omega)] at hq
              obtain ⟨r1, r2, r3⟩ := hall q y' hq
              have hl' : y'.cells.length = 3 := by simp [VT.cells]
              have z0 := VT.keepF (A := w.heap.size + 1) (fun k _ h2 => hw4.block k h2) r2 r3
              have z := VT.keepF (hMid _ (Nat.le_refl _)) (z0.1.up hs4) z0.2
              refine ⟨World.rangeAt_setCells_apart (fun j v hj => ?_) _ _ _ (.inr (.inl ?_)), z.1, z.2⟩
              · rw [World.cell?_of_block (w := wr) (w' := w4) (hw4.block _ hlt)]
                exact r1 j v hj
              · rw [hl']
                have : (q + 1) * 3 ≤ i * 3 := Nat.mul_le_mul_right _ (by omega)
                omega
            · rw [List.getElem?_append_right (by omega), hyl] at hq
              have hqe : q = i := by
                have := (List.getElem?_eq_some_iff.1 hq).1
                simp at this
                omega
              subst hqe
              simp at hq
              subst hq
              have z := VT.keepF (hMid _ (Nat.le_refl _)) hyi (hyu.mono (fun k q => q.mono (show w.heap.size + 1 ≤ w3.heap.size by omega)))
              refine ⟨?_, z.1, z.2⟩
              have h0 := World.rangeAt_setCells_same w4 w.heap.size (q * 3) y.cells.toArray.toList (by simpa using hht)
              simpa using h0
        clear HY HTK H3 hye hyi hyu hb4 hw4 hht hlen
        go_wp2
        go_roundw
        case rel => exact ⟨i + 1, by go_num, by omega, HF⟩
        case measure => simp [intOf]; omega
      · have hin : i = n := by omega
        have HY : Hid (∃ (a' : Option Addr) (c' : Nat) (ys : List VT), Value.slice (some ⟨w.heap.size, 0, none⟩) n n = .slice a' ys.length c' ∧ ys.map VT.vr = xs.map VT.vr ∧ RowV wr.heap.size wr a' c' ys ∧ (ys = [] ∨ ∃ g o, a' = some ⟨g, o, none⟩ ∧ Fr w.heap.size wr g) ∧ VT.LiesL (Fr w.heap.size wr) ys ∧ Below w.heap.size w wr) := by
          obtain ⟨ys, hyl, hym, hbw, hth, hlt, hall⟩ := hX.out
          rw [hin, hn.out, List.take_length] at hym
          rw [hin] at hyl
          exact ⟨_, n, ys, by rw [hyl], hym, RowV.of (by omega) (by omega) hlt (fun q y hy => ⟨(hall q y hy).1, (hall q y hy).2.1⟩), .inr ⟨_, _, rfl, Nat.le_refl _, hth.2⟩, VT.LiesL.of (fun y hy => by
            obtain ⟨q, hq⟩ := List.mem_iff_getElem?.1 hy
            exact (hall q y hq).2.2.mono (fun k q => q.mono (by omega))), hbw⟩
        clear hX hin HR HS
        go_wp2
        go_ret
        obtain ⟨a', c', ys, e1, e2⟩ := HY.out
        exact ⟨a', c', ys, by rw [← e1]; rfl, e2⟩

end Go.Proofs.YtcmahiphfpgadaaGreatDoor

/- Variables and expressions are copied into blocks that may be written. -/
namespace Go.Proofs.YtcmahiphfpgadaaGreatDoor
open Go.RowKit
set_option linter.unusedVariables false
set_option maxRecDepth 100000 in
set_option maxHeartbeats 1600000 in
theorem soVar_any (B : Nat) (v : VT) (hnm : v.nm.size ≤ 281474976710656) : SoVW B v := by
  obtain ⟨nm, t, b⟩ := v
  intro w hin hBw
  have hC := fun w (_ : Below w.heap.size w w) => clone59 nm w hnm
  simp only [VT.cells]
  go_enter Tryz.func57, Tryz.ntmps57
  go_wp2_with (first
    | ((with_reducible show wpList _ _ _ _ _ _); refine wpList_box_at rfl 56 (.tmp 0) rfl [.string nm, .int .u8 (t : Int), .int .u64 (b : Int)] rfl ?_; intro w1 hA1 hb1 hs1; clear hs1)
    | ((with_reducible show wpList _ _ _ _ _ _); refine wpList_alloc_at rfl 56 rfl _ 3 z79 ?_; intro w2 hA2 hb2 hs2; clear hs2; refine Hid.out ?_))
  refine hidU ?_
  have hA12 := hA1.below hb2
  have hbw : Below w.heap.size w w2 := hb1.trans (hb2.mono hb1.size)
  have hlt : w.heap.size < w1.heap.size := hA1.lt
  have HK : Hid (∀ x, Below w2.heap.size w2 x → x.cell? ⟨w.heap.size, 0, none⟩ = some (.string nm) ∧ x.cell? ⟨w.heap.size, 1, none⟩ = some (.int .u8 (t : Int)) ∧ x.cell? ⟨w.heap.size, 2, none⟩ = some (.int .u64 (b : Int))) := fun x hx => by
    have hA := hA12.below hx
    refine ⟨?_, ?_, ?_⟩ <;> (rw [hA.cell]; rfl)
  have HK' : Hid (∀ x, Below w2.heap.size w2 x → ∀ vs, (x.setCells w1.heap.size 0 vs).cell? ⟨w.heap.size, 0, none⟩ = some (.string nm) ∧ (x.setCells w1.heap.size 0 vs).cell? ⟨w.heap.size, 1, none⟩ = some (.int .u8 (t : Int)) ∧ (x.setCells w1.heap.size 0 vs).cell? ⟨w.heap.size, 2, none⟩ = some (.int .u64 (b : Int))) := fun x hx vs => by
    have hA := (But.setCells vs 0 x (But.refl w1.heap.size x)).at (hA12.below hx) (by omega)
    refine ⟨?_, ?_, ?_⟩ <;> (rw [hA.cell]; rfl)
  have hB0 : Below w2.heap.size w2 w2.drew := Below.drew (Below.refl _ _)
  have hS0 := HK.out _ hB0
  clear hA1 hb1 hb2 hA12
  go_wp2_with fail
  refine wp_region_held_drew (S := fun w' => w'.cell? ⟨w.heap.size, 0, none⟩ = some (.string nm) ∧ w'.cell? ⟨w.heap.size, 1, none⟩ = some (.int .u8 (t : Int)) ∧ w'.cell? ⟨w.heap.size, 2, none⟩ = some (.int .u64 (b : Int))) (by kernel_rfl) hS0 (fun _ => ?_)
  refine wpAnyH_take (i := 0) (oi := { dst := some 3, op := .fieldAddr 56 (.tmp 1) 0, type := _, pos := _, after := _, guard := none }) (v := .pointer (some ⟨w.heap.size, 0, none⟩)) rfl (by kernel_rfl) (by kernel_rfl) (by kernel_rfl) (fun _ _ _ h => h) (Or.inl ⟨by rfl, ?_⟩) hS0 ?_
  · intro w hSw
    go_simp
  simp only [Act.put, List.setIfInBounds_toArray, List.set_cons_zero, List.set_cons_succ]
  refine wpAnyH_take (i := 1) (oi := { dst := some 4, op := .load 9 (.tmp 3), type := _, pos := _, after := _, guard := none }) (v := .string nm) rfl (by kernel_rfl) (by kernel_rfl) (by kernel_rfl) (fun _ _ _ h => h) (Or.inl ⟨by rfl, ?_⟩) hS0 ?_
  · intro w hSw
    have z0 := hSw.1
    go_simp
  simp only [Act.put, List.setIfInBounds_toArray, List.set_cons_zero, List.set_cons_succ]
  refine wpAnyH_take (i := 3) (oi := { dst := some 6, op := .fieldAddr 56 (.tmp 1) 1, type := _, pos := _, after := _, guard := none }) (v := .pointer (some ⟨w.heap.size, 1, none⟩)) rfl (by kernel_rfl) (by kernel_rfl) (by kernel_rfl) (fun _ _ _ h => h) (Or.inl ⟨by rfl, ?_⟩) hS0 ?_
  · intro w hSw
    go_simp
  simp only [Act.put, List.setIfInBounds_toArray, List.set_cons_zero, List.set_cons_succ]
  refine wpAnyH_take (i := 4) (oi := { dst := some 7, op := .load 31 (.tmp 6), type := _, pos := _, after := _, guard := none }) (v := .agg #[.int .u8 (t : Int), .int .u64 (b : Int)]) rfl (by kernel_rfl) (by kernel_rfl) (by kernel_rfl) (fun _ _ _ h => h) (Or.inl ⟨by rfl, ?_⟩) hS0 ?_
  · intro w hSw
    have z0 := hSw.2.1
    have z1 := hSw.2.2
    go_simp
  simp only [Act.put, List.setIfInBounds_toArray, List.set_cons_zero, List.set_cons_succ]
  refine wpAnyH_ready (rs := [2]) (by kernel_rfl) (by simp) ?_
  refine AllReadyH.cons (o := { dst := some 5, op := .call { callee := .value (.func 59), args := #[.tmp 4], argTypes := #[9] }, type := _, pos := _, after := _, guard := none }) rfl (fun K hK => ?_) AllReadyH.nil
  rw [if_pos (by rfl)]
  go_wp2_with (go_at_call 59; refine (hC _ (Below.refl _ _)).mono ?_; rintro e x1 ⟨rfl, hb1⟩)
  have hB1 := hB0.trans (hb1.mono hB0.size)
  have hS1 := HK.out x1 hB1
  refine hK.out _ _ hS1 (fun _ => ?_)
  refine wpAnyH_take (i := 5) (oi := { dst := some 8, op := .build 56 #[(0, .tmp 5), (1, .tmp 7)], type := _, pos := _, after := _, guard := none }) (v := .agg ([.string nm, .int .u8 (t : Int), .int .u64 (b : Int)]).toArray) rfl (by kernel_rfl) (by kernel_rfl) (by kernel_rfl) (fun _ _ _ h => h) (Or.inl ⟨by rfl, ?_⟩) hS1 ?_
  · intro w hSw
    go_simp
  simp only [Act.put, List.setIfInBounds_toArray, List.set_cons_zero, List.set_cons_succ]
  refine wpAnyH_ready (rs := [6]) (by kernel_rfl) (by simp) ?_
  refine AllReadyH.cons (o := { dst := none, op := .store 56 (.tmp 2) (.tmp 8), type := _, pos := _, after := _, guard := none }) rfl (fun K hK => ?_) AllReadyH.nil
  rw [if_pos (by rfl)]
  have hAr := hA2.below hB1
  refine wp_store_mid (P := Tryz.prog) 56 (.tmp 2) (.tmp 8) rfl w1.heap.size 0 ([.string nm, .int .u8 (t : Int), .int .u64 (b : Int)]).toArray rfl rfl (hAr.there 0 _ (Nat.le_refl _)) i79 (all_oneCell_toArray (one56 nm t b)) ?_
  refine hK.out _ _ (HK'.out x1 hB1 _) (fun _ => ?_)
  refine wpAnyH_done (by kernel_rfl) ?_ _
  have hAf : At 56 (x1.setCells w1.heap.size 0 [.string nm, .int .u8 (t : Int), .int .u64 (b : Int)]) w1.heap.size [.string nm, .int .u8 (t : Int), .int .u64 (b : Int)] := At.setCells _ 0 _ _ hAr
  have hBf : Below w.heap.size w (x1.setCells w1.heap.size 0 [.string nm, .int .u8 (t : Int), .int .u64 (b : Int)]) := (But.setCells _ 0 _ (But.refl _ _)).below (hbw.trans (hB1.mono hbw.size)) (by omega) (by have := hB1.size; have := hbw.size; omega)
  go_wp2
  refine bodyPost_ret (results_at rfl _ _ w1.heap.size 56 [.string nm, .int .u8 (t : Int), .int .u64 (b : Int)] _ rfl hAf Tryz.underlying56 rfl i79) rfl ?_
  exact ⟨⟨nm, t, b⟩, rfl, rfl, hin, trivial, hBf⟩

set_option maxRecDepth 100000 in
set_option maxHeartbeats 3200000 in
theorem soExpr_of (B : Nat) (op t b : Nat) (nm : ByteArray) (a : Option Addr) (c : Nat) (ks : List ET) (hnm : nm.size ≤ 281474976710656) (hS : ∀ k ∈ ks, SoEW B k) : SoEW B (.mk op t b nm a c ks) := by
  intro w hin hBw
  have hC := fun w (_ : Below w.heap.size w w) => clone59 nm w hnm
  unfold ET.In at hin
  obtain ⟨z1, z2, z3, x1, x2, x3⟩ := hin
  have HI : Hid (op < 256 ∧ t < 256 ∧ b < 18446744073709551616) := ⟨z1, z2, z3⟩
  obtain ⟨n, hn⟩ : ∃ n, Hid (n = ks.length) := ⟨_, (rfl : ks.length = _)⟩
  have hco := fun w h hB => softE_of B ks hS a c w h hB
  have HR : Hid (RowE B w a c ks) := ⟨x1, x2, x3⟩
  rw [← hn.out] at hco x1 x2
  simp only [ET.cells]
  rw [← hn.out]
  have hw0 : Hid (∀ w2, Below w.heap.size w w2 → ∀ x, Below w2.heap.size w2 x → Calls Tryz.prog 141 #[.slice a n c, .func (.func 118) #[] #[]] x fun r w' => ∃ (a' : Option Addr) (c' : Nat) (ys : List ET), r = .returned (.slice a' ys.length c') ∧ ys.map ET.ex = ks.map ET.ex ∧ RowE w'.heap.size w' a' c' ys ∧ (ys = [] ∨ ∃ g o, a' = some ⟨g, o, none⟩ ∧ Fr x.heap.size w' g) ∧ ET.LiesL (Fr x.heap.size w') ys ∧ Below x.heap.size x w') := fun w2 h2 x hx => hco x (HR.out.old (Old.of_below (h2.trans (hx.mono h2.size)) hBw)) (by have := h2.size; have := hx.size; omega)
  clear x3 z1 z2 z3 hco HR hS
  go_enter Tryz.func118, Tryz.ntmps118
  go_wp2_with (first
    | ((with_reducible show wpList _ _ _ _ _ _); refine wpList_box_at rfl 34 (.tmp 0) rfl [.int .u8 (op : Int), .int .u8 (t : Int), .int .u64 (b : Int), .string nm, .slice a n c] rfl ?_; intro w1 hA1 hb1 hs1; clear hs1)
    | ((with_reducible show wpList _ _ _ _ _ _); refine wpList_alloc_at rfl 34 rfl _ 5 z29 ?_; intro w2 hA2 hb2 hs2; clear hs2; refine Hid.out ?_))
  refine hidU ?_
  have hA12 := hA1.below hb2
  have hbw : Below w.heap.size w w2 := hb1.trans (hb2.mono hb1.size)
  have hlt : w.heap.size < w1.heap.size := hA1.lt
  have HK : Hid (∀ x, Below w2.heap.size w2 x → x.cell? ⟨w.heap.size, 0, none⟩ = some (.int .u8 (op : Int)) ∧ x.cell? ⟨w.heap.size, 1, none⟩ = some (.int .u8 (t : Int)) ∧ x.cell? ⟨w.heap.size, 2, none⟩ = some (.int .u64 (b : Int)) ∧ x.cell? ⟨w.heap.size, 3, none⟩ = some (.string nm) ∧ x.cell? ⟨w.heap.size, 4, none⟩ = some (.slice a n c)) := fun x hx => by
    have hA := hA12.below hx
    refine ⟨?_, ?_, ?_, ?_, ?_⟩ <;> (rw [hA.cell]; rfl)
  have HK' : Hid (∀ x, Below w2.heap.size w2 x → ∀ vs, (x.setCells w1.heap.size 0 vs).cell? ⟨w.heap.size, 0, none⟩ = some (.int .u8 (op : Int)) ∧ (x.setCells w1.heap.size 0 vs).cell? ⟨w.heap.size, 1, none⟩ = some (.int .u8 (t : Int)) ∧ (x.setCells w1.heap.size 0 vs).cell? ⟨w.heap.size, 2, none⟩ = some (.int .u64 (b : Int)) ∧ (x.setCells w1.heap.size 0 vs).cell? ⟨w.heap.size, 3, none⟩ = some (.string nm) ∧ (x.setCells w1.heap.size 0 vs).cell? ⟨w.heap.size, 4, none⟩ = some (.slice a n c)) := fun x hx vs => by
    have hA := (But.setCells vs 0 x (But.refl w1.heap.size x)).at (hA12.below hx) (by omega)
    refine ⟨?_, ?_, ?_, ?_, ?_⟩ <;> (rw [hA.cell]; rfl)
  have hB0 : Below w2.heap.size w2 w2.drew := Below.drew (Below.refl _ _)
  have hS0 := HK.out _ hB0
  clear hA1 hb1 hb2 hA12
  have HS := hw0.out w2 hbw
  have HS : Hid _ := HS
  clear hw0
  go_wp2_with fail
  refine wp_region_held_drew (S := fun w' => w'.cell? ⟨w.heap.size, 0, none⟩ = some (.int .u8 (op : Int)) ∧ w'.cell? ⟨w.heap.size, 1, none⟩ = some (.int .u8 (t : Int)) ∧ w'.cell? ⟨w.heap.size, 2, none⟩ = some (.int .u64 (b : Int)) ∧ w'.cell? ⟨w.heap.size, 3, none⟩ = some (.string nm) ∧ w'.cell? ⟨w.heap.size, 4, none⟩ = some (.slice a n c)) (by kernel_rfl) hS0 (fun _ => ?_)
  refine wpAnyH_take (i := 0) (oi := { dst := some 3, op := .fieldAddr 34 (.tmp 1) 0, type := _, pos := _, after := _, guard := none }) (v := .pointer (some ⟨w.heap.size, 0, none⟩)) rfl (by kernel_rfl) (by kernel_rfl) (by kernel_rfl) (fun _ _ _ h => h) (Or.inl ⟨by rfl, ?_⟩) hS0 ?_
  · intro w hSw
    go_simp
  simp only [Act.put, List.setIfInBounds_toArray, List.set_cons_zero, List.set_cons_succ]
  refine wpAnyH_take (i := 1) (oi := { dst := some 4, op := .load 27 (.tmp 3), type := _, pos := _, after := _, guard := none }) (v := .int .u8 (op : Int)) rfl (by kernel_rfl) (by kernel_rfl) (by kernel_rfl) (fun _ _ _ h => h) (Or.inl ⟨by rfl, ?_⟩) hS0 ?_
  · intro w hSw
    have z0 := hSw.1
    go_simp
  simp only [Act.put, List.setIfInBounds_toArray, List.set_cons_zero, List.set_cons_succ]
  refine wpAnyH_take (i := 2) (oi := { dst := some 5, op := .fieldAddr 34 (.tmp 1) 1, type := _, pos := _, after := _, guard := none }) (v := .pointer (some ⟨w.heap.size, 1, none⟩)) rfl (by kernel_rfl) (by kernel_rfl) (by kernel_rfl) (fun _ _ _ h => h) (Or.inl ⟨by rfl, ?_⟩) hS0 ?_
  · intro w hSw
    go_simp
  simp only [Act.put, List.setIfInBounds_toArray, List.set_cons_zero, List.set_cons_succ]
  refine wpAnyH_take (i := 3) (oi := { dst := some 6, op := .load 31 (.tmp 5), type := _, pos := _, after := _, guard := none }) (v := .agg #[.int .u8 (t : Int), .int .u64 (b : Int)]) rfl (by kernel_rfl) (by kernel_rfl) (by kernel_rfl) (fun _ _ _ h => h) (Or.inl ⟨by rfl, ?_⟩) hS0 ?_
  · intro w hSw
    have z0 := hSw.2.1
    have z1 := hSw.2.2.1
    go_simp
  simp only [Act.put, List.setIfInBounds_toArray, List.set_cons_zero, List.set_cons_succ]
  refine wpAnyH_take (i := 4) (oi := { dst := some 7, op := .fieldAddr 34 (.tmp 1) 2, type := _, pos := _, after := _, guard := none }) (v := .pointer (some ⟨w.heap.size, 3, none⟩)) rfl (by kernel_rfl) (by kernel_rfl) (by kernel_rfl) (fun _ _ _ h => h) (Or.inl ⟨by rfl, ?_⟩) hS0 ?_
  · intro w hSw
    go_simp
  simp only [Act.put, List.setIfInBounds_toArray, List.set_cons_zero, List.set_cons_succ]
  refine wpAnyH_take (i := 5) (oi := { dst := some 8, op := .load 9 (.tmp 7), type := _, pos := _, after := _, guard := none }) (v := .string nm) rfl (by kernel_rfl) (by kernel_rfl) (by kernel_rfl) (fun _ _ _ h => h) (Or.inl ⟨by rfl, ?_⟩) hS0 ?_
  · intro w hSw
    have z0 := hSw.2.2.2.1
    go_simp
  simp only [Act.put, List.setIfInBounds_toArray, List.set_cons_zero, List.set_cons_succ]
  refine wpAnyH_take (i := 7) (oi := { dst := some 10, op := .fieldAddr 34 (.tmp 1) 3, type := _, pos := _, after := _, guard := none }) (v := .pointer (some ⟨w.heap.size, 4, none⟩)) rfl (by kernel_rfl) (by kernel_rfl) (by kernel_rfl) (fun _ _ _ h => h) (Or.inl ⟨by rfl, ?_⟩) hS0 ?_
  · intro w hSw
    go_simp
  simp only [Act.put, List.setIfInBounds_toArray, List.set_cons_zero, List.set_cons_succ]
  refine wpAnyH_take (i := 8) (oi := { dst := some 11, op := .load 32 (.tmp 10), type := _, pos := _, after := _, guard := none }) (v := .slice a n c) rfl (by kernel_rfl) (by kernel_rfl) (by kernel_rfl) (fun _ _ _ h => h) (Or.inl ⟨by rfl, ?_⟩) hS0 ?_
  · intro w hSw
    have z0 := hSw.2.2.2.2
    go_simp
  simp only [Act.put, List.setIfInBounds_toArray, List.set_cons_zero, List.set_cons_succ]
  refine wpAnyH_ready (rs := [6]) (by kernel_rfl) (by simp) ?_
  refine AllReadyH.cons (o := { dst := some 9, op := .call { callee := .value (.func 59), args := #[.tmp 8], argTypes := #[9] }, type := _, pos := _, after := _, guard := none }) rfl (fun K hK => ?_) AllReadyH.nil
  rw [if_pos (by rfl)]
  go_wp2_with (go_at_call 59; refine (hC _ (Below.refl _ _)).mono ?_; rintro e x1 ⟨rfl, hb1⟩)
  have hB1 := hB0.trans (hb1.mono hB0.size)
  have hS1 := HK.out x1 hB1
  refine hK.out _ _ hS1 (fun _ => ?_)
  refine wpAnyH_ready (rs := [9]) (by kernel_rfl) (by simp) ?_
  refine AllReadyH.cons (o := { dst := some 12, op := .call { callee := .value (.func 141), args := #[.tmp 11, .func 118], argTypes := #[32, 38] }, type := _, pos := _, after := _, guard := none }) rfl (fun K hK => ?_) AllReadyH.nil
  rw [if_pos (by rfl)]
  go_wp2_with (go_at_call 141; refine (HS.out _ hB1).mono ?_; rintro e x2 ⟨a', c', ys, rfl, hym, hrow, hat, hups, hb2⟩)
  have hB2 := hB1.trans (hb2.mono hB1.size)
  have hS2 := HK.out x2 hB2
  refine hK.out _ _ hS2 (fun _ => ?_)
  refine wpAnyH_take (i := 10) (oi := { dst := some 13, op := .build 34 #[(0, .tmp 4), (1, .tmp 6), (2, .tmp 9), (3, .tmp 12)], type := _, pos := _, after := _, guard := none }) (v := .agg ((ex5 op t b nm (.slice a' ys.length c'))).toArray) rfl (by kernel_rfl) (by kernel_rfl) (by kernel_rfl) (fun _ _ _ h => h) (Or.inl ⟨by rfl, ?_⟩) hS2 ?_
  · intro w hSw
    go_simp
    rfl
  simp only [Act.put, List.setIfInBounds_toArray, List.set_cons_zero, List.set_cons_succ]
  refine wpAnyH_ready (rs := [11]) (by kernel_rfl) (by simp) ?_
  refine AllReadyH.cons (o := { dst := none, op := .store 34 (.tmp 2) (.tmp 13), type := _, pos := _, after := _, guard := none }) rfl (fun K hK => ?_) AllReadyH.nil
  rw [if_pos (by rfl)]
  have hAr := hA2.below hB2
  refine wp_store_mid (P := Tryz.prog) 34 (.tmp 2) (.tmp 13) rfl w1.heap.size 0 ((ex5 op t b nm (.slice a' ys.length c'))).toArray rfl rfl (hAr.there 0 _ (Nat.le_refl _)) i29 (all_oneCell_toArray (ex5_one op t b nm _ _ _)) ?_
  refine hK.out _ _ (HK'.out x2 hB2 _) (fun _ => ?_)
  refine wpAnyH_done (by kernel_rfl) ?_ _
  have hAf : At 34 (x2.setCells w1.heap.size 0 (ex5 op t b nm (.slice a' ys.length c'))) w1.heap.size (ex5 op t b nm (.slice a' ys.length c')) := At.setCells _ 0 _ _ hAr
  have hw02 : Below w.heap.size w x2 := hbw.trans (hB2.mono hbw.size)
  have hBut : But w1.heap.size x2 (x2.setCells w1.heap.size 0 (ex5 op t b nm (.slice a' ys.length c'))) := But.setCells _ 0 _ (But.refl _ _)
  have hBf : Below w.heap.size w (x2.setCells w1.heap.size 0 (ex5 op t b nm (.slice a' ys.length c'))) := hBut.below hw02 (by omega) (by have := hw02.size; omega)
  have hszf := size_setCells w1.heap.size (ex5 op t b nm (.slice a' ys.length c')) 0 x2
  have hl1 : w1.heap.size < x1.heap.size := (hA2.below hB1).lt
  have hl12 : x1.heap.size ≤ x2.heap.size := hb2.size
  have HF : Hid (∃ y : ET, Value.agg ((ex5 op t b nm (.slice a' ys.length c'))).toArray = .agg y.cells.toArray ∧ y.ex = (ET.mk op t b nm a c ks).ex ∧ y.In (x2.setCells w1.heap.size 0 (ex5 op t b nm (.slice a' ys.length c'))).heap.size (x2.setCells w1.heap.size 0 (ex5 op t b nm (.slice a' ys.length c'))) ∧ y.Lies (Fr w.heap.size (x2.setCells w1.heap.size 0 (ex5 op t b nm (.slice a' ys.length c'))))) := by
    refine ⟨.mk op t b nm a' c' ys, rfl, ?_, ?_⟩
    · show Ex.mk op t b nm.data.toList (ET.exs ys) = Ex.mk op t b nm.data.toList (ET.exs ks)
      rw [ET.exs_eq, ET.exs_eq, hym]
    · rw [hszf]
      have hI : (ET.mk op t b nm a' c' ys).In x2.heap.size x2 := by
        unfold ET.In
        exact ⟨HI.out.1, HI.out.2.1, HI.out.2.2, hrow⟩
      have hU : (ET.mk op t b nm a' c' ys).Lies (Fr x1.heap.size x2) := by
        unfold ET.Lies
        exact ⟨hat, hups⟩
      have z := ET.keepF (A := x1.heap.size) (w' := (x2.setCells w1.heap.size 0 (ex5 op t b nm (.slice a' ys.length c')))) (fun k h1 h2 => hBut.block k (by omega) (by omega)) hI hU
      exact ⟨z.1, z.2.mono fun k q => q.mono (by have := (hbw.trans (hB1.mono hbw.size)).size; omega)⟩
  clear HS HK HK' hA2 hAr hym hrow hat hups HI hBut
  go_wp2
  refine bodyPost_ret (results_at rfl _ _ w1.heap.size 34 (ex5 op t b nm (.slice a' ys.length c')) _ rfl hAf Tryz.underlying34 rfl i29) rfl ?_
  obtain ⟨y, e1, e2, e3, e4⟩ := HF.out
  exact ⟨y, congrArg Ending.returned e1, e2, e3, e4, hBf⟩

theorem soExpr_any (B : Nat) (M : Nat) : ∀ x : ET, SizeOf.sizeOf x < M → exW x.ex ≤ 281474976710656 → SoEW B x := by
  induction M with
  | zero => intro x h; omega
  | succ M ih =>
    rintro ⟨op, t, b, nm, a, c, ks⟩ hN hW
    refine soExpr_of B op t b nm a c ks ?_ fun k hk => ih k (by have := ET.sz (op := op) (t := t) (b := b) (c := c) (nm := nm) (a := a) hk; omega) ?_
    · have := exW_name op t b nm.data.toList (ET.exs ks)
      have e : (ET.mk op t b nm a c ks).ex = .mk op t b nm.data.toList (ET.exs ks) := rfl
      rw [e] at hW
      have e2 : nm.size = nm.data.toList.length := by rw [Array.length_toList]; rfl
      omega
    · have := exW_kid op t b nm.data.toList (ET.exs ks) k.ex (by rw [ET.exs_eq]; exact List.mem_map_of_mem hk)
      have e : (ET.mk op t b nm a c ks).ex = .mk op t b nm.data.toList (ET.exs ks) := rfl
      rw [e] at hW
      omega

end Go.Proofs.YtcmahiphfpgadaaGreatDoor
