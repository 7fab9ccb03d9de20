/- Variables, threads, programs in memory; whether they may be printed. -/
import Derived.Test.YtcmahiphfpgadaaDoorJ19
import Derived.Test.YtcmahiphfpgadaaDoorJ20
namespace Go.Proofs.YtcmahiphfpgadaaDoor
open Go.RowKit
set_option linter.unusedVariables false

/-- A variable. -/
structure VT where
  nm : ByteArray
  t : Nat
  b : Nat
def VT.cells (v : VT) : List Value := [.string v.nm, .int .u8 (v.t : Int), .int .u64 (v.b : Int)]
def VT.vr (v : VT) : Vr := ⟨v.nm.data.toList, v.t, v.b⟩
def VT.In (_B : Nat) (_w : World) (v : VT) : Prop := v.t < 256 ∧ v.b < 18446744073709551616

/-- A row of variables in memory. -/
def RowV (B : Nat) (w : World) (a : Option Addr) (c : Nat) (ks : List VT) : Prop := ks.length ≤ 1048576 ∧ ks.length ≤ c ∧ (ks = [] ∨ ∃ g o, a = some ⟨g, o, none⟩ ∧ g < B ∧ ∀ i v, ks[i]? = some v → w.rangeAt g (o + i * 3) v.cells ∧ v.In B w)

/-- A row of names in memory. -/
def RowN (B : Nat) (w : World) (a : Option Addr) (c : Nat) (ks : List ByteArray) : Prop := ks.length ≤ 1048576 ∧ ks.length ≤ c ∧ (ks = [] ∨ ∃ g o, a = some ⟨g, o, none⟩ ∧ g < B ∧ ∀ i v, ks[i]? = some v → w.cell? ⟨g, o + i, none⟩ = some (.string v))

theorem VT.In.old {B : Nat} {w w' : World} (hO : Old B w w') {v : VT} (h : v.In B w) : v.In B w' := h

/-- A thread, with where its lists lie. -/
structure TT where
  nm : ByteArray
  a1 : Option Addr
  c1 : Nat
  locals : List VT
  a2 : Option Addr
  c2 : Nat
  body : List ST
def TT.cells (v : TT) : List Value := [.string v.nm, .slice v.a1 v.locals.length v.c1, .slice v.a2 v.body.length v.c2]
def TT.th (v : TT) : Th := ⟨v.nm.data.toList, v.locals.map VT.vr, v.body.map ST.st⟩
def TT.In (B : Nat) (w : World) (v : TT) : Prop := RowV B w v.a1 v.c1 v.locals ∧ RowS B w v.a2 v.c2 v.body

/-- A row of threads in memory. -/
def RowT (B : Nat) (w : World) (a : Option Addr) (c : Nat) (ks : List TT) : Prop := ks.length ≤ 1048576 ∧ ks.length ≤ c ∧ (ks = [] ∨ ∃ g o, a = some ⟨g, o, none⟩ ∧ g < B ∧ ∀ i v, ks[i]? = some v → w.rangeAt g (o + i * 3) v.cells ∧ v.In B w)

theorem RowV.old {B c : Nat} {w w' : World} {a : Option Addr} {ks : List VT} (h : RowV B w a c ks) (hO : Old B w w') : RowV B w' a c ks := by
  obtain ⟨h1, h2, h | ⟨g, o, ha, hg, hr⟩⟩ := h
  · exact ⟨h1, h2, .inl h⟩
  · exact ⟨h1, h2, .inr ⟨g, o, ha, hg, fun i v hv => ⟨hO.range hg (hr i v hv).1, (hr i v hv).2⟩⟩⟩
theorem RowN.old {B c : Nat} {w w' : World} {a : Option Addr} {ks : List ByteArray} (h : RowN B w a c ks) (hO : Old B w w') : RowN B w' a c ks := by
  obtain ⟨h1, h2, h | ⟨g, o, ha, hg, hr⟩⟩ := h
  · exact ⟨h1, h2, .inl h⟩
  · exact ⟨h1, h2, .inr ⟨g, o, ha, hg, fun i v hv => by rw [World.cell?_of_block (w := w) (w' := w') (hO _ hg)]; exact hr i v hv⟩⟩
theorem TT.In.old {B : Nat} {w w' : World} (hO : Old B w w') {v : TT} (h : v.In B w) : v.In B w' := ⟨h.1.old hO, h.2.old hO⟩
theorem RowT.old {B c : Nat} {w w' : World} {a : Option Addr} {ks : List TT} (h : RowT B w a c ks) (hO : Old B w w') : RowT B w' a c ks := by
  obtain ⟨h1, h2, h | ⟨g, o, ha, hg, hr⟩⟩ := h
  · exact ⟨h1, h2, .inl h⟩
  · exact ⟨h1, h2, .inr ⟨g, o, ha, hg, fun i v hv => ⟨hO.range hg (hr i v hv).1, (hr i v hv).2.old hO⟩⟩⟩

theorem RowV.at {B c : Nat} {w : World} {a : Option Addr} {ks : List VT} (h : RowV B w a c ks) (i : Nat) (k : VT) (hk : ks[i]? = some k) : ∃ g o, a = some ⟨g, o, none⟩ ∧ g < B ∧ w.rangeAt g (o + i * 3) k.cells ∧ k.In B w := by
  obtain ⟨_, _, h | ⟨g, o, ha, hg, hr⟩⟩ := h
  · rw [h] at hk; simp at hk
  · exact ⟨g, o, ha, hg, (hr i k hk).1, (hr i k hk).2⟩
theorem RowT.at {B c : Nat} {w : World} {a : Option Addr} {ks : List TT} (h : RowT B w a c ks) (i : Nat) (k : TT) (hk : ks[i]? = some k) : ∃ g o, a = some ⟨g, o, none⟩ ∧ g < B ∧ w.rangeAt g (o + i * 3) k.cells ∧ k.In B w := by
  obtain ⟨_, _, h | ⟨g, o, ha, hg, hr⟩⟩ := h
  · rw [h] at hk; simp at hk
  · exact ⟨g, o, ha, hg, (hr i k hk).1, (hr i k hk).2⟩
theorem RowN.at {B c : Nat} {w : World} {a : Option Addr} {ks : List ByteArray} (h : RowN B w a c ks) (i : Nat) (k : ByteArray) (hk : ks[i]? = some k) : ∃ g o, a = some ⟨g, o, none⟩ ∧ g < B ∧ w.cell? ⟨g, o + i, none⟩ = some (.string k) := by
  obtain ⟨_, _, h | ⟨g, o, ha, hg, hr⟩⟩ := h
  · rw [h] at hk; simp at hk
  · exact ⟨g, o, ha, hg, hr i k hk⟩

theorem VT.one (v : VT) : ∀ x ∈ v.cells, x.oneCell' = true := by
  intro x hx
  simp [VT.cells] at hx
  rcases hx with rfl | rfl | rfl <;> rfl
theorem TT.one (v : TT) : ∀ x ∈ v.cells, x.oneCell' = true := by
  intro x hx
  simp [TT.cells] at hx
  rcases hx with rfl | rfl | rfl <;> rfl

theorem i79 : (Tryd.prog.info? 79).map (·.size) = some 3 := by kernel_rfl
theorem z79 : (Tryd.prog.info? 79).map (fun i => (i.zero, i.size)) = some (some (.agg [.string ⟨#[]⟩, .int .u8 0, .int .u64 0].toArray), 3) := by kernel_rfl
theorem i42 : (Tryd.prog.info? 42).map (·.size) = some 3 := by kernel_rfl
theorem z42 : (Tryd.prog.info? 42).map (fun i => (i.zero, i.size)) = some (some (.agg [.string ⟨#[]⟩, .slice none 0 0, .slice none 0 0].toArray), 3) := by kernel_rfl

/-- Whether a variable, a thread, a program may be printed. -/
def mayV (v : Vr) : Bool := valOk v.t v.b && isNm v.nm
def mayT (t : Th) : Bool := isNm t.nm && (t.locals.all mayV && mayB 0 t.body)
def mayP (p : Pg) : Bool := p.shared.all mayV && (p.mutexes.all isNm && p.threads.all mayT)

set_option maxRecDepth 100000 in
set_option maxHeartbeats 1600000 in
theorem mayVar_at (nm : ByteArray) (t b : Nat) (M N : Bool) (L : List UInt8) (w : World) (hT : Tab w) (h16 : gB ≤ w.heap.size)
    (hV : ∀ w, Tab w → gB ≤ w.heap.size → Calls Tryd.prog 13 #[.agg [.int .u8 (t : Int), .int .u64 (b : Int)].toArray] w fun e w' => e = .returned (.tuple #[.string ⟨L.toArray⟩, .bool M]) ∧ Below w.heap.size w w')
    (hN' : ∀ w, Calls Tryd.prog 21 #[.string nm] w fun e w' => e = .returned (.bool N) ∧ w' = w) :
    Calls Tryd.prog 31 #[.agg [.string nm, .int .u8 (t : Int), .int .u64 (b : Int)].toArray] w fun r w' => r = .returned (.bool (M && N)) ∧ Below w.heap.size w w' := by
  go_enter Tryd.func31, Tryd.ntmps31
  go_wp2_with (first
    | ((with_reducible show wpList _ _ _ _ _ _); refine wpList_box_at rfl 79 (.tmp 0) rfl [.string nm, .int .u8 (t : Int), .int .u64 (b : Int)] rfl ?_; intro w1 hA1 hb1 hs1; clear hs1; refine Hid.out ?_))
  refine hidU ?_
  have c1 : w1.cell? ⟨w.heap.size, 1, none⟩ = some (.int .u8 (t : Int)) := by rw [hA1.cell]; rfl
  have c2 : w1.cell? ⟨w.heap.size, 2, none⟩ = some (.int .u64 (b : Int)) := by rw [hA1.cell]; rfl
  go_wp2_with fail
  refine (hV w1 (hT.below hb1 h16) (by have := hb1.size; omega)).mono ?_
  rintro r w2 ⟨rfl, hb2⟩
  have c0 : w2.cell? ⟨w.heap.size, 0, none⟩ = some (.string nm) := by rw [(hA1.below hb2).cell]; rfl
  have hbb := hb1.trans (hb2.mono hb1.size)
  clear hV hb2 hA1 c1 c2 hb1
  cases M with
  | false =>
    go_wp2_with fail
    go_ret
    exact ⟨rfl, hbb⟩
  | true =>
    go_wp2_with fail
    refine (hN' _).mono ?_
    rintro r w' ⟨rfl, rfl⟩
    clear hN'
    go_wp2_with fail
    go_ret
    exact ⟨rfl, hbb⟩

theorem mayVar_any (v : VT) (B : Nat) (w : World) (h : v.In B w) (hT : Tab w) (h16 : gB ≤ w.heap.size) :
    Calls Tryd.prog 31 #[.agg v.cells.toArray] w fun r w' => r = .returned (.bool (mayV v.vr)) ∧ Below w.heap.size w w' :=
  mayVar_at v.nm v.t v.b (valOk v.t v.b) (isNm v.nm.data.toList) (valTx v.t v.b) w hT h16 (fun w hT h16 => valueText_any v.t v.b h.1 h.2 w hT h16) (fun w => name_any v.nm w)

set_option maxRecDepth 100000 in
set_option maxHeartbeats 3200000 in
theorem allV_any (B : Nat) (ks : List VT) (a : Option Addr) (c : Nat) (w : World) (hr : RowV B w a c ks) (hBw : B ≤ w.heap.size) (hT : Tab w) (h16 : gB ≤ w.heap.size) :
    Calls Tryd.prog 30 #[.slice a ks.length c, .func (.func 31) #[] #[]] w fun r w' => r = .returned (.bool ((ks.map VT.vr).all mayV)) ∧ Below w.heap.size w w' := by
  obtain ⟨R, hR⟩ : ∃ R, Hid (R = (ks.map VT.vr).all mayV) := ⟨_, (rfl : _ = (ks.map VT.vr).all mayV)⟩
  rw [← hR.out]
  obtain ⟨n, hn⟩ : ∃ n, Hid (n = ks.length) := ⟨_, (rfl : ks.length = _)⟩
  have hl := hr.1
  have hk := hr.2.1
  rw [← hn.out] at hl hk ⊢
  have HR : Hid (RowV B w a c ks) := hr
  clear hr
  go_enter Tryd.func30, Tryd.ntmps30
  go_wp2_with fail
  go_loopw [9] (fun j wr => ∃ i : Nat, j = .int .i64 (i : Int) ∧ i ≤ n ∧ Hid (Below w.heap.size w wr ∧ ∀ s ∈ (ks.take i).map VT.vr, mayV s = true)) (fun j _ => n - (intOf j).toNat)
  case atStart => exact ⟨0, rfl, by omega, Below.refl _ _, by simp⟩
  case round =>
    obtain ⟨i, rfl, hi, hX⟩ := hrel
    by_cases hc : i < n
    · obtain ⟨s, hs⟩ : ∃ k, ks[i]? = some k := ⟨ks[i]'(by rw [← hn.out]; exact hc), by rw [List.getElem?_eq_getElem]⟩
      obtain ⟨hbw, hall⟩ := hX.out
      have hold : Old B w wr := Old.of_below hbw hBw
      have hBr : B ≤ wr.heap.size := by have := hbw.size; omega
      have h16r : gB ≤ wr.heap.size := by have := hbw.size; omega
      have hTr := hT.below hbw h16
      obtain ⟨g1, o1, rfl, hg1, hr1, hs1⟩ := (HR.out.old hold).at i s hs
      clear hX hold HR
      go_wp2_with (first
        | ((with_reducible show wpList _ _ _ _ _ _); refine wpList_load_mid (P := Tryd.prog) rfl 79 (.tmp 11) rfl g1 (o1 + i * 3) (by first | rfl | (simp; done)) s.cells _ hr1 Tryd.underlying79 rfl i79 ?_)
        | ((with_reducible show wpList _ _ _ _ _ _); refine wpList_alloc_at rfl 79 rfl _ 3 z79 ?_; intro w2 hA2 hb2 hs2)
        | ((with_reducible show wpList _ _ _ _ _ _); refine wpList_store_at (P := Tryd.prog) rfl 79 (.tmp 6) (.tmp 12) rfl wr.heap.size s.cells rfl rfl 79 _ hA2 i79 rfl s.one ?_; intro w3 hA3 hb3 hs3; refine Hid.out ?_))
      refine hidU ?_
      have hB3 : Below wr.heap.size wr w3 := hb3.below hb2 (Nat.le_refl _) (by omega)
      have hw3 : Below w.heap.size w w3 := hbw.trans (hB3.mono hbw.size)
      have hI := mayVar_any s B w3 hs1 (hTr.below hB3 h16r) (by have := hB3.size; omega)
      obtain ⟨M, hM⟩ : ∃ M, Hid (M = mayV (VT.vr s)) := ⟨_, (rfl : _ = mayV (VT.vr s))⟩
      rw [← hM.out] at hI
      have hA3' := hA3
      clear hb3 hb2 hA2 hr1 hs2 hs3 hA3 hB3 hbw hs1
      go_wp2_with (first
        | ((with_reducible show wpList _ _ _ _ _ _); refine wpList_load_at (P := Tryd.prog) rfl 79 (.tmp 6) rfl wr.heap.size rfl 79 s.cells hA3' _ Tryd.underlying79 rfl i79 ?_))
      refine hI.mono ?_
      rintro r w6 ⟨rfl, hb6⟩
      have hw6 : Below w.heap.size w w6 := hw3.trans (hb6.mono hw3.size)
      clear hI hb6 hw3 hA3'
      cases M with
      | false =>
        have hRf : R = false := by
          rw [hR.out, List.all_eq_false]
          exact ⟨VT.vr s, List.mem_map.2 ⟨s, List.mem_of_getElem? hs, rfl⟩, by rw [← hM.out]; simp⟩
        go_wp2
        go_ret
        exact ⟨by rw [hRf]; rfl, hw6⟩
      | true =>
        go_wp2
        go_roundw
        case rel =>
          refine ⟨i + 1, by go_num, by omega, hw6, fun x hx => ?_⟩
          rw [List.take_add_one, hs, List.map_append, List.mem_append] at hx
          rcases hx with hx | hx
          · exact hall x hx
          · simp at hx; rw [hx]; exact hM.out.symm
        case measure => simp [intOf]; omega
    · have hin : i = n := by omega
      obtain ⟨hbw, hall⟩ := hX.out
      have hRt : R = true := by
        rw [hR.out, List.all_eq_true]
        intro s hs
        exact hall s (by rw [hin, hn.out, List.take_length]; exact hs)
      clear hX hall hin HR
      go_wp2
      go_ret
      exact ⟨by rw [hRt]; rfl, hbw⟩

set_option maxRecDepth 100000 in
set_option maxHeartbeats 3200000 in
theorem allN_any (B : Nat) (ks : List ByteArray) (a : Option Addr) (c : Nat) (w : World) (hr : RowN B w a c ks) (hBw : B ≤ w.heap.size) (hT : Tab w) (h16 : gB ≤ w.heap.size) :
    Calls Tryd.prog 32 #[.slice a ks.length c, .func (.func 21) #[] #[]] w fun r w' => r = .returned (.bool ((ks.map (fun s : ByteArray => s.data.toList)).all isNm)) ∧ Below w.heap.size w w' := by
  obtain ⟨R, hR⟩ : ∃ R, Hid (R = (ks.map (fun s : ByteArray => s.data.toList)).all isNm) := ⟨_, (rfl : _ = (ks.map (fun s : ByteArray => s.data.toList)).all isNm)⟩
  rw [← hR.out]
  obtain ⟨n, hn⟩ : ∃ n, Hid (n = ks.length) := ⟨_, (rfl : ks.length = _)⟩
  have hl := hr.1
  have hk := hr.2.1
  rw [← hn.out] at hl hk ⊢
  have HR : Hid (RowN B w a c ks) := hr
  clear hr
  go_enter Tryd.func32, Tryd.ntmps32
  go_wp2_with fail
  go_loopw [9] (fun j wr => ∃ i : Nat, j = .int .i64 (i : Int) ∧ i ≤ n ∧ Hid (Below w.heap.size w wr ∧ ∀ s ∈ (ks.take i).map (fun s : ByteArray => s.data.toList), isNm s = true)) (fun j _ => n - (intOf j).toNat)
  case atStart => exact ⟨0, rfl, by omega, Below.refl _ _, by simp⟩
  case round =>
    obtain ⟨i, rfl, hi, hX⟩ := hrel
    by_cases hc : i < n
    · obtain ⟨s, hs⟩ : ∃ k, ks[i]? = some k := ⟨ks[i]'(by rw [← hn.out]; exact hc), by rw [List.getElem?_eq_getElem]⟩
      obtain ⟨hbw, hall⟩ := hX.out
      have hold : Old B w wr := Old.of_below hbw hBw
      have hBr : B ≤ wr.heap.size := by have := hbw.size; omega
      have h16r : gB ≤ wr.heap.size := by have := hbw.size; omega
      have hTr := hT.below hbw h16
      obtain ⟨g1, o1, rfl, hg1, hr1⟩ := (HR.out.old hold).at i s hs
      have hI : ∀ w, Calls Tryd.prog 21 #[.string s] w fun r w' => r = .returned (.bool (isNm s.data.toList)) ∧ w' = w := fun w => name_any s w
      obtain ⟨M, hM⟩ : ∃ M, Hid (M = isNm s.data.toList) := ⟨_, (rfl : _ = isNm s.data.toList)⟩
      rw [← hM.out] at hI
      clear hX hold HR
      go_wp2_with fail
      refine (hI _).mono ?_
      rintro r w6 ⟨rfl, hq⟩
      have hq' := hq.symm
      subst hq'
      clear hq
      have hw6 := hbw
      clear hI hr1
      cases M with
      | false =>
        have hRf : R = false := by
          rw [hR.out, List.all_eq_false]
          exact ⟨(fun s : ByteArray => s.data.toList) s, List.mem_map.2 ⟨s, List.mem_of_getElem? hs, rfl⟩, by rw [← hM.out]; simp⟩
        go_wp2
        go_ret
        exact ⟨by rw [hRf]; rfl, hw6⟩
      | true =>
        go_wp2
        go_roundw
        case rel =>
          refine ⟨i + 1, by go_num, by omega, hw6, fun x hx => ?_⟩
          rw [List.take_add_one, hs, List.map_append, List.mem_append] at hx
          rcases hx with hx | hx
          · exact hall x hx
          · simp at hx; rw [hx]; exact hM.out.symm
        case measure => simp [intOf]; omega
    · have hin : i = n := by omega
      obtain ⟨hbw, hall⟩ := hX.out
      have hRt : R = true := by
        rw [hR.out, List.all_eq_true]
        intro s hs
        exact hall s (by rw [hin, hn.out, List.take_length]; exact hs)
      clear hX hall hin HR
      go_wp2
      go_ret
      exact ⟨by rw [hRt]; rfl, hbw⟩

set_option maxRecDepth 100000 in
set_option maxHeartbeats 3200000 in
theorem allT_of (B : Nat) (ks : List TT) (a : Option Addr) (c : Nat) (w : World) (hr : RowT B w a c ks) (hBw : B ≤ w.heap.size) (hT : Tab w) (h16 : gB ≤ w.heap.size) (hS : ∀ s ∈ ks, ∀ w, s.In B w → B ≤ w.heap.size → Tab w → gB ≤ w.heap.size → Calls Tryd.prog 34 #[.agg s.cells.toArray] w fun r w' => r = .returned (.bool (mayT s.th)) ∧ Below w.heap.size w w') :
    Calls Tryd.prog 33 #[.slice a ks.length c, .func (.func 34) #[] #[]] w fun r w' => r = .returned (.bool ((ks.map TT.th).all mayT)) ∧ Below w.heap.size w w' := by
  obtain ⟨R, hR⟩ : ∃ R, Hid (R = (ks.map TT.th).all mayT) := ⟨_, (rfl : _ = (ks.map TT.th).all mayT)⟩
  rw [← hR.out]
  obtain ⟨n, hn⟩ : ∃ n, Hid (n = ks.length) := ⟨_, (rfl : ks.length = _)⟩
  have hl := hr.1
  have hk := hr.2.1
  rw [← hn.out] at hl hk ⊢
  have HR : Hid (RowT B w a c ks) := hr
  have HS : Hid (∀ s ∈ ks, ∀ w, s.In B w → B ≤ w.heap.size → Tab w → gB ≤ w.heap.size → Calls Tryd.prog 34 #[.agg s.cells.toArray] w fun r w' => r = .returned (.bool (mayT s.th)) ∧ Below w.heap.size w w') := hS
  clear hS
  clear hr
  go_enter Tryd.func33, Tryd.ntmps33
  go_wp2_with fail
  go_loopw [9] (fun j wr => ∃ i : Nat, j = .int .i64 (i : Int) ∧ i ≤ n ∧ Hid (Below w.heap.size w wr ∧ ∀ s ∈ (ks.take i).map TT.th, mayT s = true)) (fun j _ => n - (intOf j).toNat)
  case atStart => exact ⟨0, rfl, by omega, Below.refl _ _, by simp⟩
  case round =>
    obtain ⟨i, rfl, hi, hX⟩ := hrel
    by_cases hc : i < n
    · obtain ⟨s, hs⟩ : ∃ k, ks[i]? = some k := ⟨ks[i]'(by rw [← hn.out]; exact hc), by rw [List.getElem?_eq_getElem]⟩
      obtain ⟨hbw, hall⟩ := hX.out
      have hold : Old B w wr := Old.of_below hbw hBw
      have hBr : B ≤ wr.heap.size := by have := hbw.size; omega
      have h16r : gB ≤ wr.heap.size := by have := hbw.size; omega
      have hTr := hT.below hbw h16
      obtain ⟨g1, o1, rfl, hg1, hr1, hs1⟩ := (HR.out.old hold).at i s hs
      clear hX hold HR
      go_wp2_with (first
        | ((with_reducible show wpList _ _ _ _ _ _); refine wpList_load_mid (P := Tryd.prog) rfl 42 (.tmp 11) rfl g1 (o1 + i * 3) (by first | rfl | (simp; done)) s.cells _ hr1 Tryd.underlying42 rfl i42 ?_)
        | ((with_reducible show wpList _ _ _ _ _ _); refine wpList_alloc_at rfl 42 rfl _ 3 z42 ?_; intro w2 hA2 hb2 hs2)
        | ((with_reducible show wpList _ _ _ _ _ _); refine wpList_store_at (P := Tryd.prog) rfl 42 (.tmp 6) (.tmp 12) rfl wr.heap.size s.cells rfl rfl 42 _ hA2 i42 rfl s.one ?_; intro w3 hA3 hb3 hs3; refine Hid.out ?_))
      refine hidU ?_
      have hB3 : Below wr.heap.size wr w3 := hb3.below hb2 (Nat.le_refl _) (by omega)
      have hw3 : Below w.heap.size w w3 := hbw.trans (hB3.mono hbw.size)
      have hI := HS.out s (List.mem_of_getElem? hs) w3 (hs1.old (Old.of_below hB3 hBr)) (by have := hB3.size; omega) (hTr.below hB3 h16r) (by have := hB3.size; omega)
      obtain ⟨M, hM⟩ : ∃ M, Hid (M = mayT (TT.th s)) := ⟨_, (rfl : _ = mayT (TT.th s))⟩
      rw [← hM.out] at hI
      have hA3' := hA3
      clear hb3 hb2 hA2 hr1 hs2 hs3 hA3 hB3 hbw hs1
      go_wp2_with (first
        | ((with_reducible show wpList _ _ _ _ _ _); refine wpList_load_at (P := Tryd.prog) rfl 42 (.tmp 6) rfl wr.heap.size rfl 42 s.cells hA3' _ Tryd.underlying42 rfl i42 ?_))
      refine hI.mono ?_
      rintro r w6 ⟨rfl, hb6⟩
      have hw6 : Below w.heap.size w w6 := hw3.trans (hb6.mono hw3.size)
      clear hI hb6 hw3 hA3'
      cases M with
      | false =>
        have hRf : R = false := by
          rw [hR.out, List.all_eq_false]
          exact ⟨TT.th s, List.mem_map.2 ⟨s, List.mem_of_getElem? hs, rfl⟩, by rw [← hM.out]; simp⟩
        go_wp2
        go_ret
        exact ⟨by rw [hRf]; rfl, hw6⟩
      | true =>
        go_wp2
        go_roundw
        case rel =>
          refine ⟨i + 1, by go_num, by omega, hw6, fun x hx => ?_⟩
          rw [List.take_add_one, hs, List.map_append, List.mem_append] at hx
          rcases hx with hx | hx
          · exact hall x hx
          · simp at hx; rw [hx]; exact hM.out.symm
        case measure => simp [intOf]; omega
    · have hin : i = n := by omega
      obtain ⟨hbw, hall⟩ := hX.out
      have hRt : R = true := by
        rw [hR.out, List.all_eq_true]
        intro s hs
        exact hall s (by rw [hin, hn.out, List.take_length]; exact hs)
      clear hX hall hin HR
      go_wp2
      go_ret
      exact ⟨by rw [hRt]; rfl, hbw⟩

end Go.Proofs.YtcmahiphfpgadaaDoor
