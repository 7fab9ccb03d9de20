/- race.Races and race.Data: what they tell. -/
import Derived.Test.YtmkhobaclpiceaaJ22
import Derived.Test.YtmkhobaclpiceaaJ24
import Derived.Test.YtmkhobaclpiceaaJ28
namespace Go.Proofs.Ytmkhobaclpiceaa
open Go.RowKit
set_option linter.unusedVariables false
attribute [local go_sem ↓] Go.wp_at_zero Go.wp_at_succ

theorem ClkAt.row' {base : Nat} {w : World} {G M n : Nat} {zss : List (List Int)} (h : ClkAt base w G M n zss) (hn : n ≤ 16) : RowII w (some ⟨G, 0, none⟩) zss := h.row (by omega)
theorem boxed_cell (w : World) (v : Value) (t : TypeId) : (w.alloc (.cells #[v] t)).cell? ⟨w.heap.size, 0, none⟩ = some v := by unfold World.cell?; rw [heap_new]; rfl
theorem alloc_below (w : World) (o : Obj) : Below w.heap.size w (w.alloc o) := (Below.refl _ w).alloc (Nat.le_refl _) _

set_option maxRecDepth 100000 in
set_option maxHeartbeats 6400000 in
theorem racesFrom_ok (es : List Ev) (n f m : Nat) (a : Option Addr) (c : Nat) (w : World) (hE : RowEv w a es) (hok : ∀ x ∈ es, x.ok) (hm : es.length = m) (hc : m ≤ c) (hw : wrongZ es n = 0) (hf : f ≤ m) :
    Calls Try.prog 25 #[.slice a m c, .int .i64 n, .int .i64 f] w fun r w' => ∃ v, r = .returned (.tuple #[v, .int .i64 0]) ∧ OwnP w.heap.size w' v ((prsF (bndP (evAt es)) f m).filter fun x => raceP (evAt es) x.2 x.1) ∧ Below w.heap.size w w' := by
  obtain ⟨h1, h2, h3, h4⟩ := wrongZ_ok hw
  have hn1 : 0 < n := by omega
  have hn2 : n ≤ 16 := by omega
  have hm2 : m ≤ 1024 := by omega
  have HC : Hid (∀ u, Below w.heap.size w u → Calls Try.prog 20 #[.slice a m c, .int .i64 n] u fun r w' => ∃ G, r = .returned (.tuple #[.slice (some ⟨G, 0, none⟩) m m, .int .i64 0]) ∧ Hid (RowII w' (some ⟨G, 0, none⟩) (clksL (evAt es) n m)) ∧ Below u.heap.size u w') := fun u hu => by
    have := clocks_ok a c n es u (hE.below hu) hok (by rw [hm]; exact hc) hw
    rw [hm] at this
    exact this.mono fun r w' ⟨G, M, e1, e2, e3⟩ => ⟨G, e1, e2.row' hn2, e3⟩
  have HP : Hid (∀ u G, Below w.heap.size w u → RowII u (some ⟨G, 0, none⟩) (clksL (evAt es) n m) → Calls Try.prog 46 #[.slice (some ⟨G, 0, none⟩) m m, .slice a m c, .int .i64 n] u fun r w' => ∃ H, r = .returned (.slice (some ⟨H, 0, none⟩) m m) ∧ Hid (RowII w' (some ⟨H, 0, none⟩) ((List.range m).map (parL es n))) ∧ Below u.heap.size u w') := fun u G hu hR =>
    parted_any es n m (some ⟨G, 0, none⟩) a m c u hR hm (hE.below hu) hok h4 hn1 hn2 hm2 (Nat.le_refl _) hc
  have HG : Hid (∀ u bl bc bp Bl Bf G H, Below w.heap.size w u → u.cell? ⟨bl, 0, none⟩ = some (.slice a m c) → u.cell? ⟨bc, 0, none⟩ = some (.slice (some ⟨G, 0, none⟩) m m) → u.cell? ⟨bp, 0, none⟩ = some (.slice (some ⟨H, 0, none⟩) m m) → u.cell? ⟨Bl, 0, none⟩ = some (.slice a m c) → u.cell? ⟨Bf, 0, none⟩ = some (.int .i64 (f : Int)) → RowII u (some ⟨G, 0, none⟩) (clksL (evAt es) n m) → RowII u (some ⟨H, 0, none⟩) ((List.range m).map (parL es n)) →
      Calls Try.prog 31 #[.func (.func 51) #[] #[.pointer (some ⟨Bf, 0, none⟩), .pointer (some ⟨Bl, 0, none⟩)], .func (.func 47) #[] #[.pointer (some ⟨bl, 0, none⟩), .pointer (some ⟨bc, 0, none⟩), .pointer (some ⟨bp, 0, none⟩)]] u fun r w' => ∃ v, r = .returned v ∧ Hid (OwnP u.heap.size w' v ((prsF (bndP (evAt es)) f m).filter fun x => raceP (evAt es) x.2 x.1)) ∧ Below u.heap.size u w') := fun u bl bc bp Bl Bf G H hu c1 c2 c3 c4 c5 r1 r2 =>
    gather47 Bf Bl f m a c es bl bc bp (raceP (evAt es)) u hm hm2 hf hc c5 c4 (hE.below hu) hok (fun v hv i j hij hjm hbd =>
      picks47 es n m i j bl bc bp c m m a (some ⟨G, 0, none⟩) (some ⟨H, 0, none⟩) v ⟨(hv.cell (lt_of_cell c1)).trans c1, (hE.below hu).below hv, hm, hm2, hc, hn1, hn2, hok, h4⟩ ((hv.cell (lt_of_cell c2)).trans c2) ((hv.cell (lt_of_cell c3)).trans c3) (r1.below hv) (r2.below hv) hij hjm hbd)
  obtain ⟨PS, hPS⟩ : ∃ PS, Hid (PS = (prsF (bndP (evAt es)) f m).filter fun x => raceP (evAt es) x.2 x.1) := ⟨_, (rfl : _ = List.filter _ _)⟩
  rw [← hPS.out] at HG ⊢
  have HB0 : Hid (Below w.heap.size w (w.alloc (.cells #[.slice a m c] 22))) := alloc_below w _
  have HC0 : Hid ((w.alloc (.cells #[.slice a m c] 22)).cell? ⟨w.heap.size, 0, none⟩ = some (.slice a m c)) := boxed_cell w _ _
  clear hE hok hw h1 h2 h3 h4
  go_enter Try.func25, Try.ntmps25
  go_wp2_with (go_at_call 20; refine (HC.out _ HB0.out).mono ?_; rintro _ w2 ⟨G, rfl, hR2, hb2⟩; refine Hid.out ?_)
  refine hidU ?_
  have HB2 : Hid (Below w.heap.size w w2) := HB0.out.trans (hb2.mono HB0.out.size)
  have c2 : w2.cell? ⟨w.heap.size, 0, none⟩ = some (.slice a m c) := (hb2.cell (lt_of_cell HC0.out)).trans HC0.out
  have hb3 : Below w2.heap.size w2 (w2.alloc (.cells #[.slice (some ⟨G, 0, none⟩) m m] 46)) := alloc_below w2 _
  have c3 := (hb3.cell (lt_of_cell c2)).trans c2
  have HD3 : Hid ((w2.alloc (.cells #[.slice (some ⟨G, 0, none⟩) m m] 46)).cell? ⟨w2.heap.size, 0, none⟩ = some (.slice (some ⟨G, 0, none⟩) m m)) := boxed_cell w2 _ _
  have HC3 : Hid ((w2.alloc (.cells #[.slice (some ⟨G, 0, none⟩) m m] 46)).cell? ⟨w.heap.size, 0, none⟩ = some (.slice a m c)) := c3
  have HR3 : Hid (RowII (w2.alloc (.cells #[.slice (some ⟨G, 0, none⟩) m m] 46)) (some ⟨G, 0, none⟩) (clksL (evAt es) n m)) := hR2.out.below hb3
  have HB3 : Hid (Below w.heap.size w (w2.alloc (.cells #[.slice (some ⟨G, 0, none⟩) m m] 46))) := HB2.out.trans (hb3.mono HB2.out.size)
  clear hb2 hb3 hR2 HB0 HC0 c2
  go_wp2_with (go_at_call 46; refine (HP.out _ G HB3.out HR3.out).mono ?_; rintro _ w4 ⟨H, rfl, hR4, hb4⟩; refine Hid.out ?_)
  refine hidU ?_
  have HB4 : Hid (Below w.heap.size w w4) := HB3.out.trans (hb4.mono HB3.out.size)
  have c4 := (hb4.cell (lt_of_cell HC3.out)).trans HC3.out
  have d4 := (hb4.cell (lt_of_cell HD3.out)).trans HD3.out
  have r4 := HR3.out.below hb4
  have hb5 : Below w4.heap.size w4 (w4.alloc (.cells #[.slice (some ⟨H, 0, none⟩) m m] 46)) := alloc_below w4 _
  have c5 := (hb5.cell (lt_of_cell c4)).trans c4
  have HC5 : Hid ((w4.alloc (.cells #[.slice (some ⟨H, 0, none⟩) m m] 46)).cell? ⟨w.heap.size, 0, none⟩ = some (.slice a m c) ∧ (w4.alloc (.cells #[.slice (some ⟨H, 0, none⟩) m m] 46)).cell? ⟨w2.heap.size, 0, none⟩ = some (.slice (some ⟨G, 0, none⟩) m m) ∧ (w4.alloc (.cells #[.slice (some ⟨H, 0, none⟩) m m] 46)).cell? ⟨w4.heap.size, 0, none⟩ = some (.slice (some ⟨H, 0, none⟩) m m)) := ⟨c5, (hb5.cell (lt_of_cell d4)).trans d4, boxed_cell w4 _ _⟩
  have HR5 : Hid (RowII (w4.alloc (.cells #[.slice (some ⟨H, 0, none⟩) m m] 46)) (some ⟨G, 0, none⟩) (clksL (evAt es) n m) ∧ RowII (w4.alloc (.cells #[.slice (some ⟨H, 0, none⟩) m m] 46)) (some ⟨H, 0, none⟩) ((List.range m).map (parL es n))) := ⟨r4.below hb5, hR4.out.below hb5⟩
  have HB5 : Hid (Below w.heap.size w (w4.alloc (.cells #[.slice (some ⟨H, 0, none⟩) m m] 46))) := HB4.out.trans (hb5.mono HB4.out.size)
  clear hb4 hb5 hR4 c4 d4 r4 HC3 HD3 HR3 HB3 c3
  go_wp2_with (go_at_call 32; refine (pairs_any a m c (f : Int) _).mono ?_; rintro _ w6 ⟨rfl, hw6⟩; have HW6 : Hid (w6 = ((w4.alloc (.cells #[.slice (some ⟨H, 0, none⟩) m m] 46)).alloc (.cells #[.slice a m c] 22)).alloc (.cells #[.int .i64 (f : Int)] 3)) := hw6; clear hw6; refine Hid.out ?_)
  refine hidU ?_
  have HG6 : Hid (Below w.heap.size w w6 ∧ Calls Try.prog 31 #[.func (.func 51) #[] #[.pointer (some ⟨w4.heap.size + 1 + 1, 0, none⟩), .pointer (some ⟨w4.heap.size + 1, 0, none⟩)], .func (.func 47) #[] #[.pointer (some ⟨w.heap.size, 0, none⟩), .pointer (some ⟨w2.heap.size, 0, none⟩), .pointer (some ⟨w4.heap.size, 0, none⟩)]] w6 fun r w' => ∃ v, r = .returned v ∧ Hid (OwnP w6.heap.size w' v PS) ∧ Below w6.heap.size w6 w') := by
    obtain ⟨w5, hw5⟩ : ∃ x, x = w4.alloc (.cells #[.slice (some ⟨H, 0, none⟩) m m] 46) := ⟨_, rfl⟩
    have hw6 := HW6.out
    rw [← hw5] at hw6 HC5 HR5 HB5
    have hs5 : w5.heap.size = w4.heap.size + 1 := by rw [hw5]; simp
    rw [← hs5]
    obtain ⟨u1, hu1⟩ : ∃ x, x = w5.alloc (.cells #[.slice a m c] 22) := ⟨_, rfl⟩
    rw [← hu1] at hw6
    have b1 : Below w5.heap.size w5 u1 := by rw [hu1]; exact alloc_below w5 _
    have b2 : Below u1.heap.size u1 w6 := by rw [hw6]; exact alloc_below u1 _
    have b3 : Below w5.heap.size w5 w6 := b1.trans (b2.mono b1.size)
    have hs1 : u1.heap.size = w5.heap.size + 1 := by rw [hu1]; simp
    have e1 : u1.cell? ⟨w5.heap.size, 0, none⟩ = some (.slice a m c) := by rw [hu1]; exact boxed_cell w5 _ _
    have e2 : w6.cell? ⟨w5.heap.size + 1, 0, none⟩ = some (.int .i64 (f : Int)) := by rw [← hs1, hw6]; exact boxed_cell u1 _ _
    obtain ⟨k1, k2, k3⟩ := HC5.out
    have b4 := HB5.out.trans (b3.mono HB5.out.size)
    exact ⟨b4, HG.out w6 _ _ _ _ _ G H b4 ((b3.cell (lt_of_cell k1)).trans k1) ((b3.cell (lt_of_cell k2)).trans k2) ((b3.cell (lt_of_cell k3)).trans k3) ((b2.cell (lt_of_cell e1)).trans e1) e2 (HR5.out.1.below b3) (HR5.out.2.below b3)⟩
  clear HW6 HC5 HR5 HB5 c5 HG HP HC
  go_wp2_with (go_at_call 31; refine HG6.out.2.mono ?_; rintro _ w7 ⟨v, rfl, hown, hb7⟩)
  go_ret2
  exact ⟨v, rfl, hown.out.down HG6.out.1.size, HG6.out.1.trans (hb7.mono HG6.out.1.size)⟩

theorem pairsTo_filter (b q : Nat → Nat → Bool) (j k : Nat) : (pairsTo b j k).filter (fun x => q x.2 x.1) = pairsTo (fun j i => b j i && q j i) j k := by
  unfold pairsTo
  rw [List.filter_map, List.filter_filter]
  congr 1
  refine List.filter_congr fun i _ => ?_
  simp [Bool.and_comm]
theorem prsF_filter (b q : Nat → Nat → Bool) (f m : Nat) : (prsF b f m).filter (fun x => q x.2 x.1) = prsF (fun j i => b j i && q j i) f m := by
  unfold prsF
  rw [List.filter_flatMap]
  congr 1
  funext k
  split
  · exact pairsTo_filter b q k k
  · rfl
theorem prsF_zero (p : Nat → Nat → Bool) (m : Nat) : prsF p 0 m = pairsL p m := by simp [prsF, pairsL]
theorem bnd_race (ev : Nat → Ev) : (fun j i => bndP ev j i && raceP ev j i) = raceP ev := by
  funext j i
  unfold bndP raceP
  cases decide ((ev i).th = (ev j).th) <;> cases depB (ev i) (ev j) <;> simp
theorem bnd_data (ev : Nat → Ev) : (fun j i => bndP ev j i && dataP ev j i) = dataP ev := by
  funext j i
  unfold bndP dataP
  cases decide ((ev i).th = (ev j).th) <;> cases depB (ev i) (ev j) <;> simp
theorem wrongZ_ne {es : List Ev} {n : Int} (h : wrongZ es n ≠ 0) : (wrongZ es n != 0) = true := by simpa using h

set_option maxRecDepth 100000 in
set_option maxHeartbeats 1600000 in
theorem racesFrom_bad (es : List Ev) (n f : Int) (m : Nat) (a : Option Addr) (c : Nat) (w : World) (hE : RowEv w a es) (hm : es.length = m) (hl : m ≤ 4611686018427387904) (hc : m ≤ c) (hw : wrongZ es n ≠ 0) :
    Calls Try.prog 25 #[.slice a m c, .int .i64 n, .int .i64 f] w fun r w' => r = .returned (.tuple #[.slice none 0 0, .int .i64 (wrongZ es n)]) ∧ Below w.heap.size w w' := by
  have HB0 : Hid (Below w.heap.size w (w.alloc (.cells #[.slice a m c] 22))) := alloc_below w _
  have HC := clocks_bad a c n es _ (hE.below HB0.out) (by rw [hm]; exact hl) (by rw [hm]; exact hc) hw
  rw [hm] at HC
  have hz := wrongZ_ne hw
  obtain ⟨Z, hZ⟩ : ∃ Z, Hid (Z = wrongZ es n) := ⟨_, (rfl : _ = wrongZ _ _)⟩
  rw [← hZ.out] at HC hz ⊢
  clear hE hw hm
  go_enter Try.func25, Try.ntmps25
  go_wp2_with (go_at_call 20; refine HC.mono ?_; rintro _ w2 ⟨rfl, hb2⟩; have HB2 : Hid (Below w.heap.size w w2) := HB0.out.trans (hb2.mono HB0.out.size); clear hb2)
  go_ret2
  exact ⟨rfl, HB2.out.alloc HB2.out.size _⟩
set_option maxRecDepth 100000 in
set_option maxHeartbeats 1600000 in
theorem data_bad (es : List Ev) (n : Int) (m : Nat) (a : Option Addr) (c : Nat) (w : World) (hE : RowEv w a es) (hm : es.length = m) (hl : m ≤ 4611686018427387904) (hc : m ≤ c) (hw : wrongZ es n ≠ 0) :
    Calls Try.prog 10 #[.slice a m c, .int .i64 n] w fun r w' => r = .returned (.tuple #[.slice none 0 0, .int .i64 (wrongZ es n)]) ∧ Below w.heap.size w w' := by
  have HB0 : Hid (Below w.heap.size w (w.alloc (.cells #[.slice a m c] 22))) := alloc_below w _
  have HC := clocks_bad a c n es _ (hE.below HB0.out) (by rw [hm]; exact hl) (by rw [hm]; exact hc) hw
  rw [hm] at HC
  have hz := wrongZ_ne hw
  obtain ⟨Z, hZ⟩ : ∃ Z, Hid (Z = wrongZ es n) := ⟨_, (rfl : _ = wrongZ _ _)⟩
  rw [← hZ.out] at HC hz ⊢
  clear hE hw hm
  go_enter Try.func10, Try.ntmps10
  go_wp2_with (go_at_call 20; refine HC.mono ?_; rintro _ w2 ⟨rfl, hb2⟩; have HB2 : Hid (Below w.heap.size w w2) := HB0.out.trans (hb2.mono HB0.out.size); clear hb2)
  go_ret2
  exact ⟨rfl, HB2.out⟩
set_option maxRecDepth 100000 in
set_option maxHeartbeats 6400000 in
theorem data_ok (es : List Ev) (n m : Nat) (a : Option Addr) (c : Nat) (w : World) (hE : RowEv w a es) (hok : ∀ x ∈ es, x.ok) (hm : es.length = m) (hc : m ≤ c) (hw : wrongZ es n = 0) :
    Calls Try.prog 10 #[.slice a m c, .int .i64 n] w fun r w' => ∃ v, r = .returned (.tuple #[v, .int .i64 0]) ∧ OwnP w.heap.size w' v ((prsF (bndP (evAt es)) 0 m).filter fun x => dataP (evAt es) x.2 x.1) ∧ Below w.heap.size w w' := by
  obtain ⟨h1, h2, h3, h4⟩ := wrongZ_ok hw
  have hn1 : 0 < n := by omega
  have hn2 : n ≤ 16 := by omega
  have hm2 : m ≤ 1024 := by omega
  have HC : Hid (∀ u, Below w.heap.size w u → Calls Try.prog 20 #[.slice a m c, .int .i64 n] u fun r w' => ∃ G, r = .returned (.tuple #[.slice (some ⟨G, 0, none⟩) m m, .int .i64 0]) ∧ Below u.heap.size u w') := fun u hu => by
    have := clocks_ok a c n es u (hE.below hu) hok (by rw [hm]; exact hc) hw
    rw [hm] at this
    exact this.mono fun r w' ⟨G, M, e1, e2, e3⟩ => ⟨G, e1, e3⟩
  have HP : Hid (∀ u, Below w.heap.size w u → Calls Try.prog 30 #[.slice a m c, .int .i64 n] u fun r w' => ∃ H, r = .returned (.slice (some ⟨H, 0, none⟩) m m) ∧ Hid (RowII w' (some ⟨H, 0, none⟩) ((List.range m).map (lkL (evAt es) n))) ∧ Below u.heap.size u w') := fun u hu =>
    locks_any es n m a c u hm (hE.below hu) h4 hn1 hn2 hm2 hc
  have HG : Hid (∀ u bl bc Bl Bf H, Below w.heap.size w u → u.cell? ⟨bl, 0, none⟩ = some (.slice a m c) → u.cell? ⟨bc, 0, none⟩ = some (.slice (some ⟨H, 0, none⟩) m m) → u.cell? ⟨Bl, 0, none⟩ = some (.slice a m c) → u.cell? ⟨Bf, 0, none⟩ = some (.int .i64 0) → RowII u (some ⟨H, 0, none⟩) ((List.range m).map (lkL (evAt es) n)) →
      Calls Try.prog 31 #[.func (.func 51) #[] #[.pointer (some ⟨Bf, 0, none⟩), .pointer (some ⟨Bl, 0, none⟩)], .func (.func 33) #[] #[.pointer (some ⟨bc, 0, none⟩), .pointer (some ⟨bl, 0, none⟩)]] u fun r w' => ∃ v, r = .returned v ∧ Hid (OwnP u.heap.size w' v ((prsF (bndP (evAt es)) 0 m).filter fun x => dataP (evAt es) x.2 x.1)) ∧ Below u.heap.size u w') := fun u bl bc Bl Bf H hu c1 c2 c4 c5 r2 =>
    gather33 Bf Bl 0 m a c es bc bl (dataP (evAt es)) u hm hm2 (Nat.zero_le _) hc c5 c4 (hE.below hu) hok (fun v hv i j hij hjm hbd =>
      picks33 es n m i j bl bc c m a (some ⟨H, 0, none⟩) v ⟨(hv.cell (lt_of_cell c1)).trans c1, (hE.below hu).below hv, hm, hm2, hc, hn1, hn2, hok, h4⟩ ((hv.cell (lt_of_cell c2)).trans c2) (Nat.le_refl _) (r2.below hv) hij hjm hbd)
  obtain ⟨PS, hPS⟩ : ∃ PS, Hid (PS = (prsF (bndP (evAt es)) 0 m).filter fun x => dataP (evAt es) x.2 x.1) := ⟨_, (rfl : _ = List.filter _ _)⟩
  rw [← hPS.out] at HG ⊢
  have HB0 : Hid (Below w.heap.size w (w.alloc (.cells #[.slice a m c] 22))) := alloc_below w _
  have HC0 : Hid ((w.alloc (.cells #[.slice a m c] 22)).cell? ⟨w.heap.size, 0, none⟩ = some (.slice a m c)) := boxed_cell w _ _
  clear hE hok hw h1 h2 h3 h4
  go_enter Try.func10, Try.ntmps10
  go_wp2_with (go_at_call 20; refine (HC.out _ HB0.out).mono ?_; rintro _ w2 ⟨G, rfl, hb2⟩; refine Hid.out ?_)
  refine hidU ?_
  have HB2 : Hid (Below w.heap.size w w2) := HB0.out.trans (hb2.mono HB0.out.size)
  have c2 : w2.cell? ⟨w.heap.size, 0, none⟩ = some (.slice a m c) := (hb2.cell (lt_of_cell HC0.out)).trans HC0.out
  have HC3 : Hid (w2.cell? ⟨w.heap.size, 0, none⟩ = some (.slice a m c)) := c2
  clear hb2 HB0 HC0
  go_wp2_with (go_at_call 30; refine (HP.out _ HB2.out).mono ?_; rintro _ w4 ⟨H, rfl, hR4, hb4⟩; refine Hid.out ?_)
  refine hidU ?_
  have HB4 : Hid (Below w.heap.size w w4) := HB2.out.trans (hb4.mono HB2.out.size)
  have c4 := (hb4.cell (lt_of_cell HC3.out)).trans HC3.out
  have hb5 : Below w4.heap.size w4 (w4.alloc (.cells #[.slice (some ⟨H, 0, none⟩) m m] 46)) := alloc_below w4 _
  have c5 := (hb5.cell (lt_of_cell c4)).trans c4
  have HC5 : Hid ((w4.alloc (.cells #[.slice (some ⟨H, 0, none⟩) m m] 46)).cell? ⟨w.heap.size, 0, none⟩ = some (.slice a m c) ∧ (w4.alloc (.cells #[.slice (some ⟨H, 0, none⟩) m m] 46)).cell? ⟨w4.heap.size, 0, none⟩ = some (.slice (some ⟨H, 0, none⟩) m m)) := ⟨c5, boxed_cell w4 _ _⟩
  have HR5 : Hid (RowII (w4.alloc (.cells #[.slice (some ⟨H, 0, none⟩) m m] 46)) (some ⟨H, 0, none⟩) ((List.range m).map (lkL (evAt es) n))) := hR4.out.below hb5
  have HB5 : Hid (Below w.heap.size w (w4.alloc (.cells #[.slice (some ⟨H, 0, none⟩) m m] 46))) := HB4.out.trans (hb5.mono HB4.out.size)
  clear hb4 hb5 hR4 c4 HC3 c2
  go_wp2_with (go_at_call 32; refine (pairs_any a m c 0 _).mono ?_; rintro _ w6 ⟨rfl, hw6⟩; have HW6 : Hid (w6 = ((w4.alloc (.cells #[.slice (some ⟨H, 0, none⟩) m m] 46)).alloc (.cells #[.slice a m c] 22)).alloc (.cells #[.int .i64 0] 3)) := hw6; clear hw6; refine Hid.out ?_)
  refine hidU ?_
  have HG6 : Hid (Below w.heap.size w w6 ∧ Calls Try.prog 31 #[.func (.func 51) #[] #[.pointer (some ⟨w4.heap.size + 1 + 1, 0, none⟩), .pointer (some ⟨w4.heap.size + 1, 0, none⟩)], .func (.func 33) #[] #[.pointer (some ⟨w4.heap.size, 0, none⟩), .pointer (some ⟨w.heap.size, 0, none⟩)]] w6 fun r w' => ∃ v, r = .returned v ∧ Hid (OwnP w6.heap.size w' v PS) ∧ Below w6.heap.size w6 w') := by
    obtain ⟨w5, hw5⟩ : ∃ x, x = w4.alloc (.cells #[.slice (some ⟨H, 0, none⟩) m m] 46) := ⟨_, rfl⟩
    have hw6 := HW6.out
    rw [← hw5] at hw6 HC5 HR5 HB5
    have hs5 : w5.heap.size = w4.heap.size + 1 := by rw [hw5]; simp
    rw [← hs5]
    obtain ⟨u1, hu1⟩ : ∃ x, x = w5.alloc (.cells #[.slice a m c] 22) := ⟨_, rfl⟩
    rw [← hu1] at hw6
    have b1 : Below w5.heap.size w5 u1 := by rw [hu1]; exact alloc_below w5 _
    have b2 : Below u1.heap.size u1 w6 := by rw [hw6]; exact alloc_below u1 _
    have b3 : Below w5.heap.size w5 w6 := b1.trans (b2.mono b1.size)
    have hs1 : u1.heap.size = w5.heap.size + 1 := by rw [hu1]; simp
    have e1 : u1.cell? ⟨w5.heap.size, 0, none⟩ = some (.slice a m c) := by rw [hu1]; exact boxed_cell w5 _ _
    have e2 : w6.cell? ⟨w5.heap.size + 1, 0, none⟩ = some (.int .i64 0) := by rw [← hs1, hw6]; exact boxed_cell u1 _ _
    obtain ⟨k1, k3⟩ := HC5.out
    have b4 := HB5.out.trans (b3.mono HB5.out.size)
    exact ⟨b4, HG.out w6 _ _ _ _ H b4 ((b3.cell (lt_of_cell k1)).trans k1) ((b3.cell (lt_of_cell k3)).trans k3) ((b2.cell (lt_of_cell e1)).trans e1) e2 (HR5.out.below b3)⟩
  clear HW6 HC5 HR5 HB5 c5 HG HP HC
  go_wp2_with (go_at_call 31; refine HG6.out.2.mono ?_; rintro _ w7 ⟨v, rfl, hown, hb7⟩)
  go_ret2
  exact ⟨v, rfl, hown.out.down HG6.out.1.size, HG6.out.1.trans (hb7.mono HG6.out.1.size)⟩
theorem data_tellsP : TellsP 10 dataZ := fun es n a c w hE hok hl hc => by
  unfold dataZ
  by_cases hw : wrongZ es n = 0
  · rw [if_pos hw]
    obtain ⟨h1, -, -, -⟩ := wrongZ_ok hw
    obtain ⟨k, rfl⟩ : ∃ k : Nat, n = (k : Int) := ⟨n.toNat, by omega⟩
    refine (data_ok es k es.length a c w hE hok rfl hc hw).mono fun r w' ⟨v, d1, d2, d3⟩ => ?_
    rw [prsF_filter, bnd_data, prsF_zero] at d2
    obtain ⟨ap, cp, rfl, f2, f3⟩ := d2.row
    exact ⟨ap, cp, by rw [d1, hw], f2, f3, d3⟩
  · rw [if_neg hw]
    exact (data_bad es n es.length a c w hE rfl hl hc hw).mono fun r w' ⟨d1, d3⟩ => ⟨none, 0, d1, Nat.le_refl _, .inl rfl, d3⟩
set_option maxRecDepth 100000 in
theorem races_any (es : List Ev) (n : Int) (m : Nat) (a : Option Addr) (c : Nat) (w : World) (R : Ending → World → Prop) (h : Calls Try.prog 25 #[.slice a m c, .int .i64 n, .int .i64 0] w fun r w' => ∃ v z, r = .returned (.tuple #[v, .int .i64 z]) ∧ R r w') : Calls Try.prog 8 #[.slice a m c, .int .i64 n] w R := by
  have H : Hid (Calls Try.prog 25 #[.slice a m c, .int .i64 n, .int .i64 0] w fun r w' => ∃ v z, r = .returned (.tuple #[v, .int .i64 z]) ∧ R r w') := h
  clear h
  go_enter Try.func8, Try.ntmps8
  go_wp2_with (go_at_call 25; refine H.out.mono ?_; rintro _ w2 ⟨v, z, rfl, hR⟩)
  exact hR
theorem races_ok (es : List Ev) (n : Int) (a : Option Addr) (c : Nat) (w : World) (hE : RowEv w a es) (hok : ∀ x ∈ es, x.ok) (hc : es.length ≤ c) (hw : wrongZ es n = 0) :
    Calls Try.prog 8 #[.slice a es.length c, .int .i64 n] w fun r w' => ∃ v, r = .returned (.tuple #[v, .int .i64 0]) ∧ OwnP w.heap.size w' v (pairsL (raceP (evAt es)) es.length) ∧ Below w.heap.size w w' := by
  obtain ⟨h1, -, -, -⟩ := wrongZ_ok hw
  obtain ⟨k, rfl⟩ : ∃ k : Nat, n = (k : Int) := ⟨n.toNat, by omega⟩
  refine races_any es k es.length a c w _ ((racesFrom_ok es k 0 es.length a c w hE hok rfl hc hw (Nat.zero_le _)).mono fun r w' ⟨v, d1, d2, d3⟩ => ⟨v, 0, d1, v, d1, ?_, d3⟩)
  rw [prsF_filter, bnd_race, prsF_zero] at d2
  exact d2
theorem races_bad (es : List Ev) (n : Int) (a : Option Addr) (c : Nat) (w : World) (hE : RowEv w a es) (hl : es.length ≤ 4611686018427387904) (hc : es.length ≤ c) (hw : wrongZ es n ≠ 0) :
    Calls Try.prog 8 #[.slice a es.length c, .int .i64 n] w fun r w' => r = .returned (.tuple #[.slice none 0 0, .int .i64 (wrongZ es n)]) ∧ Below w.heap.size w w' :=
  races_any es n es.length a c w _ ((racesFrom_bad es n 0 es.length a c w hE rfl hl hc hw).mono fun r w' ⟨d1, d3⟩ => ⟨_, _, d1, d1, d3⟩)
theorem races_tellsP : TellsP 8 raceZ := fun es n a c w hE hok hl hc => by
  unfold raceZ
  by_cases hw : wrongZ es n = 0
  · rw [if_pos hw]
    refine (races_ok es n a c w hE hok hc hw).mono fun r w' ⟨v, d1, d2, d3⟩ => ?_
    obtain ⟨ap, cp, rfl, f2, f3⟩ := d2.row
    exact ⟨ap, cp, by rw [d1, hw], f2, f3, d3⟩
  · rw [if_neg hw]
    exact (races_bad es n a c w hE hl hc hw).mono fun r w' ⟨d1, d3⟩ => ⟨none, 0, d1, Nat.le_refl _, .inl rfl, d3⟩
end Go.Proofs.Ytmkhobaclpiceaa
