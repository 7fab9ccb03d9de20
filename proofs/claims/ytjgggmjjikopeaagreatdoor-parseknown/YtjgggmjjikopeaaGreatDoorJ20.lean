/- The document's own comparison of statements. -/
import Derived.Test.YtjgggmjjikopeaaGreatDoorJ19
import Derived.Test.YtjgggmjjikopeaaGreatDoorJ6
import Derived.Deep.RegionHeld3
namespace Go.Proofs.YtjgggmjjikopeaaGreatDoor
open Go.RowKit
set_option linter.unusedVariables false

theorem st_mid {w : World} {g o : Nat} {k : Int} {nm : ByteArray} {op t b : Nat} {enm : ByteArray} {ea : Option Addr} {en ec : Nat} {a1 : Option Addr} {n1 c1 : Nat} {a2 : Option Addr} {n2 c2 : Nat} (h : w.rangeAt g o (st9 k nm (ex5 op t b enm (.slice ea en ec)) (.slice a1 n1 c1) (.slice a2 n2 c2))) : w.cell? ⟨g, o, none⟩ = some (.int .i64 k) ∧ w.cell? ⟨g, o + 1, none⟩ = some (.string nm) ∧ w.cell? ⟨g, o + 2, none⟩ = some (.int .u8 (op : Int)) ∧ w.cell? ⟨g, o + 3, none⟩ = some (.int .u8 (t : Int)) ∧ w.cell? ⟨g, o + 4, none⟩ = some (.int .u64 (b : Int)) ∧ w.cell? ⟨g, o + 5, none⟩ = some (.string enm) ∧ w.cell? ⟨g, o + 6, none⟩ = some (.slice ea en ec) ∧ w.cell? ⟨g, o + 7, none⟩ = some (.slice a1 n1 c1) ∧ w.cell? ⟨g, o + 8, none⟩ = some (.slice a2 n2 c2) :=
  ⟨h 0 _ rfl, h 1 _ rfl, h 2 _ rfl, h 3 _ rfl, h 4 _ rfl, h 5 _ rfl, h 6 _ rfl, h 7 _ rfl, h 8 _ rfl⟩

/-- What the document's own telling two blocks apart does. -/
def KitLW (B : Nat) (xs : List ST) : Prop := ∀ (ys : List ST) (a a' : Option Addr) (c c' : Nat) (w : World), RowS B w a c xs → RowS B w a' c' ys → B ≤ w.heap.size → Calls Tryz.prog 33 #[.slice a xs.length c, .slice a' ys.length c'] w fun r w' => r = .returned (.bool (samSL (xs.map ST.st) (ys.map ST.st))) ∧ Below w.heap.size w w'
def KitSW (B : Nat) : ST → Prop
  | .mk _ _ _ _ _ body _ _ els => KitLW B body ∧ KitLW B els

set_option maxRecDepth 100000 in
set_option maxHeartbeats 12800000 in
theorem kitStmts_of (B : Nat) (xs : List ST) (hS : ∀ x ∈ xs, KitSW B x) : KitLW B xs := by
  intro ys a1_ a2_ cc1 cc2 w h1 h2 hBw
  obtain ⟨R, hR⟩ : ∃ R, Hid (R = samSL (xs.map ST.st) (ys.map ST.st)) := ⟨_, (rfl : _ = samSL _ _)⟩
  rw [← hR.out]
  obtain ⟨n, hn⟩ : ∃ n, Hid (n = xs.length) := ⟨_, (rfl : xs.length = _)⟩
  obtain ⟨n', hn'⟩ : ∃ n, Hid (n = ys.length) := ⟨_, (rfl : ys.length = _)⟩
  have hl1 := h1.1
  have hl2 := h2.1
  have hk1 := h1.2.1
  have hk2 := h2.2.1
  rw [← hn.out] at hl1 hk1 ⊢
  rw [← hn'.out] at hl2 hk2 ⊢
  have HR : Hid (RowS B w a1_ cc1 xs ∧ RowS B w a2_ cc2 ys) := ⟨h1, h2⟩
  have HS : Hid (∀ x ∈ xs, KitSW B x) := hS
  clear h1 h2 hS
  by_cases hnn : n = n'
  · subst hnn
    go_enter Tryz.func33, Tryz.ntmps33
    go_wp2_with fail
    go_loopw [5] (fun j wr => ∃ i : Nat, j = .int .i64 (i : Int) ∧ i ≤ n ∧ Hid (Below w.heap.size w wr ∧ ∀ (q : Nat) (x y : St), q < i → (xs.map ST.st)[q]? = some x → (ys.map ST.st)[q]? = some y → samS x y = true)) (fun j _ => n - (intOf j).toNat)
    case atStart => exact ⟨0, rfl, by omega, Below.refl _ _, fun q x y hq => by omega⟩
    case round =>
      obtain ⟨i, rfl, hi, hX⟩ := hrel
      obtain ⟨hbw, hall⟩ := hX.out
      by_cases hc : i < n
      · obtain ⟨x, hx⟩ : ∃ k, xs[i]? = some k := ⟨xs[i]'(by rw [← hn.out]; exact hc), by rw [List.getElem?_eq_getElem]⟩
        obtain ⟨y, hy⟩ : ∃ k, ys[i]? = some k := ⟨ys[i]'(by rw [← hn'.out]; exact hc), by rw [List.getElem?_eq_getElem]⟩
        have hold : Old B w wr := Old.of_below hbw hBw
        obtain ⟨g1, o1, rfl, hg1, hr1, hx1⟩ := (HR.out.1.old hold).at i x hx
        obtain ⟨g2, o2, rfl, hg2, hr2, hy1⟩ := (HR.out.2.old hold).at i y hy
        have hKS := HS.out x (List.mem_of_getElem? hx)
        have HX : Hid ((xs.map ST.st)[i]? = some x.st ∧ (ys.map ST.st)[i]? = some y.st) := ⟨by rw [List.getElem?_map, hx]; rfl, by rw [List.getElem?_map, hy]; rfl⟩
        have HA : Hid (∀ (q : Nat) (x y : St), q < i → (xs.map ST.st)[q]? = some x → (ys.map ST.st)[q]? = some y → samS x y = true) := hall
        obtain ⟨Z, hZ⟩ : ∃ Z, Hid (Z = samS x.st y.st) := ⟨_, (rfl : _ = samS _ _)⟩
        have hRf : Hid (Z = false → R = false) := fun hz => by
          rw [hR.out, Bool.eq_false_iff]
          intro h
          have := ((samSL_iff _ _).1 h).2 i _ _ HX.out.1 HX.out.2
          rw [← hZ.out, hz] at this
          cases this
        have hZS : Hid (Z = samS x.st y.st) := hZ.out
        obtain ⟨k, nm, ⟨op, t, b, enm, ea, ec, eks⟩, a1, c1, b1, a2, c2, b2⟩ := x
        obtain ⟨k', nm', ⟨op', t', b', enm', ea', ec', eks'⟩, a1', c1', b1', a2', c2', b2'⟩ := y
        obtain ⟨hKb, hKe⟩ := hKS
        unfold ST.In at hx1 hy1
        obtain ⟨_, xe, x1, x2⟩ := hx1
        obtain ⟨_, ye, y1, y2⟩ := hy1
        have hZ2 : Hid (Z = (decide (k = k') && (decide (nm.data.toList = nm'.data.toList) && (samX (ET.mk op t b enm ea ec eks).ex (ET.mk op' t' b' enm' ea' ec' eks').ex && (samSL (b1.map ST.st) (b1'.map ST.st) && samSL (b2.map ST.st) (b2'.map ST.st)))))) := by
          show Z = _
          rw [hZ.out]
          show samS (.mk k nm.data.toList _ (ST.sts b1) (ST.sts b2)) (.mk k' nm'.data.toList _ (ST.sts b1') (ST.sts b2')) = _
          rw [samS, ST.sts_eq, ST.sts_eq, ST.sts_eq, ST.sts_eq]
        have hsz : B ≤ wr.heap.size := by have := hbw.size; omega
        have q3 : AskB wr 15 #[.agg (ex5 op t b enm (.slice ea eks.length ec)).toArray, .agg (ex5 op' t' b' enm' (.slice ea' eks'.length ec')).toArray] (samX (ET.mk op t b enm ea ec eks).ex (ET.mk op' t' b' enm' ea' ec' eks').ex) := fun w' h => kitExpr_any B _ (.mk op t b enm ea ec eks) (Nat.lt_succ_self _) (.mk op' t' b' enm' ea' ec' eks') w' (xe.old (Old.of_below h hsz)) (ye.old (Old.of_below h hsz)) (by have := h.size; omega)
        have q4 : AskB wr 33 #[.slice a1 b1.length c1, .slice a1' b1'.length c1'] (samSL (b1.map ST.st) (b1'.map ST.st)) := fun w' h => hKb b1' a1 a1' c1 c1' w' (RowS.old x1 (Old.of_below h hsz)) (RowS.old y1 (Old.of_below h hsz)) (by have := h.size; omega)
        have q5 : AskB wr 33 #[.slice a2 b2.length c2, .slice a2' b2'.length c2'] (samSL (b2.map ST.st) (b2'.map ST.st)) := fun w' h => hKe b2' a2 a2' c2 c2' w' (RowS.old x2 (Old.of_below h hsz)) (RowS.old y2 (Old.of_below h hsz)) (by have := h.size; omega)
        generalize samX (ET.mk op t b enm ea ec eks).ex (ET.mk op' t' b' enm' ea' ec' eks').ex = p3 at q3 hZ2
        generalize samSL (b1.map ST.st) (b1'.map ST.st) = p4 at q4 hZ2
        generalize samSL (b2.map ST.st) (b2'.map ST.st) = p5 at q5 hZ2
        simp only [ST.cells, ET.cells] at hr1 hr2
        generalize eks.length = en at q3 hr1
        generalize eks'.length = en' at q3 hr2
        generalize b1.length = n1 at q4 hr1
        generalize b1'.length = n1' at q4 hr2
        generalize b2.length = n2 at q5 hr1
        generalize b2'.length = n2' at q5 hr2
        have hr1 : wr.rangeAt g1 (o1 + i * 9) (st9 k nm (ex5 op t b enm (.slice ea en ec)) (.slice a1 n1 c1) (.slice a2 n2 c2)) := hr1
        have hr2 : wr.rangeAt g2 (o2 + i * 9) (st9 k' nm' (ex5 op' t' b' enm' (.slice ea' en' ec')) (.slice a1' n1' c1') (.slice a2' n2' c2')) := hr2
        have HK : Hid (∀ w', Below wr.heap.size wr w' → ((w'.cell? ⟨g1, o1 + i * 9, none⟩ = some (.int .i64 k) ∧ w'.cell? ⟨g1, o1 + i * 9 + 1, none⟩ = some (.string nm) ∧ w'.cell? ⟨g1, o1 + i * 9 + 2, none⟩ = some (.int .u8 (op : Int)) ∧ w'.cell? ⟨g1, o1 + i * 9 + 3, none⟩ = some (.int .u8 (t : Int)) ∧ w'.cell? ⟨g1, o1 + i * 9 + 4, none⟩ = some (.int .u64 (b : Int)) ∧ w'.cell? ⟨g1, o1 + i * 9 + 5, none⟩ = some (.string enm) ∧ w'.cell? ⟨g1, o1 + i * 9 + 6, none⟩ = some (.slice ea en ec) ∧ w'.cell? ⟨g1, o1 + i * 9 + 7, none⟩ = some (.slice a1 n1 c1) ∧ w'.cell? ⟨g1, o1 + i * 9 + 8, none⟩ = some (.slice a2 n2 c2)) ∧ (w'.cell? ⟨g2, o2 + i * 9, none⟩ = some (.int .i64 k') ∧ w'.cell? ⟨g2, o2 + i * 9 + 1, none⟩ = some (.string nm') ∧ w'.cell? ⟨g2, o2 + i * 9 + 2, none⟩ = some (.int .u8 (op' : Int)) ∧ w'.cell? ⟨g2, o2 + i * 9 + 3, none⟩ = some (.int .u8 (t' : Int)) ∧ w'.cell? ⟨g2, o2 + i * 9 + 4, none⟩ = some (.int .u64 (b' : Int)) ∧ w'.cell? ⟨g2, o2 + i * 9 + 5, none⟩ = some (.string enm') ∧ w'.cell? ⟨g2, o2 + i * 9 + 6, none⟩ = some (.slice ea' en' ec') ∧ w'.cell? ⟨g2, o2 + i * 9 + 7, none⟩ = some (.slice a1' n1' c1') ∧ w'.cell? ⟨g2, o2 + i * 9 + 8, none⟩ = some (.slice a2' n2' c2')))) := fun w' h => ⟨st_mid ((Old.of_below (B := B) h hsz).range hg1 hr1), st_mid ((Old.of_below (B := B) h hsz).range hg2 hr2)⟩
        have Q3 : Hid (AskB wr 15 #[.agg #[.int .u8 (op : Int), .int .u8 (t : Int), .int .u64 (b : Int), .string enm, .slice ea en ec], .agg #[.int .u8 (op' : Int), .int .u8 (t' : Int), .int .u64 (b' : Int), .string enm', .slice ea' en' ec']] p3) := q3
        have Q4 : Hid (AskB wr 33 #[.slice a1 n1 c1, .slice a1' n1' c1'] p4) := q4
        have Q5 : Hid (AskB wr 33 #[.slice a2 n2 c2, .slice a2' n2' c2'] p5) := q5
        clear hX hall hx hy hold hr1 hr2 xe x1 x2 ye y1 y2 q3 q4 q5 hKb hKe HR HS hZ
        have hB0 : Below wr.heap.size wr wr.drew := Below.drew (Below.refl _ _)
        have hS0 := HK.out wr.drew hB0
        by_cases hk : k = k'
        · subst hk
          by_cases hs : nm.toList = nm'.toList
          · have hs0 : (nm.toList == nm'.toList) = true := by rw [beq_iff_eq]; exact hs
            rw [toList_bytes, toList_bytes] at hs
            have hs' : decide (nm.data.toList = nm'.data.toList) = true := decide_eq_true hs
            rw [hs', Bool.true_and] at hZ2
            clear hs hs'
            cases p3 with
            | false =>
              go_wp2_with fail
              refine wp_region_held_drew (S := (fun w' => (w'.cell? ⟨g1, o1 + i * 9, none⟩ = some (.int .i64 k) ∧ w'.cell? ⟨g1, o1 + i * 9 + 1, none⟩ = some (.string nm) ∧ w'.cell? ⟨g1, o1 + i * 9 + 2, none⟩ = some (.int .u8 (op : Int)) ∧ w'.cell? ⟨g1, o1 + i * 9 + 3, none⟩ = some (.int .u8 (t : Int)) ∧ w'.cell? ⟨g1, o1 + i * 9 + 4, none⟩ = some (.int .u64 (b : Int)) ∧ w'.cell? ⟨g1, o1 + i * 9 + 5, none⟩ = some (.string enm) ∧ w'.cell? ⟨g1, o1 + i * 9 + 6, none⟩ = some (.slice ea en ec) ∧ w'.cell? ⟨g1, o1 + i * 9 + 7, none⟩ = some (.slice a1 n1 c1) ∧ w'.cell? ⟨g1, o1 + i * 9 + 8, none⟩ = some (.slice a2 n2 c2)) ∧ (w'.cell? ⟨g2, o2 + i * 9, none⟩ = some (.int .i64 k) ∧ w'.cell? ⟨g2, o2 + i * 9 + 1, none⟩ = some (.string nm') ∧ w'.cell? ⟨g2, o2 + i * 9 + 2, none⟩ = some (.int .u8 (op' : Int)) ∧ w'.cell? ⟨g2, o2 + i * 9 + 3, none⟩ = some (.int .u8 (t' : Int)) ∧ w'.cell? ⟨g2, o2 + i * 9 + 4, none⟩ = some (.int .u64 (b' : Int)) ∧ w'.cell? ⟨g2, o2 + i * 9 + 5, none⟩ = some (.string enm') ∧ w'.cell? ⟨g2, o2 + i * 9 + 6, none⟩ = some (.slice ea' en' ec') ∧ w'.cell? ⟨g2, o2 + i * 9 + 7, none⟩ = some (.slice a1' n1' c1') ∧ w'.cell? ⟨g2, o2 + i * 9 + 8, none⟩ = some (.slice a2' n2' c2')))) (by kernel_rfl) hS0 (fun _ => ?_)
              refine wpAnyH_take (i := 0) (oi := { dst := some 17, op := .move (.tmp 0), type := _, pos := _, after := _, guard := none }) (v := .slice (some ⟨g1, o1, none⟩) n cc1) rfl (by kernel_rfl) (by kernel_rfl) (by kernel_rfl) (fun _ _ _ h => h) (Or.inl ⟨by rfl, ?_⟩) hS0 ?_
              · intro w hSw
                go_simp
              simp only [Act.put, List.setIfInBounds_toArray, List.set_cons_zero, List.set_cons_succ]
              refine wpAnyH_take (i := 1) (oi := { dst := some 18, op := .move (.tmp 5), type := _, pos := _, after := _, guard := none }) (v := .int .i64 (i : Int)) rfl (by kernel_rfl) (by kernel_rfl) (by kernel_rfl) (fun _ _ _ h => h) (Or.inl ⟨by rfl, ?_⟩) hS0 ?_
              · intro w hSw
                go_simp
              simp only [Act.put, List.setIfInBounds_toArray, List.set_cons_zero, List.set_cons_succ]
              refine wpAnyH_take (i := 2) (oi := { dst := some 19, op := .indexAddr 49 (.tmp 17) (.tmp 18), type := _, pos := _, after := _, guard := none }) (v := .pointer (some ⟨g1, o1 + i * 9, none⟩)) rfl (by kernel_rfl) (by kernel_rfl) (by kernel_rfl) (fun _ _ _ h => h) (Or.inl ⟨by rfl, ?_⟩) hS0 ?_
              · intro w hSw
                go_simp
              simp only [Act.put, List.setIfInBounds_toArray, List.set_cons_zero, List.set_cons_succ]
              refine wpAnyH_take (i := 3) (oi := { dst := some 20, op := .fieldAddr 51 (.tmp 19) 0, type := _, pos := _, after := _, guard := none }) (v := .pointer (some ⟨g1, o1 + i * 9, none⟩)) rfl (by kernel_rfl) (by kernel_rfl) (by kernel_rfl) (fun _ _ _ h => h) (Or.inl ⟨by rfl, ?_⟩) hS0 ?_
              · intro w hSw
                go_simp
              simp only [Act.put, List.setIfInBounds_toArray, List.set_cons_zero, List.set_cons_succ]
              refine wpAnyH_take (i := 4) (oi := { dst := some 21, op := .load 3 (.tmp 20), type := _, pos := _, after := _, guard := none }) (v := .int .i64 k) rfl (by kernel_rfl) (by kernel_rfl) (by kernel_rfl) (fun _ _ _ h => h) (Or.inl ⟨by rfl, ?_⟩) hS0 ?_
              · intro w hSw
                have z := hSw.1.1
                go_simp
              simp only [Act.put, List.setIfInBounds_toArray, List.set_cons_zero, List.set_cons_succ]
              refine wpAnyH_take (i := 5) (oi := { dst := some 22, op := .move (.tmp 1), type := _, pos := _, after := _, guard := none }) (v := .slice (some ⟨g2, o2, none⟩) n cc2) rfl (by kernel_rfl) (by kernel_rfl) (by kernel_rfl) (fun _ _ _ h => h) (Or.inl ⟨by rfl, ?_⟩) hS0 ?_
              · intro w hSw
                go_simp
              simp only [Act.put, List.setIfInBounds_toArray, List.set_cons_zero, List.set_cons_succ]
              refine wpAnyH_take (i := 6) (oi := { dst := some 23, op := .move (.tmp 5), type := _, pos := _, after := _, guard := none }) (v := .int .i64 (i : Int)) rfl (by kernel_rfl) (by kernel_rfl) (by kernel_rfl) (fun _ _ _ h => h) (Or.inl ⟨by rfl, ?_⟩) hS0 ?_
              · intro w hSw
                go_simp
              simp only [Act.put, List.setIfInBounds_toArray, List.set_cons_zero, List.set_cons_succ]
              refine wpAnyH_take (i := 7) (oi := { dst := some 24, op := .indexAddr 49 (.tmp 22) (.tmp 23), type := _, pos := _, after := _, guard := none }) (v := .pointer (some ⟨g2, o2 + i * 9, none⟩)) rfl (by kernel_rfl) (by kernel_rfl) (by kernel_rfl) (fun _ _ _ h => h) (Or.inl ⟨by rfl, ?_⟩) hS0 ?_
              · intro w hSw
                go_simp
              simp only [Act.put, List.setIfInBounds_toArray, List.set_cons_zero, List.set_cons_succ]
              refine wpAnyH_take (i := 8) (oi := { dst := some 25, op := .fieldAddr 51 (.tmp 24) 0, type := _, pos := _, after := _, guard := none }) (v := .pointer (some ⟨g2, o2 + i * 9, none⟩)) rfl (by kernel_rfl) (by kernel_rfl) (by kernel_rfl) (fun _ _ _ h => h) (Or.inl ⟨by rfl, ?_⟩) hS0 ?_
              · intro w hSw
                go_simp
              simp only [Act.put, List.setIfInBounds_toArray, List.set_cons_zero, List.set_cons_succ]
              refine wpAnyH_take (i := 9) (oi := { dst := some 26, op := .load 3 (.tmp 25), type := _, pos := _, after := _, guard := none }) (v := .int .i64 k) rfl (by kernel_rfl) (by kernel_rfl) (by kernel_rfl) (fun _ _ _ h => h) (Or.inl ⟨by rfl, ?_⟩) hS0 ?_
              · intro w hSw
                have z := hSw.2.1
                go_simp
              simp only [Act.put, List.setIfInBounds_toArray, List.set_cons_zero, List.set_cons_succ]
              refine wpAnyH_take (i := 10) (oi := { dst := some 27, op := .binOp .neq 3 (.tmp 21) (.tmp 26) 3, type := _, pos := _, after := _, guard := none }) (v := .bool false) rfl (by kernel_rfl) (by kernel_rfl) (by kernel_rfl) (fun _ _ _ h => h) (Or.inl ⟨by rfl, ?_⟩) hS0 ?_
              · intro w hSw
                go_simp
              simp only [Act.put, List.setIfInBounds_toArray, List.set_cons_zero, List.set_cons_succ]
              refine wpAnyH_take (i := 11) (oi := { dst := some 28, op := .move (.tmp 27), type := _, pos := _, after := _, guard := none }) (v := .bool false) rfl (by kernel_rfl) (by kernel_rfl) (by kernel_rfl) (fun _ _ _ h => h) (Or.inl ⟨by rfl, ?_⟩) hS0 ?_
              · intro w hSw
                go_simp
              simp only [Act.put, List.setIfInBounds_toArray, List.set_cons_zero, List.set_cons_succ]
              refine wpAnyH_take (i := 12) (oi := { dst := some 29, op := .move (.tmp 0), type := _, pos := _, after := _, guard := some (11, false) }) (v := .slice (some ⟨g1, o1, none⟩) n cc1) rfl (by kernel_rfl) (by kernel_rfl) (by kernel_rfl) (fun _ _ _ h => h) (Or.inl ⟨by rfl, ?_⟩) hS0 ?_
              · intro w hSw
                go_simp
              simp only [Act.put, List.setIfInBounds_toArray, List.set_cons_zero, List.set_cons_succ]
              refine wpAnyH_take (i := 13) (oi := { dst := some 30, op := .move (.tmp 5), type := _, pos := _, after := _, guard := some (11, false) }) (v := .int .i64 (i : Int)) rfl (by kernel_rfl) (by kernel_rfl) (by kernel_rfl) (fun _ _ _ h => h) (Or.inl ⟨by rfl, ?_⟩) hS0 ?_
              · intro w hSw
                go_simp
              simp only [Act.put, List.setIfInBounds_toArray, List.set_cons_zero, List.set_cons_succ]
              refine wpAnyH_take (i := 14) (oi := { dst := some 31, op := .indexAddr 49 (.tmp 29) (.tmp 30), type := _, pos := _, after := _, guard := some (11, false) }) (v := .pointer (some ⟨g1, o1 + i * 9, none⟩)) rfl (by kernel_rfl) (by kernel_rfl) (by kernel_rfl) (fun _ _ _ h => h) (Or.inl ⟨by rfl, ?_⟩) hS0 ?_
              · intro w hSw
                go_simp
              simp only [Act.put, List.setIfInBounds_toArray, List.set_cons_zero, List.set_cons_succ]
              refine wpAnyH_take (i := 15) (oi := { dst := some 32, op := .fieldAddr 51 (.tmp 31) 1, type := _, pos := _, after := _, guard := some (11, false) }) (v := .pointer (some ⟨g1, o1 + i * 9 + 1, none⟩)) rfl (by kernel_rfl) (by kernel_rfl) (by kernel_rfl) (fun _ _ _ h => h) (Or.inl ⟨by rfl, ?_⟩) hS0 ?_
              · intro w hSw
                go_simp
              simp only [Act.put, List.setIfInBounds_toArray, List.set_cons_zero, List.set_cons_succ]
              refine wpAnyH_take (i := 16) (oi := { dst := some 33, op := .load 9 (.tmp 32), type := _, pos := _, after := _, guard := some (11, false) }) (v := .string nm) rfl (by kernel_rfl) (by kernel_rfl) (by kernel_rfl) (fun _ _ _ h => h) (Or.inl ⟨by rfl, ?_⟩) hS0 ?_
              · intro w hSw
                have z := hSw.1.2.1
                go_simp
              simp only [Act.put, List.setIfInBounds_toArray, List.set_cons_zero, List.set_cons_succ]
              refine wpAnyH_take (i := 17) (oi := { dst := some 34, op := .move (.tmp 1), type := _, pos := _, after := _, guard := some (11, false) }) (v := .slice (some ⟨g2, o2, none⟩) n cc2) rfl (by kernel_rfl) (by kernel_rfl) (by kernel_rfl) (fun _ _ _ h => h) (Or.inl ⟨by rfl, ?_⟩) hS0 ?_
              · intro w hSw
                go_simp
              simp only [Act.put, List.setIfInBounds_toArray, List.set_cons_zero, List.set_cons_succ]
              refine wpAnyH_take (i := 18) (oi := { dst := some 35, op := .move (.tmp 5), type := _, pos := _, after := _, guard := some (11, false) }) (v := .int .i64 (i : Int)) rfl (by kernel_rfl) (by kernel_rfl) (by kernel_rfl) (fun _ _ _ h => h) (Or.inl ⟨by rfl, ?_⟩) hS0 ?_
              · intro w hSw
                go_simp
              simp only [Act.put, List.setIfInBounds_toArray, List.set_cons_zero, List.set_cons_succ]
              refine wpAnyH_take (i := 19) (oi := { dst := some 36, op := .indexAddr 49 (.tmp 34) (.tmp 35), type := _, pos := _, after := _, guard := some (11, false) }) (v := .pointer (some ⟨g2, o2 + i * 9, none⟩)) rfl (by kernel_rfl) (by kernel_rfl) (by kernel_rfl) (fun _ _ _ h => h) (Or.inl ⟨by rfl, ?_⟩) hS0 ?_
              · intro w hSw
                go_simp
              simp only [Act.put, List.setIfInBounds_toArray, List.set_cons_zero, List.set_cons_succ]
              refine wpAnyH_take (i := 20) (oi := { dst := some 37, op := .fieldAddr 51 (.tmp 36) 1, type := _, pos := _, after := _, guard := some (11, false) }) (v := .pointer (some ⟨g2, o2 + i * 9 + 1, none⟩)) rfl (by kernel_rfl) (by kernel_rfl) (by kernel_rfl) (fun _ _ _ h => h) (Or.inl ⟨by rfl, ?_⟩) hS0 ?_
              · intro w hSw
                go_simp
              simp only [Act.put, List.setIfInBounds_toArray, List.set_cons_zero, List.set_cons_succ]
              refine wpAnyH_take (i := 21) (oi := { dst := some 38, op := .load 9 (.tmp 37), type := _, pos := _, after := _, guard := some (11, false) }) (v := .string nm') rfl (by kernel_rfl) (by kernel_rfl) (by kernel_rfl) (fun _ _ _ h => h) (Or.inl ⟨by rfl, ?_⟩) hS0 ?_
              · intro w hSw
                have z := hSw.2.2.1
                go_simp
              simp only [Act.put, List.setIfInBounds_toArray, List.set_cons_zero, List.set_cons_succ]
              refine wpAnyH_take (i := 22) (oi := { dst := some 39, op := .binOp .neq 9 (.tmp 33) (.tmp 38) 9, type := _, pos := _, after := _, guard := some (11, false) }) (v := .bool false) rfl (by kernel_rfl) (by kernel_rfl) (by kernel_rfl) (fun _ _ _ h => h) (Or.inl ⟨by rfl, ?_⟩) hS0 ?_
              · intro w hSw
                go_simp
              simp only [Act.put, List.setIfInBounds_toArray, List.set_cons_zero, List.set_cons_succ]
              refine wpAnyH_take (i := 23) (oi := { dst := some 40, op := .pick (.tmp 28) (.const (.bool true)) (.tmp 39), type := _, pos := _, after := _, guard := none }) (v := .bool false) rfl (by kernel_rfl) (by kernel_rfl) (by kernel_rfl) (fun _ _ _ h => h) (Or.inl ⟨by rfl, ?_⟩) hS0 ?_
              · intro w hSw
                go_simp
              simp only [Act.put, List.setIfInBounds_toArray, List.set_cons_zero, List.set_cons_succ]
              refine wpAnyH_take (i := 24) (oi := { dst := some 41, op := .move (.tmp 40), type := _, pos := _, after := _, guard := none }) (v := .bool false) rfl (by kernel_rfl) (by kernel_rfl) (by kernel_rfl) (fun _ _ _ h => h) (Or.inl ⟨by rfl, ?_⟩) hS0 ?_
              · intro w hSw
                go_simp
              simp only [Act.put, List.setIfInBounds_toArray, List.set_cons_zero, List.set_cons_succ]
              refine wpAnyH_take (i := 25) (oi := { dst := some 42, op := .move (.tmp 0), type := _, pos := _, after := _, guard := some (24, false) }) (v := .slice (some ⟨g1, o1, none⟩) n cc1) rfl (by kernel_rfl) (by kernel_rfl) (by kernel_rfl) (fun _ _ _ h => h) (Or.inl ⟨by rfl, ?_⟩) hS0 ?_
              · intro w hSw
                go_simp
              simp only [Act.put, List.setIfInBounds_toArray, List.set_cons_zero, List.set_cons_succ]
              refine wpAnyH_take (i := 26) (oi := { dst := some 43, op := .move (.tmp 5), type := _, pos := _, after := _, guard := some (24, false) }) (v := .int .i64 (i : Int)) rfl (by kernel_rfl) (by kernel_rfl) (by kernel_rfl) (fun _ _ _ h => h) (Or.inl ⟨by rfl, ?_⟩) hS0 ?_
              · intro w hSw
                go_simp
              simp only [Act.put, List.setIfInBounds_toArray, List.set_cons_zero, List.set_cons_succ]
              refine wpAnyH_take (i := 27) (oi := { dst := some 44, op := .indexAddr 49 (.tmp 42) (.tmp 43), type := _, pos := _, after := _, guard := some (24, false) }) (v := .pointer (some ⟨g1, o1 + i * 9, none⟩)) rfl (by kernel_rfl) (by kernel_rfl) (by kernel_rfl) (fun _ _ _ h => h) (Or.inl ⟨by rfl, ?_⟩) hS0 ?_
              · intro w hSw
                go_simp
              simp only [Act.put, List.setIfInBounds_toArray, List.set_cons_zero, List.set_cons_succ]
              refine wpAnyH_take (i := 28) (oi := { dst := some 45, op := .fieldAddr 51 (.tmp 44) 2, type := _, pos := _, after := _, guard := some (24, false) }) (v := .pointer (some ⟨g1, o1 + i * 9 + 2, none⟩)) rfl (by kernel_rfl) (by kernel_rfl) (by kernel_rfl) (fun _ _ _ h => h) (Or.inl ⟨by rfl, ?_⟩) hS0 ?_
              · intro w hSw
                go_simp
              simp only [Act.put, List.setIfInBounds_toArray, List.set_cons_zero, List.set_cons_succ]
              refine wpAnyH_take (i := 29) (oi := { dst := some 46, op := .load 43 (.tmp 45), type := _, pos := _, after := _, guard := some (24, false) }) (v := .agg #[.int .u8 (op : Int), .int .u8 (t : Int), .int .u64 (b : Int), .string enm, .slice ea en ec]) rfl (by kernel_rfl) (by kernel_rfl) (by kernel_rfl) (fun _ _ _ h => h) (Or.inl ⟨by rfl, ?_⟩) hS0 ?_
              · intro w hSw
                have z2 := hSw.1.2.2.1
                have z3 := hSw.1.2.2.2.1
                have z4 := hSw.1.2.2.2.2.1
                have z5 := hSw.1.2.2.2.2.2.1
                have z6 := hSw.1.2.2.2.2.2.2.1
                go_simp
              simp only [Act.put, List.setIfInBounds_toArray, List.set_cons_zero, List.set_cons_succ]
              refine wpAnyH_take (i := 30) (oi := { dst := some 47, op := .move (.tmp 1), type := _, pos := _, after := _, guard := some (24, false) }) (v := .slice (some ⟨g2, o2, none⟩) n cc2) rfl (by kernel_rfl) (by kernel_rfl) (by kernel_rfl) (fun _ _ _ h => h) (Or.inl ⟨by rfl, ?_⟩) hS0 ?_
              · intro w hSw
                go_simp
              simp only [Act.put, List.setIfInBounds_toArray, List.set_cons_zero, List.set_cons_succ]
              refine wpAnyH_take (i := 31) (oi := { dst := some 48, op := .move (.tmp 5), type := _, pos := _, after := _, guard := some (24, false) }) (v := .int .i64 (i : Int)) rfl (by kernel_rfl) (by kernel_rfl) (by kernel_rfl) (fun _ _ _ h => h) (Or.inl ⟨by rfl, ?_⟩) hS0 ?_
              · intro w hSw
                go_simp
              simp only [Act.put, List.setIfInBounds_toArray, List.set_cons_zero, List.set_cons_succ]
              refine wpAnyH_take (i := 32) (oi := { dst := some 49, op := .indexAddr 49 (.tmp 47) (.tmp 48), type := _, pos := _, after := _, guard := some (24, false) }) (v := .pointer (some ⟨g2, o2 + i * 9, none⟩)) rfl (by kernel_rfl) (by kernel_rfl) (by kernel_rfl) (fun _ _ _ h => h) (Or.inl ⟨by rfl, ?_⟩) hS0 ?_
              · intro w hSw
                go_simp
              simp only [Act.put, List.setIfInBounds_toArray, List.set_cons_zero, List.set_cons_succ]
              refine wpAnyH_take (i := 33) (oi := { dst := some 50, op := .fieldAddr 51 (.tmp 49) 2, type := _, pos := _, after := _, guard := some (24, false) }) (v := .pointer (some ⟨g2, o2 + i * 9 + 2, none⟩)) rfl (by kernel_rfl) (by kernel_rfl) (by kernel_rfl) (fun _ _ _ h => h) (Or.inl ⟨by rfl, ?_⟩) hS0 ?_
              · intro w hSw
                go_simp
              simp only [Act.put, List.setIfInBounds_toArray, List.set_cons_zero, List.set_cons_succ]
              refine wpAnyH_take (i := 34) (oi := { dst := some 51, op := .load 43 (.tmp 50), type := _, pos := _, after := _, guard := some (24, false) }) (v := .agg #[.int .u8 (op' : Int), .int .u8 (t' : Int), .int .u64 (b' : Int), .string enm', .slice ea' en' ec']) rfl (by kernel_rfl) (by kernel_rfl) (by kernel_rfl) (fun _ _ _ h => h) (Or.inl ⟨by rfl, ?_⟩) hS0 ?_
              · intro w hSw
                have z2 := hSw.2.2.2.1
                have z3 := hSw.2.2.2.2.1
                have z4 := hSw.2.2.2.2.2.1
                have z5 := hSw.2.2.2.2.2.2.1
                have z6 := hSw.2.2.2.2.2.2.2.1
                go_simp
              simp only [Act.put, List.setIfInBounds_toArray, List.set_cons_zero, List.set_cons_succ]
              refine wpAnyH_ready (rs := [35]) (by kernel_rfl) (by simp) ?_
              refine AllReadyH.cons (o := { dst := some 52, op := .call { callee := .value (.func 15), args := #[.tmp 46, .tmp 51], argTypes := #[43, 43] }, type := _, pos := _, after := _, guard := some (24, false) }) rfl (fun K hK => ?_) AllReadyH.nil
              rw [if_pos (by rfl)]
              go_wp2_with (go_at_call 15; refine (Q3.out _ hB0).mono ?_; rintro e x1 ⟨rfl, hb1⟩)
              have hB1 := hB0.trans (hb1.mono hB0.size)
              have hS1 := HK.out x1 hB1
              refine hK.out _ _ hS1 (fun _ => ?_)
              refine wpAnyH_take (i := 36) (oi := { dst := some 53, op := .unOp .not 4 (.tmp 52), type := _, pos := _, after := _, guard := some (24, false) }) (v := .bool true) rfl (by kernel_rfl) (by kernel_rfl) (by kernel_rfl) (fun _ _ _ h => h) (Or.inl ⟨by rfl, ?_⟩) hS1 ?_
              · intro w hSw
                go_simp
              simp only [Act.put, List.setIfInBounds_toArray, List.set_cons_zero, List.set_cons_succ]
              refine wpAnyH_take (i := 37) (oi := { dst := some 54, op := .pick (.tmp 41) (.const (.bool true)) (.tmp 53), type := _, pos := _, after := _, guard := none }) (v := .bool true) rfl (by kernel_rfl) (by kernel_rfl) (by kernel_rfl) (fun _ _ _ h => h) (Or.inl ⟨by rfl, ?_⟩) hS1 ?_
              · intro w hSw
                go_simp
              simp only [Act.put, List.setIfInBounds_toArray, List.set_cons_zero, List.set_cons_succ]
              refine wpAnyH_take (i := 38) (oi := { dst := some 55, op := .move (.tmp 54), type := _, pos := _, after := _, guard := none }) (v := .bool true) rfl (by kernel_rfl) (by kernel_rfl) (by kernel_rfl) (fun _ _ _ h => h) (Or.inl ⟨by rfl, ?_⟩) hS1 ?_
              · intro w hSw
                go_simp
              simp only [Act.put, List.setIfInBounds_toArray, List.set_cons_zero, List.set_cons_succ]
              refine wpAnyH_take (i := 39) (oi := { dst := some 56, op := .move (.tmp 0), type := _, pos := _, after := _, guard := some (38, false) }) (v := undef) rfl (by kernel_rfl) (by kernel_rfl) (by kernel_rfl) (fun _ _ _ h => h) (Or.inr ⟨by rfl, rfl⟩) hS1 ?_
              simp only [Act.put, List.setIfInBounds_toArray, List.set_cons_zero, List.set_cons_succ]
              refine wpAnyH_take (i := 40) (oi := { dst := some 57, op := .move (.tmp 5), type := _, pos := _, after := _, guard := some (38, false) }) (v := undef) rfl (by kernel_rfl) (by kernel_rfl) (by kernel_rfl) (fun _ _ _ h => h) (Or.inr ⟨by rfl, rfl⟩) hS1 ?_
              simp only [Act.put, List.setIfInBounds_toArray, List.set_cons_zero, List.set_cons_succ]
              refine wpAnyH_take (i := 41) (oi := { dst := some 58, op := .indexAddr 49 (.tmp 56) (.tmp 57), type := _, pos := _, after := _, guard := some (38, false) }) (v := undef) rfl (by kernel_rfl) (by kernel_rfl) (by kernel_rfl) (fun _ _ _ h => h) (Or.inr ⟨by rfl, rfl⟩) hS1 ?_
              simp only [Act.put, List.setIfInBounds_toArray, List.set_cons_zero, List.set_cons_succ]
              refine wpAnyH_take (i := 42) (oi := { dst := some 59, op := .fieldAddr 51 (.tmp 58) 3, type := _, pos := _, after := _, guard := some (38, false) }) (v := undef) rfl (by kernel_rfl) (by kernel_rfl) (by kernel_rfl) (fun _ _ _ h => h) (Or.inr ⟨by rfl, rfl⟩) hS1 ?_
              simp only [Act.put, List.setIfInBounds_toArray, List.set_cons_zero, List.set_cons_succ]
              refine wpAnyH_take (i := 43) (oi := { dst := some 60, op := .load 49 (.tmp 59), type := _, pos := _, after := _, guard := some (38, false) }) (v := undef) rfl (by kernel_rfl) (by kernel_rfl) (by kernel_rfl) (fun _ _ _ h => h) (Or.inr ⟨by rfl, rfl⟩) hS1 ?_
              simp only [Act.put, List.setIfInBounds_toArray, List.set_cons_zero, List.set_cons_succ]
              refine wpAnyH_take (i := 44) (oi := { dst := some 61, op := .move (.tmp 1), type := _, pos := _, after := _, guard := some (38, false) }) (v := undef) rfl (by kernel_rfl) (by kernel_rfl) (by kernel_rfl) (fun _ _ _ h => h) (Or.inr ⟨by rfl, rfl⟩) hS1 ?_
              simp only [Act.put, List.setIfInBounds_toArray, List.set_cons_zero, List.set_cons_succ]
              refine wpAnyH_take (i := 45) (oi := { dst := some 62, op := .move (.tmp 5), type := _, pos := _, after := _, guard := some (38, false) }) (v := undef) rfl (by kernel_rfl) (by kernel_rfl) (by kernel_rfl) (fun _ _ _ h => h) (Or.inr ⟨by rfl, rfl⟩) hS1 ?_
              simp only [Act.put, List.setIfInBounds_toArray, List.set_cons_zero, List.set_cons_succ]
              refine wpAnyH_take (i := 46) (oi := { dst := some 63, op := .indexAddr 49 (.tmp 61) (.tmp 62), type := _, pos := _, after := _, guard := some (38, false) }) (v := undef) rfl (by kernel_rfl) (by kernel_rfl) (by kernel_rfl) (fun _ _ _ h => h) (Or.inr ⟨by rfl, rfl⟩) hS1 ?_
              simp only [Act.put, List.setIfInBounds_toArray, List.set_cons_zero, List.set_cons_succ]
              refine wpAnyH_take (i := 47) (oi := { dst := some 64, op := .fieldAddr 51 (.tmp 63) 3, type := _, pos := _, after := _, guard := some (38, false) }) (v := undef) rfl (by kernel_rfl) (by kernel_rfl) (by kernel_rfl) (fun _ _ _ h => h) (Or.inr ⟨by rfl, rfl⟩) hS1 ?_
              simp only [Act.put, List.setIfInBounds_toArray, List.set_cons_zero, List.set_cons_succ]
              refine wpAnyH_take (i := 48) (oi := { dst := some 65, op := .load 49 (.tmp 64), type := _, pos := _, after := _, guard := some (38, false) }) (v := undef) rfl (by kernel_rfl) (by kernel_rfl) (by kernel_rfl) (fun _ _ _ h => h) (Or.inr ⟨by rfl, rfl⟩) hS1 ?_
              simp only [Act.put, List.setIfInBounds_toArray, List.set_cons_zero, List.set_cons_succ]
              refine wpAnyH_take (i := 49) (oi := { dst := some 66, op := .call { callee := .value (.func 33), args := #[.tmp 60, .tmp 65], argTypes := #[49, 49] }, type := _, pos := _, after := _, guard := some (38, false) }) (v := undef) rfl (by kernel_rfl) (by kernel_rfl) (by kernel_rfl) (fun _ _ _ h => h) (Or.inr ⟨by rfl, rfl⟩) hS1 ?_
              simp only [Act.put, List.setIfInBounds_toArray, List.set_cons_zero, List.set_cons_succ]
              refine wpAnyH_take (i := 50) (oi := { dst := some 67, op := .unOp .not 4 (.tmp 66), type := _, pos := _, after := _, guard := some (38, false) }) (v := undef) rfl (by kernel_rfl) (by kernel_rfl) (by kernel_rfl) (fun _ _ _ h => h) (Or.inr ⟨by rfl, rfl⟩) hS1 ?_
              simp only [Act.put, List.setIfInBounds_toArray, List.set_cons_zero, List.set_cons_succ]
              refine wpAnyH_take (i := 51) (oi := { dst := some 68, op := .pick (.tmp 55) (.const (.bool true)) (.tmp 67), type := _, pos := _, after := _, guard := none }) (v := .bool true) rfl (by kernel_rfl) (by kernel_rfl) (by kernel_rfl) (fun _ _ _ h => h) (Or.inl ⟨by rfl, ?_⟩) hS1 ?_
              · intro w hSw
                go_simp
              simp only [Act.put, List.setIfInBounds_toArray, List.set_cons_zero, List.set_cons_succ]
              refine wpAnyH_take (i := 52) (oi := { dst := some 69, op := .move (.tmp 68), type := _, pos := _, after := _, guard := none }) (v := .bool true) rfl (by kernel_rfl) (by kernel_rfl) (by kernel_rfl) (fun _ _ _ h => h) (Or.inl ⟨by rfl, ?_⟩) hS1 ?_
              · intro w hSw
                go_simp
              simp only [Act.put, List.setIfInBounds_toArray, List.set_cons_zero, List.set_cons_succ]
              refine wpAnyH_take (i := 53) (oi := { dst := some 70, op := .move (.tmp 0), type := _, pos := _, after := _, guard := some (52, false) }) (v := undef) rfl (by kernel_rfl) (by kernel_rfl) (by kernel_rfl) (fun _ _ _ h => h) (Or.inr ⟨by rfl, rfl⟩) hS1 ?_
              simp only [Act.put, List.setIfInBounds_toArray, List.set_cons_zero, List.set_cons_succ]
              refine wpAnyH_take (i := 54) (oi := { dst := some 71, op := .move (.tmp 5), type := _, pos := _, after := _, guard := some (52, false) }) (v := undef) rfl (by kernel_rfl) (by kernel_rfl) (by kernel_rfl) (fun _ _ _ h => h) (Or.inr ⟨by rfl, rfl⟩) hS1 ?_
              simp only [Act.put, List.setIfInBounds_toArray, List.set_cons_zero, List.set_cons_succ]
              refine wpAnyH_take (i := 55) (oi := { dst := some 72, op := .indexAddr 49 (.tmp 70) (.tmp 71), type := _, pos := _, after := _, guard := some (52, false) }) (v := undef) rfl (by kernel_rfl) (by kernel_rfl) (by kernel_rfl) (fun _ _ _ h => h) (Or.inr ⟨by rfl, rfl⟩) hS1 ?_
              simp only [Act.put, List.setIfInBounds_toArray, List.set_cons_zero, List.set_cons_succ]
              refine wpAnyH_take (i := 56) (oi := { dst := some 73, op := .fieldAddr 51 (.tmp 72) 4, type := _, pos := _, after := _, guard := some (52, false) }) (v := undef) rfl (by kernel_rfl) (by kernel_rfl) (by kernel_rfl) (fun _ _ _ h => h) (Or.inr ⟨by rfl, rfl⟩) hS1 ?_
              simp only [Act.put, List.setIfInBounds_toArray, List.set_cons_zero, List.set_cons_succ]
              refine wpAnyH_take (i := 57) (oi := { dst := some 74, op := .load 49 (.tmp 73), type := _, pos := _, after := _, guard := some (52, false) }) (v := undef) rfl (by kernel_rfl) (by kernel_rfl) (by kernel_rfl) (fun _ _ _ h => h) (Or.inr ⟨by rfl, rfl⟩) hS1 ?_
              simp only [Act.put, List.setIfInBounds_toArray, List.set_cons_zero, List.set_cons_succ]
              refine wpAnyH_take (i := 58) (oi := { dst := some 75, op := .move (.tmp 1), type := _, pos := _, after := _, guard := some (52, false) }) (v := undef) rfl (by kernel_rfl) (by kernel_rfl) (by kernel_rfl) (fun _ _ _ h => h) (Or.inr ⟨by rfl, rfl⟩) hS1 ?_
              simp only [Act.put, List.setIfInBounds_toArray, List.set_cons_zero, List.set_cons_succ]
              refine wpAnyH_take (i := 59) (oi := { dst := some 76, op := .move (.tmp 5), type := _, pos := _, after := _, guard := some (52, false) }) (v := undef) rfl (by kernel_rfl) (by kernel_rfl) (by kernel_rfl) (fun _ _ _ h => h) (Or.inr ⟨by rfl, rfl⟩) hS1 ?_
              simp only [Act.put, List.setIfInBounds_toArray, List.set_cons_zero, List.set_cons_succ]
              refine wpAnyH_take (i := 60) (oi := { dst := some 77, op := .indexAddr 49 (.tmp 75) (.tmp 76), type := _, pos := _, after := _, guard := some (52, false) }) (v := undef) rfl (by kernel_rfl) (by kernel_rfl) (by kernel_rfl) (fun _ _ _ h => h) (Or.inr ⟨by rfl, rfl⟩) hS1 ?_
              simp only [Act.put, List.setIfInBounds_toArray, List.set_cons_zero, List.set_cons_succ]
              refine wpAnyH_take (i := 61) (oi := { dst := some 78, op := .fieldAddr 51 (.tmp 77) 4, type := _, pos := _, after := _, guard := some (52, false) }) (v := undef) rfl (by kernel_rfl) (by kernel_rfl) (by kernel_rfl) (fun _ _ _ h => h) (Or.inr ⟨by rfl, rfl⟩) hS1 ?_
              simp only [Act.put, List.setIfInBounds_toArray, List.set_cons_zero, List.set_cons_succ]
              refine wpAnyH_take (i := 62) (oi := { dst := some 79, op := .load 49 (.tmp 78), type := _, pos := _, after := _, guard := some (52, false) }) (v := undef) rfl (by kernel_rfl) (by kernel_rfl) (by kernel_rfl) (fun _ _ _ h => h) (Or.inr ⟨by rfl, rfl⟩) hS1 ?_
              simp only [Act.put, List.setIfInBounds_toArray, List.set_cons_zero, List.set_cons_succ]
              refine wpAnyH_take (i := 63) (oi := { dst := some 80, op := .call { callee := .value (.func 33), args := #[.tmp 74, .tmp 79], argTypes := #[49, 49] }, type := _, pos := _, after := _, guard := some (52, false) }) (v := undef) rfl (by kernel_rfl) (by kernel_rfl) (by kernel_rfl) (fun _ _ _ h => h) (Or.inr ⟨by rfl, rfl⟩) hS1 ?_
              simp only [Act.put, List.setIfInBounds_toArray, List.set_cons_zero, List.set_cons_succ]
              refine wpAnyH_take (i := 64) (oi := { dst := some 81, op := .unOp .not 4 (.tmp 80), type := _, pos := _, after := _, guard := some (52, false) }) (v := undef) rfl (by kernel_rfl) (by kernel_rfl) (by kernel_rfl) (fun _ _ _ h => h) (Or.inr ⟨by rfl, rfl⟩) hS1 ?_
              simp only [Act.put, List.setIfInBounds_toArray, List.set_cons_zero, List.set_cons_succ]
              refine wpAnyH_take (i := 65) (oi := { dst := some 82, op := .pick (.tmp 69) (.const (.bool true)) (.tmp 81), type := _, pos := _, after := _, guard := none }) (v := .bool true) rfl (by kernel_rfl) (by kernel_rfl) (by kernel_rfl) (fun _ _ _ h => h) (Or.inl ⟨by rfl, ?_⟩) hS1 ?_
              · intro w hSw
                go_simp
              simp only [Act.put, List.setIfInBounds_toArray, List.set_cons_zero, List.set_cons_succ]
              refine wpAnyH_done (by kernel_rfl) ?_ _
              go_wp2
              go_ret
              exact ⟨by rw [hRf.out (by first | (rw [hZ2.out]; done) | (rw [hZ2.out]; simp))]; rfl, hbw.trans (hB1.mono hbw.size)⟩
            | true =>
              cases p4 with
              | false =>
                go_wp2_with fail
                refine wp_region_held_drew (S := (fun w' => (w'.cell? ⟨g1, o1 + i * 9, none⟩ = some (.int .i64 k) ∧ w'.cell? ⟨g1, o1 + i * 9 + 1, none⟩ = some (.string nm) ∧ w'.cell? ⟨g1, o1 + i * 9 + 2, none⟩ = some (.int .u8 (op : Int)) ∧ w'.cell? ⟨g1, o1 + i * 9 + 3, none⟩ = some (.int .u8 (t : Int)) ∧ w'.cell? ⟨g1, o1 + i * 9 + 4, none⟩ = some (.int .u64 (b : Int)) ∧ w'.cell? ⟨g1, o1 + i * 9 + 5, none⟩ = some (.string enm) ∧ w'.cell? ⟨g1, o1 + i * 9 + 6, none⟩ = some (.slice ea en ec) ∧ w'.cell? ⟨g1, o1 + i * 9 + 7, none⟩ = some (.slice a1 n1 c1) ∧ w'.cell? ⟨g1, o1 + i * 9 + 8, none⟩ = some (.slice a2 n2 c2)) ∧ (w'.cell? ⟨g2, o2 + i * 9, none⟩ = some (.int .i64 k) ∧ w'.cell? ⟨g2, o2 + i * 9 + 1, none⟩ = some (.string nm') ∧ w'.cell? ⟨g2, o2 + i * 9 + 2, none⟩ = some (.int .u8 (op' : Int)) ∧ w'.cell? ⟨g2, o2 + i * 9 + 3, none⟩ = some (.int .u8 (t' : Int)) ∧ w'.cell? ⟨g2, o2 + i * 9 + 4, none⟩ = some (.int .u64 (b' : Int)) ∧ w'.cell? ⟨g2, o2 + i * 9 + 5, none⟩ = some (.string enm') ∧ w'.cell? ⟨g2, o2 + i * 9 + 6, none⟩ = some (.slice ea' en' ec') ∧ w'.cell? ⟨g2, o2 + i * 9 + 7, none⟩ = some (.slice a1' n1' c1') ∧ w'.cell? ⟨g2, o2 + i * 9 + 8, none⟩ = some (.slice a2' n2' c2')))) (by kernel_rfl) hS0 (fun _ => ?_)
                refine wpAnyH_take (i := 0) (oi := { dst := some 17, op := .move (.tmp 0), type := _, pos := _, after := _, guard := none }) (v := .slice (some ⟨g1, o1, none⟩) n cc1) rfl (by kernel_rfl) (by kernel_rfl) (by kernel_rfl) (fun _ _ _ h => h) (Or.inl ⟨by rfl, ?_⟩) hS0 ?_
                · intro w hSw
                  go_simp
                simp only [Act.put, List.setIfInBounds_toArray, List.set_cons_zero, List.set_cons_succ]
                refine wpAnyH_take (i := 1) (oi := { dst := some 18, op := .move (.tmp 5), type := _, pos := _, after := _, guard := none }) (v := .int .i64 (i : Int)) rfl (by kernel_rfl) (by kernel_rfl) (by kernel_rfl) (fun _ _ _ h => h) (Or.inl ⟨by rfl, ?_⟩) hS0 ?_
                · intro w hSw
                  go_simp
                simp only [Act.put, List.setIfInBounds_toArray, List.set_cons_zero, List.set_cons_succ]
                refine wpAnyH_take (i := 2) (oi := { dst := some 19, op := .indexAddr 49 (.tmp 17) (.tmp 18), type := _, pos := _, after := _, guard := none }) (v := .pointer (some ⟨g1, o1 + i * 9, none⟩)) rfl (by kernel_rfl) (by kernel_rfl) (by kernel_rfl) (fun _ _ _ h => h) (Or.inl ⟨by rfl, ?_⟩) hS0 ?_
                · intro w hSw
                  go_simp
                simp only [Act.put, List.setIfInBounds_toArray, List.set_cons_zero, List.set_cons_succ]
                refine wpAnyH_take (i := 3) (oi := { dst := some 20, op := .fieldAddr 51 (.tmp 19) 0, type := _, pos := _, after := _, guard := none }) (v := .pointer (some ⟨g1, o1 + i * 9, none⟩)) rfl (by kernel_rfl) (by kernel_rfl) (by kernel_rfl) (fun _ _ _ h => h) (Or.inl ⟨by rfl, ?_⟩) hS0 ?_
                · intro w hSw
                  go_simp
                simp only [Act.put, List.setIfInBounds_toArray, List.set_cons_zero, List.set_cons_succ]
                refine wpAnyH_take (i := 4) (oi := { dst := some 21, op := .load 3 (.tmp 20), type := _, pos := _, after := _, guard := none }) (v := .int .i64 k) rfl (by kernel_rfl) (by kernel_rfl) (by kernel_rfl) (fun _ _ _ h => h) (Or.inl ⟨by rfl, ?_⟩) hS0 ?_
                · intro w hSw
                  have z := hSw.1.1
                  go_simp
                simp only [Act.put, List.setIfInBounds_toArray, List.set_cons_zero, List.set_cons_succ]
                refine wpAnyH_take (i := 5) (oi := { dst := some 22, op := .move (.tmp 1), type := _, pos := _, after := _, guard := none }) (v := .slice (some ⟨g2, o2, none⟩) n cc2) rfl (by kernel_rfl) (by kernel_rfl) (by kernel_rfl) (fun _ _ _ h => h) (Or.inl ⟨by rfl, ?_⟩) hS0 ?_
                · intro w hSw
                  go_simp
                simp only [Act.put, List.setIfInBounds_toArray, List.set_cons_zero, List.set_cons_succ]
                refine wpAnyH_take (i := 6) (oi := { dst := some 23, op := .move (.tmp 5), type := _, pos := _, after := _, guard := none }) (v := .int .i64 (i : Int)) rfl (by kernel_rfl) (by kernel_rfl) (by kernel_rfl) (fun _ _ _ h => h) (Or.inl ⟨by rfl, ?_⟩) hS0 ?_
                · intro w hSw
                  go_simp
                simp only [Act.put, List.setIfInBounds_toArray, List.set_cons_zero, List.set_cons_succ]
                refine wpAnyH_take (i := 7) (oi := { dst := some 24, op := .indexAddr 49 (.tmp 22) (.tmp 23), type := _, pos := _, after := _, guard := none }) (v := .pointer (some ⟨g2, o2 + i * 9, none⟩)) rfl (by kernel_rfl) (by kernel_rfl) (by kernel_rfl) (fun _ _ _ h => h) (Or.inl ⟨by rfl, ?_⟩) hS0 ?_
                · intro w hSw
                  go_simp
                simp only [Act.put, List.setIfInBounds_toArray, List.set_cons_zero, List.set_cons_succ]
                refine wpAnyH_take (i := 8) (oi := { dst := some 25, op := .fieldAddr 51 (.tmp 24) 0, type := _, pos := _, after := _, guard := none }) (v := .pointer (some ⟨g2, o2 + i * 9, none⟩)) rfl (by kernel_rfl) (by kernel_rfl) (by kernel_rfl) (fun _ _ _ h => h) (Or.inl ⟨by rfl, ?_⟩) hS0 ?_
                · intro w hSw
                  go_simp
                simp only [Act.put, List.setIfInBounds_toArray, List.set_cons_zero, List.set_cons_succ]
                refine wpAnyH_take (i := 9) (oi := { dst := some 26, op := .load 3 (.tmp 25), type := _, pos := _, after := _, guard := none }) (v := .int .i64 k) rfl (by kernel_rfl) (by kernel_rfl) (by kernel_rfl) (fun _ _ _ h => h) (Or.inl ⟨by rfl, ?_⟩) hS0 ?_
                · intro w hSw
                  have z := hSw.2.1
                  go_simp
                simp only [Act.put, List.setIfInBounds_toArray, List.set_cons_zero, List.set_cons_succ]
                refine wpAnyH_take (i := 10) (oi := { dst := some 27, op := .binOp .neq 3 (.tmp 21) (.tmp 26) 3, type := _, pos := _, after := _, guard := none }) (v := .bool false) rfl (by kernel_rfl) (by kernel_rfl) (by kernel_rfl) (fun _ _ _ h => h) (Or.inl ⟨by rfl, ?_⟩) hS0 ?_
                · intro w hSw
                  go_simp
                simp only [Act.put, List.setIfInBounds_toArray, List.set_cons_zero, List.set_cons_succ]
                refine wpAnyH_take (i := 11) (oi := { dst := some 28, op := .move (.tmp 27), type := _, pos := _, after := _, guard := none }) (v := .bool false) rfl (by kernel_rfl) (by kernel_rfl) (by kernel_rfl) (fun _ _ _ h => h) (Or.inl ⟨by rfl, ?_⟩) hS0 ?_
                · intro w hSw
                  go_simp
                simp only [Act.put, List.setIfInBounds_toArray, List.set_cons_zero, List.set_cons_succ]
                refine wpAnyH_take (i := 12) (oi := { dst := some 29, op := .move (.tmp 0), type := _, pos := _, after := _, guard := some (11, false) }) (v := .slice (some ⟨g1, o1, none⟩) n cc1) rfl (by kernel_rfl) (by kernel_rfl) (by kernel_rfl) (fun _ _ _ h => h) (Or.inl ⟨by rfl, ?_⟩) hS0 ?_
                · intro w hSw
                  go_simp
                simp only [Act.put, List.setIfInBounds_toArray, List.set_cons_zero, List.set_cons_succ]
                refine wpAnyH_take (i := 13) (oi := { dst := some 30, op := .move (.tmp 5), type := _, pos := _, after := _, guard := some (11, false) }) (v := .int .i64 (i : Int)) rfl (by kernel_rfl) (by kernel_rfl) (by kernel_rfl) (fun _ _ _ h => h) (Or.inl ⟨by rfl, ?_⟩) hS0 ?_
                · intro w hSw
                  go_simp
                simp only [Act.put, List.setIfInBounds_toArray, List.set_cons_zero, List.set_cons_succ]
                refine wpAnyH_take (i := 14) (oi := { dst := some 31, op := .indexAddr 49 (.tmp 29) (.tmp 30), type := _, pos := _, after := _, guard := some (11, false) }) (v := .pointer (some ⟨g1, o1 + i * 9, none⟩)) rfl (by kernel_rfl) (by kernel_rfl) (by kernel_rfl) (fun _ _ _ h => h) (Or.inl ⟨by rfl, ?_⟩) hS0 ?_
                · intro w hSw
                  go_simp
                simp only [Act.put, List.setIfInBounds_toArray, List.set_cons_zero, List.set_cons_succ]
                refine wpAnyH_take (i := 15) (oi := { dst := some 32, op := .fieldAddr 51 (.tmp 31) 1, type := _, pos := _, after := _, guard := some (11, false) }) (v := .pointer (some ⟨g1, o1 + i * 9 + 1, none⟩)) rfl (by kernel_rfl) (by kernel_rfl) (by kernel_rfl) (fun _ _ _ h => h) (Or.inl ⟨by rfl, ?_⟩) hS0 ?_
                · intro w hSw
                  go_simp
                simp only [Act.put, List.setIfInBounds_toArray, List.set_cons_zero, List.set_cons_succ]
                refine wpAnyH_take (i := 16) (oi := { dst := some 33, op := .load 9 (.tmp 32), type := _, pos := _, after := _, guard := some (11, false) }) (v := .string nm) rfl (by kernel_rfl) (by kernel_rfl) (by kernel_rfl) (fun _ _ _ h => h) (Or.inl ⟨by rfl, ?_⟩) hS0 ?_
                · intro w hSw
                  have z := hSw.1.2.1
                  go_simp
                simp only [Act.put, List.setIfInBounds_toArray, List.set_cons_zero, List.set_cons_succ]
                refine wpAnyH_take (i := 17) (oi := { dst := some 34, op := .move (.tmp 1), type := _, pos := _, after := _, guard := some (11, false) }) (v := .slice (some ⟨g2, o2, none⟩) n cc2) rfl (by kernel_rfl) (by kernel_rfl) (by kernel_rfl) (fun _ _ _ h => h) (Or.inl ⟨by rfl, ?_⟩) hS0 ?_
                · intro w hSw
                  go_simp
                simp only [Act.put, List.setIfInBounds_toArray, List.set_cons_zero, List.set_cons_succ]
                refine wpAnyH_take (i := 18) (oi := { dst := some 35, op := .move (.tmp 5), type := _, pos := _, after := _, guard := some (11, false) }) (v := .int .i64 (i : Int)) rfl (by kernel_rfl) (by kernel_rfl) (by kernel_rfl) (fun _ _ _ h => h) (Or.inl ⟨by rfl, ?_⟩) hS0 ?_
                · intro w hSw
                  go_simp
                simp only [Act.put, List.setIfInBounds_toArray, List.set_cons_zero, List.set_cons_succ]
                refine wpAnyH_take (i := 19) (oi := { dst := some 36, op := .indexAddr 49 (.tmp 34) (.tmp 35), type := _, pos := _, after := _, guard := some (11, false) }) (v := .pointer (some ⟨g2, o2 + i * 9, none⟩)) rfl (by kernel_rfl) (by kernel_rfl) (by kernel_rfl) (fun _ _ _ h => h) (Or.inl ⟨by rfl, ?_⟩) hS0 ?_
                · intro w hSw
                  go_simp
                simp only [Act.put, List.setIfInBounds_toArray, List.set_cons_zero, List.set_cons_succ]
                refine wpAnyH_take (i := 20) (oi := { dst := some 37, op := .fieldAddr 51 (.tmp 36) 1, type := _, pos := _, after := _, guard := some (11, false) }) (v := .pointer (some ⟨g2, o2 + i * 9 + 1, none⟩)) rfl (by kernel_rfl) (by kernel_rfl) (by kernel_rfl) (fun _ _ _ h => h) (Or.inl ⟨by rfl, ?_⟩) hS0 ?_
                · intro w hSw
                  go_simp
                simp only [Act.put, List.setIfInBounds_toArray, List.set_cons_zero, List.set_cons_succ]
                refine wpAnyH_take (i := 21) (oi := { dst := some 38, op := .load 9 (.tmp 37), type := _, pos := _, after := _, guard := some (11, false) }) (v := .string nm') rfl (by kernel_rfl) (by kernel_rfl) (by kernel_rfl) (fun _ _ _ h => h) (Or.inl ⟨by rfl, ?_⟩) hS0 ?_
                · intro w hSw
                  have z := hSw.2.2.1
                  go_simp
                simp only [Act.put, List.setIfInBounds_toArray, List.set_cons_zero, List.set_cons_succ]
                refine wpAnyH_take (i := 22) (oi := { dst := some 39, op := .binOp .neq 9 (.tmp 33) (.tmp 38) 9, type := _, pos := _, after := _, guard := some (11, false) }) (v := .bool false) rfl (by kernel_rfl) (by kernel_rfl) (by kernel_rfl) (fun _ _ _ h => h) (Or.inl ⟨by rfl, ?_⟩) hS0 ?_
                · intro w hSw
                  go_simp
                simp only [Act.put, List.setIfInBounds_toArray, List.set_cons_zero, List.set_cons_succ]
                refine wpAnyH_take (i := 23) (oi := { dst := some 40, op := .pick (.tmp 28) (.const (.bool true)) (.tmp 39), type := _, pos := _, after := _, guard := none }) (v := .bool false) rfl (by kernel_rfl) (by kernel_rfl) (by kernel_rfl) (fun _ _ _ h => h) (Or.inl ⟨by rfl, ?_⟩) hS0 ?_
                · intro w hSw
                  go_simp
                simp only [Act.put, List.setIfInBounds_toArray, List.set_cons_zero, List.set_cons_succ]
                refine wpAnyH_take (i := 24) (oi := { dst := some 41, op := .move (.tmp 40), type := _, pos := _, after := _, guard := none }) (v := .bool false) rfl (by kernel_rfl) (by kernel_rfl) (by kernel_rfl) (fun _ _ _ h => h) (Or.inl ⟨by rfl, ?_⟩) hS0 ?_
                · intro w hSw
                  go_simp
                simp only [Act.put, List.setIfInBounds_toArray, List.set_cons_zero, List.set_cons_succ]
                refine wpAnyH_take (i := 25) (oi := { dst := some 42, op := .move (.tmp 0), type := _, pos := _, after := _, guard := some (24, false) }) (v := .slice (some ⟨g1, o1, none⟩) n cc1) rfl (by kernel_rfl) (by kernel_rfl) (by kernel_rfl) (fun _ _ _ h => h) (Or.inl ⟨by rfl, ?_⟩) hS0 ?_
                · intro w hSw
                  go_simp
                simp only [Act.put, List.setIfInBounds_toArray, List.set_cons_zero, List.set_cons_succ]
                refine wpAnyH_take (i := 26) (oi := { dst := some 43, op := .move (.tmp 5), type := _, pos := _, after := _, guard := some (24, false) }) (v := .int .i64 (i : Int)) rfl (by kernel_rfl) (by kernel_rfl) (by kernel_rfl) (fun _ _ _ h => h) (Or.inl ⟨by rfl, ?_⟩) hS0 ?_
                · intro w hSw
                  go_simp
                simp only [Act.put, List.setIfInBounds_toArray, List.set_cons_zero, List.set_cons_succ]
                refine wpAnyH_take (i := 27) (oi := { dst := some 44, op := .indexAddr 49 (.tmp 42) (.tmp 43), type := _, pos := _, after := _, guard := some (24, false) }) (v := .pointer (some ⟨g1, o1 + i * 9, none⟩)) rfl (by kernel_rfl) (by kernel_rfl) (by kernel_rfl) (fun _ _ _ h => h) (Or.inl ⟨by rfl, ?_⟩) hS0 ?_
                · intro w hSw
                  go_simp
                simp only [Act.put, List.setIfInBounds_toArray, List.set_cons_zero, List.set_cons_succ]
                refine wpAnyH_take (i := 28) (oi := { dst := some 45, op := .fieldAddr 51 (.tmp 44) 2, type := _, pos := _, after := _, guard := some (24, false) }) (v := .pointer (some ⟨g1, o1 + i * 9 + 2, none⟩)) rfl (by kernel_rfl) (by kernel_rfl) (by kernel_rfl) (fun _ _ _ h => h) (Or.inl ⟨by rfl, ?_⟩) hS0 ?_
                · intro w hSw
                  go_simp
                simp only [Act.put, List.setIfInBounds_toArray, List.set_cons_zero, List.set_cons_succ]
                refine wpAnyH_take (i := 29) (oi := { dst := some 46, op := .load 43 (.tmp 45), type := _, pos := _, after := _, guard := some (24, false) }) (v := .agg #[.int .u8 (op : Int), .int .u8 (t : Int), .int .u64 (b : Int), .string enm, .slice ea en ec]) rfl (by kernel_rfl) (by kernel_rfl) (by kernel_rfl) (fun _ _ _ h => h) (Or.inl ⟨by rfl, ?_⟩) hS0 ?_
                · intro w hSw
                  have z2 := hSw.1.2.2.1
                  have z3 := hSw.1.2.2.2.1
                  have z4 := hSw.1.2.2.2.2.1
                  have z5 := hSw.1.2.2.2.2.2.1
                  have z6 := hSw.1.2.2.2.2.2.2.1
                  go_simp
                simp only [Act.put, List.setIfInBounds_toArray, List.set_cons_zero, List.set_cons_succ]
                refine wpAnyH_take (i := 30) (oi := { dst := some 47, op := .move (.tmp 1), type := _, pos := _, after := _, guard := some (24, false) }) (v := .slice (some ⟨g2, o2, none⟩) n cc2) rfl (by kernel_rfl) (by kernel_rfl) (by kernel_rfl) (fun _ _ _ h => h) (Or.inl ⟨by rfl, ?_⟩) hS0 ?_
                · intro w hSw
                  go_simp
                simp only [Act.put, List.setIfInBounds_toArray, List.set_cons_zero, List.set_cons_succ]
                refine wpAnyH_take (i := 31) (oi := { dst := some 48, op := .move (.tmp 5), type := _, pos := _, after := _, guard := some (24, false) }) (v := .int .i64 (i : Int)) rfl (by kernel_rfl) (by kernel_rfl) (by kernel_rfl) (fun _ _ _ h => h) (Or.inl ⟨by rfl, ?_⟩) hS0 ?_
                · intro w hSw
                  go_simp
                simp only [Act.put, List.setIfInBounds_toArray, List.set_cons_zero, List.set_cons_succ]
                refine wpAnyH_take (i := 32) (oi := { dst := some 49, op := .indexAddr 49 (.tmp 47) (.tmp 48), type := _, pos := _, after := _, guard := some (24, false) }) (v := .pointer (some ⟨g2, o2 + i * 9, none⟩)) rfl (by kernel_rfl) (by kernel_rfl) (by kernel_rfl) (fun _ _ _ h => h) (Or.inl ⟨by rfl, ?_⟩) hS0 ?_
                · intro w hSw
                  go_simp
                simp only [Act.put, List.setIfInBounds_toArray, List.set_cons_zero, List.set_cons_succ]
                refine wpAnyH_take (i := 33) (oi := { dst := some 50, op := .fieldAddr 51 (.tmp 49) 2, type := _, pos := _, after := _, guard := some (24, false) }) (v := .pointer (some ⟨g2, o2 + i * 9 + 2, none⟩)) rfl (by kernel_rfl) (by kernel_rfl) (by kernel_rfl) (fun _ _ _ h => h) (Or.inl ⟨by rfl, ?_⟩) hS0 ?_
                · intro w hSw
                  go_simp
                simp only [Act.put, List.setIfInBounds_toArray, List.set_cons_zero, List.set_cons_succ]
                refine wpAnyH_take (i := 34) (oi := { dst := some 51, op := .load 43 (.tmp 50), type := _, pos := _, after := _, guard := some (24, false) }) (v := .agg #[.int .u8 (op' : Int), .int .u8 (t' : Int), .int .u64 (b' : Int), .string enm', .slice ea' en' ec']) rfl (by kernel_rfl) (by kernel_rfl) (by kernel_rfl) (fun _ _ _ h => h) (Or.inl ⟨by rfl, ?_⟩) hS0 ?_
                · intro w hSw
                  have z2 := hSw.2.2.2.1
                  have z3 := hSw.2.2.2.2.1
                  have z4 := hSw.2.2.2.2.2.1
                  have z5 := hSw.2.2.2.2.2.2.1
                  have z6 := hSw.2.2.2.2.2.2.2.1
                  go_simp
                simp only [Act.put, List.setIfInBounds_toArray, List.set_cons_zero, List.set_cons_succ]
                refine wpAnyH_ready (rs := [35]) (by kernel_rfl) (by simp) ?_
                refine AllReadyH.cons (o := { dst := some 52, op := .call { callee := .value (.func 15), args := #[.tmp 46, .tmp 51], argTypes := #[43, 43] }, type := _, pos := _, after := _, guard := some (24, false) }) rfl (fun K hK => ?_) AllReadyH.nil
                rw [if_pos (by rfl)]
                go_wp2_with (go_at_call 15; refine (Q3.out _ hB0).mono ?_; rintro e x1 ⟨rfl, hb1⟩)
                have hB1 := hB0.trans (hb1.mono hB0.size)
                have hS1 := HK.out x1 hB1
                refine hK.out _ _ hS1 (fun _ => ?_)
                refine wpAnyH_take (i := 36) (oi := { dst := some 53, op := .unOp .not 4 (.tmp 52), type := _, pos := _, after := _, guard := some (24, false) }) (v := .bool false) rfl (by kernel_rfl) (by kernel_rfl) (by kernel_rfl) (fun _ _ _ h => h) (Or.inl ⟨by rfl, ?_⟩) hS1 ?_
                · intro w hSw
                  go_simp
                simp only [Act.put, List.setIfInBounds_toArray, List.set_cons_zero, List.set_cons_succ]
                refine wpAnyH_take (i := 37) (oi := { dst := some 54, op := .pick (.tmp 41) (.const (.bool true)) (.tmp 53), type := _, pos := _, after := _, guard := none }) (v := .bool false) rfl (by kernel_rfl) (by kernel_rfl) (by kernel_rfl) (fun _ _ _ h => h) (Or.inl ⟨by rfl, ?_⟩) hS1 ?_
                · intro w hSw
                  go_simp
                simp only [Act.put, List.setIfInBounds_toArray, List.set_cons_zero, List.set_cons_succ]
                refine wpAnyH_take (i := 38) (oi := { dst := some 55, op := .move (.tmp 54), type := _, pos := _, after := _, guard := none }) (v := .bool false) rfl (by kernel_rfl) (by kernel_rfl) (by kernel_rfl) (fun _ _ _ h => h) (Or.inl ⟨by rfl, ?_⟩) hS1 ?_
                · intro w hSw
                  go_simp
                simp only [Act.put, List.setIfInBounds_toArray, List.set_cons_zero, List.set_cons_succ]
                refine wpAnyH_take (i := 39) (oi := { dst := some 56, op := .move (.tmp 0), type := _, pos := _, after := _, guard := some (38, false) }) (v := .slice (some ⟨g1, o1, none⟩) n cc1) rfl (by kernel_rfl) (by kernel_rfl) (by kernel_rfl) (fun _ _ _ h => h) (Or.inl ⟨by rfl, ?_⟩) hS1 ?_
                · intro w hSw
                  go_simp
                simp only [Act.put, List.setIfInBounds_toArray, List.set_cons_zero, List.set_cons_succ]
                refine wpAnyH_take (i := 40) (oi := { dst := some 57, op := .move (.tmp 5), type := _, pos := _, after := _, guard := some (38, false) }) (v := .int .i64 (i : Int)) rfl (by kernel_rfl) (by kernel_rfl) (by kernel_rfl) (fun _ _ _ h => h) (Or.inl ⟨by rfl, ?_⟩) hS1 ?_
                · intro w hSw
                  go_simp
                simp only [Act.put, List.setIfInBounds_toArray, List.set_cons_zero, List.set_cons_succ]
                refine wpAnyH_take (i := 41) (oi := { dst := some 58, op := .indexAddr 49 (.tmp 56) (.tmp 57), type := _, pos := _, after := _, guard := some (38, false) }) (v := .pointer (some ⟨g1, o1 + i * 9, none⟩)) rfl (by kernel_rfl) (by kernel_rfl) (by kernel_rfl) (fun _ _ _ h => h) (Or.inl ⟨by rfl, ?_⟩) hS1 ?_
                · intro w hSw
                  go_simp
                simp only [Act.put, List.setIfInBounds_toArray, List.set_cons_zero, List.set_cons_succ]
                refine wpAnyH_take (i := 42) (oi := { dst := some 59, op := .fieldAddr 51 (.tmp 58) 3, type := _, pos := _, after := _, guard := some (38, false) }) (v := .pointer (some ⟨g1, o1 + i * 9 + 7, none⟩)) rfl (by kernel_rfl) (by kernel_rfl) (by kernel_rfl) (fun _ _ _ h => h) (Or.inl ⟨by rfl, ?_⟩) hS1 ?_
                · intro w hSw
                  go_simp
                simp only [Act.put, List.setIfInBounds_toArray, List.set_cons_zero, List.set_cons_succ]
                refine wpAnyH_take (i := 43) (oi := { dst := some 60, op := .load 49 (.tmp 59), type := _, pos := _, after := _, guard := some (38, false) }) (v := .slice a1 n1 c1) rfl (by kernel_rfl) (by kernel_rfl) (by kernel_rfl) (fun _ _ _ h => h) (Or.inl ⟨by rfl, ?_⟩) hS1 ?_
                · intro w hSw
                  have z := hSw.1.2.2.2.2.2.2.2.1
                  go_simp
                simp only [Act.put, List.setIfInBounds_toArray, List.set_cons_zero, List.set_cons_succ]
                refine wpAnyH_take (i := 44) (oi := { dst := some 61, op := .move (.tmp 1), type := _, pos := _, after := _, guard := some (38, false) }) (v := .slice (some ⟨g2, o2, none⟩) n cc2) rfl (by kernel_rfl) (by kernel_rfl) (by kernel_rfl) (fun _ _ _ h => h) (Or.inl ⟨by rfl, ?_⟩) hS1 ?_
                · intro w hSw
                  go_simp
                simp only [Act.put, List.setIfInBounds_toArray, List.set_cons_zero, List.set_cons_succ]
                refine wpAnyH_take (i := 45) (oi := { dst := some 62, op := .move (.tmp 5), type := _, pos := _, after := _, guard := some (38, false) }) (v := .int .i64 (i : Int)) rfl (by kernel_rfl) (by kernel_rfl) (by kernel_rfl) (fun _ _ _ h => h) (Or.inl ⟨by rfl, ?_⟩) hS1 ?_
                · intro w hSw
                  go_simp
                simp only [Act.put, List.setIfInBounds_toArray, List.set_cons_zero, List.set_cons_succ]
                refine wpAnyH_take (i := 46) (oi := { dst := some 63, op := .indexAddr 49 (.tmp 61) (.tmp 62), type := _, pos := _, after := _, guard := some (38, false) }) (v := .pointer (some ⟨g2, o2 + i * 9, none⟩)) rfl (by kernel_rfl) (by kernel_rfl) (by kernel_rfl) (fun _ _ _ h => h) (Or.inl ⟨by rfl, ?_⟩) hS1 ?_
                · intro w hSw
                  go_simp
                simp only [Act.put, List.setIfInBounds_toArray, List.set_cons_zero, List.set_cons_succ]
                refine wpAnyH_take (i := 47) (oi := { dst := some 64, op := .fieldAddr 51 (.tmp 63) 3, type := _, pos := _, after := _, guard := some (38, false) }) (v := .pointer (some ⟨g2, o2 + i * 9 + 7, none⟩)) rfl (by kernel_rfl) (by kernel_rfl) (by kernel_rfl) (fun _ _ _ h => h) (Or.inl ⟨by rfl, ?_⟩) hS1 ?_
                · intro w hSw
                  go_simp
                simp only [Act.put, List.setIfInBounds_toArray, List.set_cons_zero, List.set_cons_succ]
                refine wpAnyH_take (i := 48) (oi := { dst := some 65, op := .load 49 (.tmp 64), type := _, pos := _, after := _, guard := some (38, false) }) (v := .slice a1' n1' c1') rfl (by kernel_rfl) (by kernel_rfl) (by kernel_rfl) (fun _ _ _ h => h) (Or.inl ⟨by rfl, ?_⟩) hS1 ?_
                · intro w hSw
                  have z := hSw.2.2.2.2.2.2.2.2.1
                  go_simp
                simp only [Act.put, List.setIfInBounds_toArray, List.set_cons_zero, List.set_cons_succ]
                refine wpAnyH_ready (rs := [49]) (by kernel_rfl) (by simp) ?_
                refine AllReadyH.cons (o := { dst := some 66, op := .call { callee := .value (.func 33), args := #[.tmp 60, .tmp 65], argTypes := #[49, 49] }, type := _, pos := _, after := _, guard := some (38, false) }) rfl (fun K hK => ?_) AllReadyH.nil
                rw [if_pos (by rfl)]
                go_wp2_with (go_at_call 33; refine (Q4.out _ hB1).mono ?_; rintro e x2 ⟨rfl, hb2⟩)
                have hB2 := hB1.trans (hb2.mono hB1.size)
                have hS2 := HK.out x2 hB2
                refine hK.out _ _ hS2 (fun _ => ?_)
                refine wpAnyH_take (i := 50) (oi := { dst := some 67, op := .unOp .not 4 (.tmp 66), type := _, pos := _, after := _, guard := some (38, false) }) (v := .bool true) rfl (by kernel_rfl) (by kernel_rfl) (by kernel_rfl) (fun _ _ _ h => h) (Or.inl ⟨by rfl, ?_⟩) hS2 ?_
                · intro w hSw
                  go_simp
                simp only [Act.put, List.setIfInBounds_toArray, List.set_cons_zero, List.set_cons_succ]
                refine wpAnyH_take (i := 51) (oi := { dst := some 68, op := .pick (.tmp 55) (.const (.bool true)) (.tmp 67), type := _, pos := _, after := _, guard := none }) (v := .bool true) rfl (by kernel_rfl) (by kernel_rfl) (by kernel_rfl) (fun _ _ _ h => h) (Or.inl ⟨by rfl, ?_⟩) hS2 ?_
                · intro w hSw
                  go_simp
                simp only [Act.put, List.setIfInBounds_toArray, List.set_cons_zero, List.set_cons_succ]
                refine wpAnyH_take (i := 52) (oi := { dst := some 69, op := .move (.tmp 68), type := _, pos := _, after := _, guard := none }) (v := .bool true) rfl (by kernel_rfl) (by kernel_rfl) (by kernel_rfl) (fun _ _ _ h => h) (Or.inl ⟨by rfl, ?_⟩) hS2 ?_
                · intro w hSw
                  go_simp
                simp only [Act.put, List.setIfInBounds_toArray, List.set_cons_zero, List.set_cons_succ]
                refine wpAnyH_take (i := 53) (oi := { dst := some 70, op := .move (.tmp 0), type := _, pos := _, after := _, guard := some (52, false) }) (v := undef) rfl (by kernel_rfl) (by kernel_rfl) (by kernel_rfl) (fun _ _ _ h => h) (Or.inr ⟨by rfl, rfl⟩) hS2 ?_
                simp only [Act.put, List.setIfInBounds_toArray, List.set_cons_zero, List.set_cons_succ]
                refine wpAnyH_take (i := 54) (oi := { dst := some 71, op := .move (.tmp 5), type := _, pos := _, after := _, guard := some (52, false) }) (v := undef) rfl (by kernel_rfl) (by kernel_rfl) (by kernel_rfl) (fun _ _ _ h => h) (Or.inr ⟨by rfl, rfl⟩) hS2 ?_
                simp only [Act.put, List.setIfInBounds_toArray, List.set_cons_zero, List.set_cons_succ]
                refine wpAnyH_take (i := 55) (oi := { dst := some 72, op := .indexAddr 49 (.tmp 70) (.tmp 71), type := _, pos := _, after := _, guard := some (52, false) }) (v := undef) rfl (by kernel_rfl) (by kernel_rfl) (by kernel_rfl) (fun _ _ _ h => h) (Or.inr ⟨by rfl, rfl⟩) hS2 ?_
                simp only [Act.put, List.setIfInBounds_toArray, List.set_cons_zero, List.set_cons_succ]
                refine wpAnyH_take (i := 56) (oi := { dst := some 73, op := .fieldAddr 51 (.tmp 72) 4, type := _, pos := _, after := _, guard := some (52, false) }) (v := undef) rfl (by kernel_rfl) (by kernel_rfl) (by kernel_rfl) (fun _ _ _ h => h) (Or.inr ⟨by rfl, rfl⟩) hS2 ?_
                simp only [Act.put, List.setIfInBounds_toArray, List.set_cons_zero, List.set_cons_succ]
                refine wpAnyH_take (i := 57) (oi := { dst := some 74, op := .load 49 (.tmp 73), type := _, pos := _, after := _, guard := some (52, false) }) (v := undef) rfl (by kernel_rfl) (by kernel_rfl) (by kernel_rfl) (fun _ _ _ h => h) (Or.inr ⟨by rfl, rfl⟩) hS2 ?_
                simp only [Act.put, List.setIfInBounds_toArray, List.set_cons_zero, List.set_cons_succ]
                refine wpAnyH_take (i := 58) (oi := { dst := some 75, op := .move (.tmp 1), type := _, pos := _, after := _, guard := some (52, false) }) (v := undef) rfl (by kernel_rfl) (by kernel_rfl) (by kernel_rfl) (fun _ _ _ h => h) (Or.inr ⟨by rfl, rfl⟩) hS2 ?_
                simp only [Act.put, List.setIfInBounds_toArray, List.set_cons_zero, List.set_cons_succ]
                refine wpAnyH_take (i := 59) (oi := { dst := some 76, op := .move (.tmp 5), type := _, pos := _, after := _, guard := some (52, false) }) (v := undef) rfl (by kernel_rfl) (by kernel_rfl) (by kernel_rfl) (fun _ _ _ h => h) (Or.inr ⟨by rfl, rfl⟩) hS2 ?_
                simp only [Act.put, List.setIfInBounds_toArray, List.set_cons_zero, List.set_cons_succ]
                refine wpAnyH_take (i := 60) (oi := { dst := some 77, op := .indexAddr 49 (.tmp 75) (.tmp 76), type := _, pos := _, after := _, guard := some (52, false) }) (v := undef) rfl (by kernel_rfl) (by kernel_rfl) (by kernel_rfl) (fun _ _ _ h => h) (Or.inr ⟨by rfl, rfl⟩) hS2 ?_
                simp only [Act.put, List.setIfInBounds_toArray, List.set_cons_zero, List.set_cons_succ]
                refine wpAnyH_take (i := 61) (oi := { dst := some 78, op := .fieldAddr 51 (.tmp 77) 4, type := _, pos := _, after := _, guard := some (52, false) }) (v := undef) rfl (by kernel_rfl) (by kernel_rfl) (by kernel_rfl) (fun _ _ _ h => h) (Or.inr ⟨by rfl, rfl⟩) hS2 ?_
                simp only [Act.put, List.setIfInBounds_toArray, List.set_cons_zero, List.set_cons_succ]
                refine wpAnyH_take (i := 62) (oi := { dst := some 79, op := .load 49 (.tmp 78), type := _, pos := _, after := _, guard := some (52, false) }) (v := undef) rfl (by kernel_rfl) (by kernel_rfl) (by kernel_rfl) (fun _ _ _ h => h) (Or.inr ⟨by rfl, rfl⟩) hS2 ?_
                simp only [Act.put, List.setIfInBounds_toArray, List.set_cons_zero, List.set_cons_succ]
                refine wpAnyH_take (i := 63) (oi := { dst := some 80, op := .call { callee := .value (.func 33), args := #[.tmp 74, .tmp 79], argTypes := #[49, 49] }, type := _, pos := _, after := _, guard := some (52, false) }) (v := undef) rfl (by kernel_rfl) (by kernel_rfl) (by kernel_rfl) (fun _ _ _ h => h) (Or.inr ⟨by rfl, rfl⟩) hS2 ?_
                simp only [Act.put, List.setIfInBounds_toArray, List.set_cons_zero, List.set_cons_succ]
                refine wpAnyH_take (i := 64) (oi := { dst := some 81, op := .unOp .not 4 (.tmp 80), type := _, pos := _, after := _, guard := some (52, false) }) (v := undef) rfl (by kernel_rfl) (by kernel_rfl) (by kernel_rfl) (fun _ _ _ h => h) (Or.inr ⟨by rfl, rfl⟩) hS2 ?_
                simp only [Act.put, List.setIfInBounds_toArray, List.set_cons_zero, List.set_cons_succ]
                refine wpAnyH_take (i := 65) (oi := { dst := some 82, op := .pick (.tmp 69) (.const (.bool true)) (.tmp 81), type := _, pos := _, after := _, guard := none }) (v := .bool true) rfl (by kernel_rfl) (by kernel_rfl) (by kernel_rfl) (fun _ _ _ h => h) (Or.inl ⟨by rfl, ?_⟩) hS2 ?_
                · intro w hSw
                  go_simp
                simp only [Act.put, List.setIfInBounds_toArray, List.set_cons_zero, List.set_cons_succ]
                refine wpAnyH_done (by kernel_rfl) ?_ _
                go_wp2
                go_ret
                exact ⟨by rw [hRf.out (by first | (rw [hZ2.out]; done) | (rw [hZ2.out]; simp))]; rfl, hbw.trans (hB2.mono hbw.size)⟩
              | true =>
                cases p5 with
                | false =>
                  go_wp2_with fail
                  refine wp_region_held_drew (S := (fun w' => (w'.cell? ⟨g1, o1 + i * 9, none⟩ = some (.int .i64 k) ∧ w'.cell? ⟨g1, o1 + i * 9 + 1, none⟩ = some (.string nm) ∧ w'.cell? ⟨g1, o1 + i * 9 + 2, none⟩ = some (.int .u8 (op : Int)) ∧ w'.cell? ⟨g1, o1 + i * 9 + 3, none⟩ = some (.int .u8 (t : Int)) ∧ w'.cell? ⟨g1, o1 + i * 9 + 4, none⟩ = some (.int .u64 (b : Int)) ∧ w'.cell? ⟨g1, o1 + i * 9 + 5, none⟩ = some (.string enm) ∧ w'.cell? ⟨g1, o1 + i * 9 + 6, none⟩ = some (.slice ea en ec) ∧ w'.cell? ⟨g1, o1 + i * 9 + 7, none⟩ = some (.slice a1 n1 c1) ∧ w'.cell? ⟨g1, o1 + i * 9 + 8, none⟩ = some (.slice a2 n2 c2)) ∧ (w'.cell? ⟨g2, o2 + i * 9, none⟩ = some (.int .i64 k) ∧ w'.cell? ⟨g2, o2 + i * 9 + 1, none⟩ = some (.string nm') ∧ w'.cell? ⟨g2, o2 + i * 9 + 2, none⟩ = some (.int .u8 (op' : Int)) ∧ w'.cell? ⟨g2, o2 + i * 9 + 3, none⟩ = some (.int .u8 (t' : Int)) ∧ w'.cell? ⟨g2, o2 + i * 9 + 4, none⟩ = some (.int .u64 (b' : Int)) ∧ w'.cell? ⟨g2, o2 + i * 9 + 5, none⟩ = some (.string enm') ∧ w'.cell? ⟨g2, o2 + i * 9 + 6, none⟩ = some (.slice ea' en' ec') ∧ w'.cell? ⟨g2, o2 + i * 9 + 7, none⟩ = some (.slice a1' n1' c1') ∧ w'.cell? ⟨g2, o2 + i * 9 + 8, none⟩ = some (.slice a2' n2' c2')))) (by kernel_rfl) hS0 (fun _ => ?_)
                  refine wpAnyH_take (i := 0) (oi := { dst := some 17, op := .move (.tmp 0), type := _, pos := _, after := _, guard := none }) (v := .slice (some ⟨g1, o1, none⟩) n cc1) rfl (by kernel_rfl) (by kernel_rfl) (by kernel_rfl) (fun _ _ _ h => h) (Or.inl ⟨by rfl, ?_⟩) hS0 ?_
                  · intro w hSw
                    go_simp
                  simp only [Act.put, List.setIfInBounds_toArray, List.set_cons_zero, List.set_cons_succ]
                  refine wpAnyH_take (i := 1) (oi := { dst := some 18, op := .move (.tmp 5), type := _, pos := _, after := _, guard := none }) (v := .int .i64 (i : Int)) rfl (by kernel_rfl) (by kernel_rfl) (by kernel_rfl) (fun _ _ _ h => h) (Or.inl ⟨by rfl, ?_⟩) hS0 ?_
                  · intro w hSw
                    go_simp
                  simp only [Act.put, List.setIfInBounds_toArray, List.set_cons_zero, List.set_cons_succ]
                  refine wpAnyH_take (i := 2) (oi := { dst := some 19, op := .indexAddr 49 (.tmp 17) (.tmp 18), type := _, pos := _, after := _, guard := none }) (v := .pointer (some ⟨g1, o1 + i * 9, none⟩)) rfl (by kernel_rfl) (by kernel_rfl) (by kernel_rfl) (fun _ _ _ h => h) (Or.inl ⟨by rfl, ?_⟩) hS0 ?_
                  · intro w hSw
                    go_simp
                  simp only [Act.put, List.setIfInBounds_toArray, List.set_cons_zero, List.set_cons_succ]
                  refine wpAnyH_take (i := 3) (oi := { dst := some 20, op := .fieldAddr 51 (.tmp 19) 0, type := _, pos := _, after := _, guard := none }) (v := .pointer (some ⟨g1, o1 + i * 9, none⟩)) rfl (by kernel_rfl) (by kernel_rfl) (by kernel_rfl) (fun _ _ _ h => h) (Or.inl ⟨by rfl, ?_⟩) hS0 ?_
                  · intro w hSw
                    go_simp
                  simp only [Act.put, List.setIfInBounds_toArray, List.set_cons_zero, List.set_cons_succ]
                  refine wpAnyH_take (i := 4) (oi := { dst := some 21, op := .load 3 (.tmp 20), type := _, pos := _, after := _, guard := none }) (v := .int .i64 k) rfl (by kernel_rfl) (by kernel_rfl) (by kernel_rfl) (fun _ _ _ h => h) (Or.inl ⟨by rfl, ?_⟩) hS0 ?_
                  · intro w hSw
                    have z := hSw.1.1
                    go_simp
                  simp only [Act.put, List.setIfInBounds_toArray, List.set_cons_zero, List.set_cons_succ]
                  refine wpAnyH_take (i := 5) (oi := { dst := some 22, op := .move (.tmp 1), type := _, pos := _, after := _, guard := none }) (v := .slice (some ⟨g2, o2, none⟩) n cc2) rfl (by kernel_rfl) (by kernel_rfl) (by kernel_rfl) (fun _ _ _ h => h) (Or.inl ⟨by rfl, ?_⟩) hS0 ?_
                  · intro w hSw
                    go_simp
                  simp only [Act.put, List.setIfInBounds_toArray, List.set_cons_zero, List.set_cons_succ]
                  refine wpAnyH_take (i := 6) (oi := { dst := some 23, op := .move (.tmp 5), type := _, pos := _, after := _, guard := none }) (v := .int .i64 (i : Int)) rfl (by kernel_rfl) (by kernel_rfl) (by kernel_rfl) (fun _ _ _ h => h) (Or.inl ⟨by rfl, ?_⟩) hS0 ?_
                  · intro w hSw
                    go_simp
                  simp only [Act.put, List.setIfInBounds_toArray, List.set_cons_zero, List.set_cons_succ]
                  refine wpAnyH_take (i := 7) (oi := { dst := some 24, op := .indexAddr 49 (.tmp 22) (.tmp 23), type := _, pos := _, after := _, guard := none }) (v := .pointer (some ⟨g2, o2 + i * 9, none⟩)) rfl (by kernel_rfl) (by kernel_rfl) (by kernel_rfl) (fun _ _ _ h => h) (Or.inl ⟨by rfl, ?_⟩) hS0 ?_
                  · intro w hSw
                    go_simp
                  simp only [Act.put, List.setIfInBounds_toArray, List.set_cons_zero, List.set_cons_succ]
                  refine wpAnyH_take (i := 8) (oi := { dst := some 25, op := .fieldAddr 51 (.tmp 24) 0, type := _, pos := _, after := _, guard := none }) (v := .pointer (some ⟨g2, o2 + i * 9, none⟩)) rfl (by kernel_rfl) (by kernel_rfl) (by kernel_rfl) (fun _ _ _ h => h) (Or.inl ⟨by rfl, ?_⟩) hS0 ?_
                  · intro w hSw
                    go_simp
                  simp only [Act.put, List.setIfInBounds_toArray, List.set_cons_zero, List.set_cons_succ]
                  refine wpAnyH_take (i := 9) (oi := { dst := some 26, op := .load 3 (.tmp 25), type := _, pos := _, after := _, guard := none }) (v := .int .i64 k) rfl (by kernel_rfl) (by kernel_rfl) (by kernel_rfl) (fun _ _ _ h => h) (Or.inl ⟨by rfl, ?_⟩) hS0 ?_
                  · intro w hSw
                    have z := hSw.2.1
                    go_simp
                  simp only [Act.put, List.setIfInBounds_toArray, List.set_cons_zero, List.set_cons_succ]
                  refine wpAnyH_take (i := 10) (oi := { dst := some 27, op := .binOp .neq 3 (.tmp 21) (.tmp 26) 3, type := _, pos := _, after := _, guard := none }) (v := .bool false) rfl (by kernel_rfl) (by kernel_rfl) (by kernel_rfl) (fun _ _ _ h => h) (Or.inl ⟨by rfl, ?_⟩) hS0 ?_
                  · intro w hSw
                    go_simp
                  simp only [Act.put, List.setIfInBounds_toArray, List.set_cons_zero, List.set_cons_succ]
                  refine wpAnyH_take (i := 11) (oi := { dst := some 28, op := .move (.tmp 27), type := _, pos := _, after := _, guard := none }) (v := .bool false) rfl (by kernel_rfl) (by kernel_rfl) (by kernel_rfl) (fun _ _ _ h => h) (Or.inl ⟨by rfl, ?_⟩) hS0 ?_
                  · intro w hSw
                    go_simp
                  simp only [Act.put, List.setIfInBounds_toArray, List.set_cons_zero, List.set_cons_succ]
                  refine wpAnyH_take (i := 12) (oi := { dst := some 29, op := .move (.tmp 0), type := _, pos := _, after := _, guard := some (11, false) }) (v := .slice (some ⟨g1, o1, none⟩) n cc1) rfl (by kernel_rfl) (by kernel_rfl) (by kernel_rfl) (fun _ _ _ h => h) (Or.inl ⟨by rfl, ?_⟩) hS0 ?_
                  · intro w hSw
                    go_simp
                  simp only [Act.put, List.setIfInBounds_toArray, List.set_cons_zero, List.set_cons_succ]
                  refine wpAnyH_take (i := 13) (oi := { dst := some 30, op := .move (.tmp 5), type := _, pos := _, after := _, guard := some (11, false) }) (v := .int .i64 (i : Int)) rfl (by kernel_rfl) (by kernel_rfl) (by kernel_rfl) (fun _ _ _ h => h) (Or.inl ⟨by rfl, ?_⟩) hS0 ?_
                  · intro w hSw
                    go_simp
                  simp only [Act.put, List.setIfInBounds_toArray, List.set_cons_zero, List.set_cons_succ]
                  refine wpAnyH_take (i := 14) (oi := { dst := some 31, op := .indexAddr 49 (.tmp 29) (.tmp 30), type := _, pos := _, after := _, guard := some (11, false) }) (v := .pointer (some ⟨g1, o1 + i * 9, none⟩)) rfl (by kernel_rfl) (by kernel_rfl) (by kernel_rfl) (fun _ _ _ h => h) (Or.inl ⟨by rfl, ?_⟩) hS0 ?_
                  · intro w hSw
                    go_simp
                  simp only [Act.put, List.setIfInBounds_toArray, List.set_cons_zero, List.set_cons_succ]
                  refine wpAnyH_take (i := 15) (oi := { dst := some 32, op := .fieldAddr 51 (.tmp 31) 1, type := _, pos := _, after := _, guard := some (11, false) }) (v := .pointer (some ⟨g1, o1 + i * 9 + 1, none⟩)) rfl (by kernel_rfl) (by kernel_rfl) (by kernel_rfl) (fun _ _ _ h => h) (Or.inl ⟨by rfl, ?_⟩) hS0 ?_
                  · intro w hSw
                    go_simp
                  simp only [Act.put, List.setIfInBounds_toArray, List.set_cons_zero, List.set_cons_succ]
                  refine wpAnyH_take (i := 16) (oi := { dst := some 33, op := .load 9 (.tmp 32), type := _, pos := _, after := _, guard := some (11, false) }) (v := .string nm) rfl (by kernel_rfl) (by kernel_rfl) (by kernel_rfl) (fun _ _ _ h => h) (Or.inl ⟨by rfl, ?_⟩) hS0 ?_
                  · intro w hSw
                    have z := hSw.1.2.1
                    go_simp
                  simp only [Act.put, List.setIfInBounds_toArray, List.set_cons_zero, List.set_cons_succ]
                  refine wpAnyH_take (i := 17) (oi := { dst := some 34, op := .move (.tmp 1), type := _, pos := _, after := _, guard := some (11, false) }) (v := .slice (some ⟨g2, o2, none⟩) n cc2) rfl (by kernel_rfl) (by kernel_rfl) (by kernel_rfl) (fun _ _ _ h => h) (Or.inl ⟨by rfl, ?_⟩) hS0 ?_
                  · intro w hSw
                    go_simp
                  simp only [Act.put, List.setIfInBounds_toArray, List.set_cons_zero, List.set_cons_succ]
                  refine wpAnyH_take (i := 18) (oi := { dst := some 35, op := .move (.tmp 5), type := _, pos := _, after := _, guard := some (11, false) }) (v := .int .i64 (i : Int)) rfl (by kernel_rfl) (by kernel_rfl) (by kernel_rfl) (fun _ _ _ h => h) (Or.inl ⟨by rfl, ?_⟩) hS0 ?_
                  · intro w hSw
                    go_simp
                  simp only [Act.put, List.setIfInBounds_toArray, List.set_cons_zero, List.set_cons_succ]
                  refine wpAnyH_take (i := 19) (oi := { dst := some 36, op := .indexAddr 49 (.tmp 34) (.tmp 35), type := _, pos := _, after := _, guard := some (11, false) }) (v := .pointer (some ⟨g2, o2 + i * 9, none⟩)) rfl (by kernel_rfl) (by kernel_rfl) (by kernel_rfl) (fun _ _ _ h => h) (Or.inl ⟨by rfl, ?_⟩) hS0 ?_
                  · intro w hSw
                    go_simp
                  simp only [Act.put, List.setIfInBounds_toArray, List.set_cons_zero, List.set_cons_succ]
                  refine wpAnyH_take (i := 20) (oi := { dst := some 37, op := .fieldAddr 51 (.tmp 36) 1, type := _, pos := _, after := _, guard := some (11, false) }) (v := .pointer (some ⟨g2, o2 + i * 9 + 1, none⟩)) rfl (by kernel_rfl) (by kernel_rfl) (by kernel_rfl) (fun _ _ _ h => h) (Or.inl ⟨by rfl, ?_⟩) hS0 ?_
                  · intro w hSw
                    go_simp
                  simp only [Act.put, List.setIfInBounds_toArray, List.set_cons_zero, List.set_cons_succ]
                  refine wpAnyH_take (i := 21) (oi := { dst := some 38, op := .load 9 (.tmp 37), type := _, pos := _, after := _, guard := some (11, false) }) (v := .string nm') rfl (by kernel_rfl) (by kernel_rfl) (by kernel_rfl) (fun _ _ _ h => h) (Or.inl ⟨by rfl, ?_⟩) hS0 ?_
                  · intro w hSw
                    have z := hSw.2.2.1
                    go_simp
                  simp only [Act.put, List.setIfInBounds_toArray, List.set_cons_zero, List.set_cons_succ]
                  refine wpAnyH_take (i := 22) (oi := { dst := some 39, op := .binOp .neq 9 (.tmp 33) (.tmp 38) 9, type := _, pos := _, after := _, guard := some (11, false) }) (v := .bool false) rfl (by kernel_rfl) (by kernel_rfl) (by kernel_rfl) (fun _ _ _ h => h) (Or.inl ⟨by rfl, ?_⟩) hS0 ?_
                  · intro w hSw
                    go_simp
                  simp only [Act.put, List.setIfInBounds_toArray, List.set_cons_zero, List.set_cons_succ]
                  refine wpAnyH_take (i := 23) (oi := { dst := some 40, op := .pick (.tmp 28) (.const (.bool true)) (.tmp 39), type := _, pos := _, after := _, guard := none }) (v := .bool false) rfl (by kernel_rfl) (by kernel_rfl) (by kernel_rfl) (fun _ _ _ h => h) (Or.inl ⟨by rfl, ?_⟩) hS0 ?_
                  · intro w hSw
                    go_simp
                  simp only [Act.put, List.setIfInBounds_toArray, List.set_cons_zero, List.set_cons_succ]
                  refine wpAnyH_take (i := 24) (oi := { dst := some 41, op := .move (.tmp 40), type := _, pos := _, after := _, guard := none }) (v := .bool false) rfl (by kernel_rfl) (by kernel_rfl) (by kernel_rfl) (fun _ _ _ h => h) (Or.inl ⟨by rfl, ?_⟩) hS0 ?_
                  · intro w hSw
                    go_simp
                  simp only [Act.put, List.setIfInBounds_toArray, List.set_cons_zero, List.set_cons_succ]
                  refine wpAnyH_take (i := 25) (oi := { dst := some 42, op := .move (.tmp 0), type := _, pos := _, after := _, guard := some (24, false) }) (v := .slice (some ⟨g1, o1, none⟩) n cc1) rfl (by kernel_rfl) (by kernel_rfl) (by kernel_rfl) (fun _ _ _ h => h) (Or.inl ⟨by rfl, ?_⟩) hS0 ?_
                  · intro w hSw
                    go_simp
                  simp only [Act.put, List.setIfInBounds_toArray, List.set_cons_zero, List.set_cons_succ]
                  refine wpAnyH_take (i := 26) (oi := { dst := some 43, op := .move (.tmp 5), type := _, pos := _, after := _, guard := some (24, false) }) (v := .int .i64 (i : Int)) rfl (by kernel_rfl) (by kernel_rfl) (by kernel_rfl) (fun _ _ _ h => h) (Or.inl ⟨by rfl, ?_⟩) hS0 ?_
                  · intro w hSw
                    go_simp
                  simp only [Act.put, List.setIfInBounds_toArray, List.set_cons_zero, List.set_cons_succ]
                  refine wpAnyH_take (i := 27) (oi := { dst := some 44, op := .indexAddr 49 (.tmp 42) (.tmp 43), type := _, pos := _, after := _, guard := some (24, false) }) (v := .pointer (some ⟨g1, o1 + i * 9, none⟩)) rfl (by kernel_rfl) (by kernel_rfl) (by kernel_rfl) (fun _ _ _ h => h) (Or.inl ⟨by rfl, ?_⟩) hS0 ?_
                  · intro w hSw
                    go_simp
                  simp only [Act.put, List.setIfInBounds_toArray, List.set_cons_zero, List.set_cons_succ]
                  refine wpAnyH_take (i := 28) (oi := { dst := some 45, op := .fieldAddr 51 (.tmp 44) 2, type := _, pos := _, after := _, guard := some (24, false) }) (v := .pointer (some ⟨g1, o1 + i * 9 + 2, none⟩)) rfl (by kernel_rfl) (by kernel_rfl) (by kernel_rfl) (fun _ _ _ h => h) (Or.inl ⟨by rfl, ?_⟩) hS0 ?_
                  · intro w hSw
                    go_simp
                  simp only [Act.put, List.setIfInBounds_toArray, List.set_cons_zero, List.set_cons_succ]
                  refine wpAnyH_take (i := 29) (oi := { dst := some 46, op := .load 43 (.tmp 45), type := _, pos := _, after := _, guard := some (24, false) }) (v := .agg #[.int .u8 (op : Int), .int .u8 (t : Int), .int .u64 (b : Int), .string enm, .slice ea en ec]) rfl (by kernel_rfl) (by kernel_rfl) (by kernel_rfl) (fun _ _ _ h => h) (Or.inl ⟨by rfl, ?_⟩) hS0 ?_
                  · intro w hSw
                    have z2 := hSw.1.2.2.1
                    have z3 := hSw.1.2.2.2.1
                    have z4 := hSw.1.2.2.2.2.1
                    have z5 := hSw.1.2.2.2.2.2.1
                    have z6 := hSw.1.2.2.2.2.2.2.1
                    go_simp
                  simp only [Act.put, List.setIfInBounds_toArray, List.set_cons_zero, List.set_cons_succ]
                  refine wpAnyH_take (i := 30) (oi := { dst := some 47, op := .move (.tmp 1), type := _, pos := _, after := _, guard := some (24, false) }) (v := .slice (some ⟨g2, o2, none⟩) n cc2) rfl (by kernel_rfl) (by kernel_rfl) (by kernel_rfl) (fun _ _ _ h => h) (Or.inl ⟨by rfl, ?_⟩) hS0 ?_
                  · intro w hSw
                    go_simp
                  simp only [Act.put, List.setIfInBounds_toArray, List.set_cons_zero, List.set_cons_succ]
                  refine wpAnyH_take (i := 31) (oi := { dst := some 48, op := .move (.tmp 5), type := _, pos := _, after := _, guard := some (24, false) }) (v := .int .i64 (i : Int)) rfl (by kernel_rfl) (by kernel_rfl) (by kernel_rfl) (fun _ _ _ h => h) (Or.inl ⟨by rfl, ?_⟩) hS0 ?_
                  · intro w hSw
                    go_simp
                  simp only [Act.put, List.setIfInBounds_toArray, List.set_cons_zero, List.set_cons_succ]
                  refine wpAnyH_take (i := 32) (oi := { dst := some 49, op := .indexAddr 49 (.tmp 47) (.tmp 48), type := _, pos := _, after := _, guard := some (24, false) }) (v := .pointer (some ⟨g2, o2 + i * 9, none⟩)) rfl (by kernel_rfl) (by kernel_rfl) (by kernel_rfl) (fun _ _ _ h => h) (Or.inl ⟨by rfl, ?_⟩) hS0 ?_
                  · intro w hSw
                    go_simp
                  simp only [Act.put, List.setIfInBounds_toArray, List.set_cons_zero, List.set_cons_succ]
                  refine wpAnyH_take (i := 33) (oi := { dst := some 50, op := .fieldAddr 51 (.tmp 49) 2, type := _, pos := _, after := _, guard := some (24, false) }) (v := .pointer (some ⟨g2, o2 + i * 9 + 2, none⟩)) rfl (by kernel_rfl) (by kernel_rfl) (by kernel_rfl) (fun _ _ _ h => h) (Or.inl ⟨by rfl, ?_⟩) hS0 ?_
                  · intro w hSw
                    go_simp
                  simp only [Act.put, List.setIfInBounds_toArray, List.set_cons_zero, List.set_cons_succ]
                  refine wpAnyH_take (i := 34) (oi := { dst := some 51, op := .load 43 (.tmp 50), type := _, pos := _, after := _, guard := some (24, false) }) (v := .agg #[.int .u8 (op' : Int), .int .u8 (t' : Int), .int .u64 (b' : Int), .string enm', .slice ea' en' ec']) rfl (by kernel_rfl) (by kernel_rfl) (by kernel_rfl) (fun _ _ _ h => h) (Or.inl ⟨by rfl, ?_⟩) hS0 ?_
                  · intro w hSw
                    have z2 := hSw.2.2.2.1
                    have z3 := hSw.2.2.2.2.1
                    have z4 := hSw.2.2.2.2.2.1
                    have z5 := hSw.2.2.2.2.2.2.1
                    have z6 := hSw.2.2.2.2.2.2.2.1
                    go_simp
                  simp only [Act.put, List.setIfInBounds_toArray, List.set_cons_zero, List.set_cons_succ]
                  refine wpAnyH_ready (rs := [35]) (by kernel_rfl) (by simp) ?_
                  refine AllReadyH.cons (o := { dst := some 52, op := .call { callee := .value (.func 15), args := #[.tmp 46, .tmp 51], argTypes := #[43, 43] }, type := _, pos := _, after := _, guard := some (24, false) }) rfl (fun K hK => ?_) AllReadyH.nil
                  rw [if_pos (by rfl)]
                  go_wp2_with (go_at_call 15; refine (Q3.out _ hB0).mono ?_; rintro e x1 ⟨rfl, hb1⟩)
                  have hB1 := hB0.trans (hb1.mono hB0.size)
                  have hS1 := HK.out x1 hB1
                  refine hK.out _ _ hS1 (fun _ => ?_)
                  refine wpAnyH_take (i := 36) (oi := { dst := some 53, op := .unOp .not 4 (.tmp 52), type := _, pos := _, after := _, guard := some (24, false) }) (v := .bool false) rfl (by kernel_rfl) (by kernel_rfl) (by kernel_rfl) (fun _ _ _ h => h) (Or.inl ⟨by rfl, ?_⟩) hS1 ?_
                  · intro w hSw
                    go_simp
                  simp only [Act.put, List.setIfInBounds_toArray, List.set_cons_zero, List.set_cons_succ]
                  refine wpAnyH_take (i := 37) (oi := { dst := some 54, op := .pick (.tmp 41) (.const (.bool true)) (.tmp 53), type := _, pos := _, after := _, guard := none }) (v := .bool false) rfl (by kernel_rfl) (by kernel_rfl) (by kernel_rfl) (fun _ _ _ h => h) (Or.inl ⟨by rfl, ?_⟩) hS1 ?_
                  · intro w hSw
                    go_simp
                  simp only [Act.put, List.setIfInBounds_toArray, List.set_cons_zero, List.set_cons_succ]
                  refine wpAnyH_take (i := 38) (oi := { dst := some 55, op := .move (.tmp 54), type := _, pos := _, after := _, guard := none }) (v := .bool false) rfl (by kernel_rfl) (by kernel_rfl) (by kernel_rfl) (fun _ _ _ h => h) (Or.inl ⟨by rfl, ?_⟩) hS1 ?_
                  · intro w hSw
                    go_simp
                  simp only [Act.put, List.setIfInBounds_toArray, List.set_cons_zero, List.set_cons_succ]
                  refine wpAnyH_take (i := 39) (oi := { dst := some 56, op := .move (.tmp 0), type := _, pos := _, after := _, guard := some (38, false) }) (v := .slice (some ⟨g1, o1, none⟩) n cc1) rfl (by kernel_rfl) (by kernel_rfl) (by kernel_rfl) (fun _ _ _ h => h) (Or.inl ⟨by rfl, ?_⟩) hS1 ?_
                  · intro w hSw
                    go_simp
                  simp only [Act.put, List.setIfInBounds_toArray, List.set_cons_zero, List.set_cons_succ]
                  refine wpAnyH_take (i := 40) (oi := { dst := some 57, op := .move (.tmp 5), type := _, pos := _, after := _, guard := some (38, false) }) (v := .int .i64 (i : Int)) rfl (by kernel_rfl) (by kernel_rfl) (by kernel_rfl) (fun _ _ _ h => h) (Or.inl ⟨by rfl, ?_⟩) hS1 ?_
                  · intro w hSw
                    go_simp
                  simp only [Act.put, List.setIfInBounds_toArray, List.set_cons_zero, List.set_cons_succ]
                  refine wpAnyH_take (i := 41) (oi := { dst := some 58, op := .indexAddr 49 (.tmp 56) (.tmp 57), type := _, pos := _, after := _, guard := some (38, false) }) (v := .pointer (some ⟨g1, o1 + i * 9, none⟩)) rfl (by kernel_rfl) (by kernel_rfl) (by kernel_rfl) (fun _ _ _ h => h) (Or.inl ⟨by rfl, ?_⟩) hS1 ?_
                  · intro w hSw
                    go_simp
                  simp only [Act.put, List.setIfInBounds_toArray, List.set_cons_zero, List.set_cons_succ]
                  refine wpAnyH_take (i := 42) (oi := { dst := some 59, op := .fieldAddr 51 (.tmp 58) 3, type := _, pos := _, after := _, guard := some (38, false) }) (v := .pointer (some ⟨g1, o1 + i * 9 + 7, none⟩)) rfl (by kernel_rfl) (by kernel_rfl) (by kernel_rfl) (fun _ _ _ h => h) (Or.inl ⟨by rfl, ?_⟩) hS1 ?_
                  · intro w hSw
                    go_simp
                  simp only [Act.put, List.setIfInBounds_toArray, List.set_cons_zero, List.set_cons_succ]
                  refine wpAnyH_take (i := 43) (oi := { dst := some 60, op := .load 49 (.tmp 59), type := _, pos := _, after := _, guard := some (38, false) }) (v := .slice a1 n1 c1) rfl (by kernel_rfl) (by kernel_rfl) (by kernel_rfl) (fun _ _ _ h => h) (Or.inl ⟨by rfl, ?_⟩) hS1 ?_
                  · intro w hSw
                    have z := hSw.1.2.2.2.2.2.2.2.1
                    go_simp
                  simp only [Act.put, List.setIfInBounds_toArray, List.set_cons_zero, List.set_cons_succ]
                  refine wpAnyH_take (i := 44) (oi := { dst := some 61, op := .move (.tmp 1), type := _, pos := _, after := _, guard := some (38, false) }) (v := .slice (some ⟨g2, o2, none⟩) n cc2) rfl (by kernel_rfl) (by kernel_rfl) (by kernel_rfl) (fun _ _ _ h => h) (Or.inl ⟨by rfl, ?_⟩) hS1 ?_
                  · intro w hSw
                    go_simp
                  simp only [Act.put, List.setIfInBounds_toArray, List.set_cons_zero, List.set_cons_succ]
                  refine wpAnyH_take (i := 45) (oi := { dst := some 62, op := .move (.tmp 5), type := _, pos := _, after := _, guard := some (38, false) }) (v := .int .i64 (i : Int)) rfl (by kernel_rfl) (by kernel_rfl) (by kernel_rfl) (fun _ _ _ h => h) (Or.inl ⟨by rfl, ?_⟩) hS1 ?_
                  · intro w hSw
                    go_simp
                  simp only [Act.put, List.setIfInBounds_toArray, List.set_cons_zero, List.set_cons_succ]
                  refine wpAnyH_take (i := 46) (oi := { dst := some 63, op := .indexAddr 49 (.tmp 61) (.tmp 62), type := _, pos := _, after := _, guard := some (38, false) }) (v := .pointer (some ⟨g2, o2 + i * 9, none⟩)) rfl (by kernel_rfl) (by kernel_rfl) (by kernel_rfl) (fun _ _ _ h => h) (Or.inl ⟨by rfl, ?_⟩) hS1 ?_
                  · intro w hSw
                    go_simp
                  simp only [Act.put, List.setIfInBounds_toArray, List.set_cons_zero, List.set_cons_succ]
                  refine wpAnyH_take (i := 47) (oi := { dst := some 64, op := .fieldAddr 51 (.tmp 63) 3, type := _, pos := _, after := _, guard := some (38, false) }) (v := .pointer (some ⟨g2, o2 + i * 9 + 7, none⟩)) rfl (by kernel_rfl) (by kernel_rfl) (by kernel_rfl) (fun _ _ _ h => h) (Or.inl ⟨by rfl, ?_⟩) hS1 ?_
                  · intro w hSw
                    go_simp
                  simp only [Act.put, List.setIfInBounds_toArray, List.set_cons_zero, List.set_cons_succ]
                  refine wpAnyH_take (i := 48) (oi := { dst := some 65, op := .load 49 (.tmp 64), type := _, pos := _, after := _, guard := some (38, false) }) (v := .slice a1' n1' c1') rfl (by kernel_rfl) (by kernel_rfl) (by kernel_rfl) (fun _ _ _ h => h) (Or.inl ⟨by rfl, ?_⟩) hS1 ?_
                  · intro w hSw
                    have z := hSw.2.2.2.2.2.2.2.2.1
                    go_simp
                  simp only [Act.put, List.setIfInBounds_toArray, List.set_cons_zero, List.set_cons_succ]
                  refine wpAnyH_ready (rs := [49]) (by kernel_rfl) (by simp) ?_
                  refine AllReadyH.cons (o := { dst := some 66, op := .call { callee := .value (.func 33), args := #[.tmp 60, .tmp 65], argTypes := #[49, 49] }, type := _, pos := _, after := _, guard := some (38, false) }) rfl (fun K hK => ?_) AllReadyH.nil
                  rw [if_pos (by rfl)]
                  go_wp2_with (go_at_call 33; refine (Q4.out _ hB1).mono ?_; rintro e x2 ⟨rfl, hb2⟩)
                  have hB2 := hB1.trans (hb2.mono hB1.size)
                  have hS2 := HK.out x2 hB2
                  refine hK.out _ _ hS2 (fun _ => ?_)
                  refine wpAnyH_take (i := 50) (oi := { dst := some 67, op := .unOp .not 4 (.tmp 66), type := _, pos := _, after := _, guard := some (38, false) }) (v := .bool false) rfl (by kernel_rfl) (by kernel_rfl) (by kernel_rfl) (fun _ _ _ h => h) (Or.inl ⟨by rfl, ?_⟩) hS2 ?_
                  · intro w hSw
                    go_simp
                  simp only [Act.put, List.setIfInBounds_toArray, List.set_cons_zero, List.set_cons_succ]
                  refine wpAnyH_take (i := 51) (oi := { dst := some 68, op := .pick (.tmp 55) (.const (.bool true)) (.tmp 67), type := _, pos := _, after := _, guard := none }) (v := .bool false) rfl (by kernel_rfl) (by kernel_rfl) (by kernel_rfl) (fun _ _ _ h => h) (Or.inl ⟨by rfl, ?_⟩) hS2 ?_
                  · intro w hSw
                    go_simp
                  simp only [Act.put, List.setIfInBounds_toArray, List.set_cons_zero, List.set_cons_succ]
                  refine wpAnyH_take (i := 52) (oi := { dst := some 69, op := .move (.tmp 68), type := _, pos := _, after := _, guard := none }) (v := .bool false) rfl (by kernel_rfl) (by kernel_rfl) (by kernel_rfl) (fun _ _ _ h => h) (Or.inl ⟨by rfl, ?_⟩) hS2 ?_
                  · intro w hSw
                    go_simp
                  simp only [Act.put, List.setIfInBounds_toArray, List.set_cons_zero, List.set_cons_succ]
                  refine wpAnyH_take (i := 53) (oi := { dst := some 70, op := .move (.tmp 0), type := _, pos := _, after := _, guard := some (52, false) }) (v := .slice (some ⟨g1, o1, none⟩) n cc1) rfl (by kernel_rfl) (by kernel_rfl) (by kernel_rfl) (fun _ _ _ h => h) (Or.inl ⟨by rfl, ?_⟩) hS2 ?_
                  · intro w hSw
                    go_simp
                  simp only [Act.put, List.setIfInBounds_toArray, List.set_cons_zero, List.set_cons_succ]
                  refine wpAnyH_take (i := 54) (oi := { dst := some 71, op := .move (.tmp 5), type := _, pos := _, after := _, guard := some (52, false) }) (v := .int .i64 (i : Int)) rfl (by kernel_rfl) (by kernel_rfl) (by kernel_rfl) (fun _ _ _ h => h) (Or.inl ⟨by rfl, ?_⟩) hS2 ?_
                  · intro w hSw
                    go_simp
                  simp only [Act.put, List.setIfInBounds_toArray, List.set_cons_zero, List.set_cons_succ]
                  refine wpAnyH_take (i := 55) (oi := { dst := some 72, op := .indexAddr 49 (.tmp 70) (.tmp 71), type := _, pos := _, after := _, guard := some (52, false) }) (v := .pointer (some ⟨g1, o1 + i * 9, none⟩)) rfl (by kernel_rfl) (by kernel_rfl) (by kernel_rfl) (fun _ _ _ h => h) (Or.inl ⟨by rfl, ?_⟩) hS2 ?_
                  · intro w hSw
                    go_simp
                  simp only [Act.put, List.setIfInBounds_toArray, List.set_cons_zero, List.set_cons_succ]
                  refine wpAnyH_take (i := 56) (oi := { dst := some 73, op := .fieldAddr 51 (.tmp 72) 4, type := _, pos := _, after := _, guard := some (52, false) }) (v := .pointer (some ⟨g1, o1 + i * 9 + 8, none⟩)) rfl (by kernel_rfl) (by kernel_rfl) (by kernel_rfl) (fun _ _ _ h => h) (Or.inl ⟨by rfl, ?_⟩) hS2 ?_
                  · intro w hSw
                    go_simp
                  simp only [Act.put, List.setIfInBounds_toArray, List.set_cons_zero, List.set_cons_succ]
                  refine wpAnyH_take (i := 57) (oi := { dst := some 74, op := .load 49 (.tmp 73), type := _, pos := _, after := _, guard := some (52, false) }) (v := .slice a2 n2 c2) rfl (by kernel_rfl) (by kernel_rfl) (by kernel_rfl) (fun _ _ _ h => h) (Or.inl ⟨by rfl, ?_⟩) hS2 ?_
                  · intro w hSw
                    have z := hSw.1.2.2.2.2.2.2.2.2
                    go_simp
                  simp only [Act.put, List.setIfInBounds_toArray, List.set_cons_zero, List.set_cons_succ]
                  refine wpAnyH_take (i := 58) (oi := { dst := some 75, op := .move (.tmp 1), type := _, pos := _, after := _, guard := some (52, false) }) (v := .slice (some ⟨g2, o2, none⟩) n cc2) rfl (by kernel_rfl) (by kernel_rfl) (by kernel_rfl) (fun _ _ _ h => h) (Or.inl ⟨by rfl, ?_⟩) hS2 ?_
                  · intro w hSw
                    go_simp
                  simp only [Act.put, List.setIfInBounds_toArray, List.set_cons_zero, List.set_cons_succ]
                  refine wpAnyH_take (i := 59) (oi := { dst := some 76, op := .move (.tmp 5), type := _, pos := _, after := _, guard := some (52, false) }) (v := .int .i64 (i : Int)) rfl (by kernel_rfl) (by kernel_rfl) (by kernel_rfl) (fun _ _ _ h => h) (Or.inl ⟨by rfl, ?_⟩) hS2 ?_
                  · intro w hSw
                    go_simp
                  simp only [Act.put, List.setIfInBounds_toArray, List.set_cons_zero, List.set_cons_succ]
                  refine wpAnyH_take (i := 60) (oi := { dst := some 77, op := .indexAddr 49 (.tmp 75) (.tmp 76), type := _, pos := _, after := _, guard := some (52, false) }) (v := .pointer (some ⟨g2, o2 + i * 9, none⟩)) rfl (by kernel_rfl) (by kernel_rfl) (by kernel_rfl) (fun _ _ _ h => h) (Or.inl ⟨by rfl, ?_⟩) hS2 ?_
                  · intro w hSw
                    go_simp
                  simp only [Act.put, List.setIfInBounds_toArray, List.set_cons_zero, List.set_cons_succ]
                  refine wpAnyH_take (i := 61) (oi := { dst := some 78, op := .fieldAddr 51 (.tmp 77) 4, type := _, pos := _, after := _, guard := some (52, false) }) (v := .pointer (some ⟨g2, o2 + i * 9 + 8, none⟩)) rfl (by kernel_rfl) (by kernel_rfl) (by kernel_rfl) (fun _ _ _ h => h) (Or.inl ⟨by rfl, ?_⟩) hS2 ?_
                  · intro w hSw
                    go_simp
                  simp only [Act.put, List.setIfInBounds_toArray, List.set_cons_zero, List.set_cons_succ]
                  refine wpAnyH_take (i := 62) (oi := { dst := some 79, op := .load 49 (.tmp 78), type := _, pos := _, after := _, guard := some (52, false) }) (v := .slice a2' n2' c2') rfl (by kernel_rfl) (by kernel_rfl) (by kernel_rfl) (fun _ _ _ h => h) (Or.inl ⟨by rfl, ?_⟩) hS2 ?_
                  · intro w hSw
                    have z := hSw.2.2.2.2.2.2.2.2.2
                    go_simp
                  simp only [Act.put, List.setIfInBounds_toArray, List.set_cons_zero, List.set_cons_succ]
                  refine wpAnyH_ready (rs := [63]) (by kernel_rfl) (by simp) ?_
                  refine AllReadyH.cons (o := { dst := some 80, op := .call { callee := .value (.func 33), args := #[.tmp 74, .tmp 79], argTypes := #[49, 49] }, type := _, pos := _, after := _, guard := some (52, false) }) rfl (fun K hK => ?_) AllReadyH.nil
                  rw [if_pos (by rfl)]
                  go_wp2_with (go_at_call 33; refine (Q5.out _ hB2).mono ?_; rintro e x3 ⟨rfl, hb3⟩)
                  have hB3 := hB2.trans (hb3.mono hB2.size)
                  have hS3 := HK.out x3 hB3
                  refine hK.out _ _ hS3 (fun _ => ?_)
                  refine wpAnyH_take (i := 64) (oi := { dst := some 81, op := .unOp .not 4 (.tmp 80), type := _, pos := _, after := _, guard := some (52, false) }) (v := .bool true) rfl (by kernel_rfl) (by kernel_rfl) (by kernel_rfl) (fun _ _ _ h => h) (Or.inl ⟨by rfl, ?_⟩) hS3 ?_
                  · intro w hSw
                    go_simp
                  simp only [Act.put, List.setIfInBounds_toArray, List.set_cons_zero, List.set_cons_succ]
                  refine wpAnyH_take (i := 65) (oi := { dst := some 82, op := .pick (.tmp 69) (.const (.bool true)) (.tmp 81), type := _, pos := _, after := _, guard := none }) (v := .bool true) rfl (by kernel_rfl) (by kernel_rfl) (by kernel_rfl) (fun _ _ _ h => h) (Or.inl ⟨by rfl, ?_⟩) hS3 ?_
                  · intro w hSw
                    go_simp
                  simp only [Act.put, List.setIfInBounds_toArray, List.set_cons_zero, List.set_cons_succ]
                  refine wpAnyH_done (by kernel_rfl) ?_ _
                  go_wp2
                  go_ret
                  exact ⟨by rw [hRf.out (by first | (rw [hZ2.out]; done) | (rw [hZ2.out]; simp))]; rfl, hbw.trans (hB3.mono hbw.size)⟩
                | true =>
                  go_wp2_with fail
                  refine wp_region_held_drew (S := (fun w' => (w'.cell? ⟨g1, o1 + i * 9, none⟩ = some (.int .i64 k) ∧ w'.cell? ⟨g1, o1 + i * 9 + 1, none⟩ = some (.string nm) ∧ w'.cell? ⟨g1, o1 + i * 9 + 2, none⟩ = some (.int .u8 (op : Int)) ∧ w'.cell? ⟨g1, o1 + i * 9 + 3, none⟩ = some (.int .u8 (t : Int)) ∧ w'.cell? ⟨g1, o1 + i * 9 + 4, none⟩ = some (.int .u64 (b : Int)) ∧ w'.cell? ⟨g1, o1 + i * 9 + 5, none⟩ = some (.string enm) ∧ w'.cell? ⟨g1, o1 + i * 9 + 6, none⟩ = some (.slice ea en ec) ∧ w'.cell? ⟨g1, o1 + i * 9 + 7, none⟩ = some (.slice a1 n1 c1) ∧ w'.cell? ⟨g1, o1 + i * 9 + 8, none⟩ = some (.slice a2 n2 c2)) ∧ (w'.cell? ⟨g2, o2 + i * 9, none⟩ = some (.int .i64 k) ∧ w'.cell? ⟨g2, o2 + i * 9 + 1, none⟩ = some (.string nm') ∧ w'.cell? ⟨g2, o2 + i * 9 + 2, none⟩ = some (.int .u8 (op' : Int)) ∧ w'.cell? ⟨g2, o2 + i * 9 + 3, none⟩ = some (.int .u8 (t' : Int)) ∧ w'.cell? ⟨g2, o2 + i * 9 + 4, none⟩ = some (.int .u64 (b' : Int)) ∧ w'.cell? ⟨g2, o2 + i * 9 + 5, none⟩ = some (.string enm') ∧ w'.cell? ⟨g2, o2 + i * 9 + 6, none⟩ = some (.slice ea' en' ec') ∧ w'.cell? ⟨g2, o2 + i * 9 + 7, none⟩ = some (.slice a1' n1' c1') ∧ w'.cell? ⟨g2, o2 + i * 9 + 8, none⟩ = some (.slice a2' n2' c2')))) (by kernel_rfl) hS0 (fun _ => ?_)
                  refine wpAnyH_take (i := 0) (oi := { dst := some 17, op := .move (.tmp 0), type := _, pos := _, after := _, guard := none }) (v := .slice (some ⟨g1, o1, none⟩) n cc1) rfl (by kernel_rfl) (by kernel_rfl) (by kernel_rfl) (fun _ _ _ h => h) (Or.inl ⟨by rfl, ?_⟩) hS0 ?_
                  · intro w hSw
                    go_simp
                  simp only [Act.put, List.setIfInBounds_toArray, List.set_cons_zero, List.set_cons_succ]
                  refine wpAnyH_take (i := 1) (oi := { dst := some 18, op := .move (.tmp 5), type := _, pos := _, after := _, guard := none }) (v := .int .i64 (i : Int)) rfl (by kernel_rfl) (by kernel_rfl) (by kernel_rfl) (fun _ _ _ h => h) (Or.inl ⟨by rfl, ?_⟩) hS0 ?_
                  · intro w hSw
                    go_simp
                  simp only [Act.put, List.setIfInBounds_toArray, List.set_cons_zero, List.set_cons_succ]
                  refine wpAnyH_take (i := 2) (oi := { dst := some 19, op := .indexAddr 49 (.tmp 17) (.tmp 18), type := _, pos := _, after := _, guard := none }) (v := .pointer (some ⟨g1, o1 + i * 9, none⟩)) rfl (by kernel_rfl) (by kernel_rfl) (by kernel_rfl) (fun _ _ _ h => h) (Or.inl ⟨by rfl, ?_⟩) hS0 ?_
                  · intro w hSw
                    go_simp
                  simp only [Act.put, List.setIfInBounds_toArray, List.set_cons_zero, List.set_cons_succ]
                  refine wpAnyH_take (i := 3) (oi := { dst := some 20, op := .fieldAddr 51 (.tmp 19) 0, type := _, pos := _, after := _, guard := none }) (v := .pointer (some ⟨g1, o1 + i * 9, none⟩)) rfl (by kernel_rfl) (by kernel_rfl) (by kernel_rfl) (fun _ _ _ h => h) (Or.inl ⟨by rfl, ?_⟩) hS0 ?_
                  · intro w hSw
                    go_simp
                  simp only [Act.put, List.setIfInBounds_toArray, List.set_cons_zero, List.set_cons_succ]
                  refine wpAnyH_take (i := 4) (oi := { dst := some 21, op := .load 3 (.tmp 20), type := _, pos := _, after := _, guard := none }) (v := .int .i64 k) rfl (by kernel_rfl) (by kernel_rfl) (by kernel_rfl) (fun _ _ _ h => h) (Or.inl ⟨by rfl, ?_⟩) hS0 ?_
                  · intro w hSw
                    have z := hSw.1.1
                    go_simp
                  simp only [Act.put, List.setIfInBounds_toArray, List.set_cons_zero, List.set_cons_succ]
                  refine wpAnyH_take (i := 5) (oi := { dst := some 22, op := .move (.tmp 1), type := _, pos := _, after := _, guard := none }) (v := .slice (some ⟨g2, o2, none⟩) n cc2) rfl (by kernel_rfl) (by kernel_rfl) (by kernel_rfl) (fun _ _ _ h => h) (Or.inl ⟨by rfl, ?_⟩) hS0 ?_
                  · intro w hSw
                    go_simp
                  simp only [Act.put, List.setIfInBounds_toArray, List.set_cons_zero, List.set_cons_succ]
                  refine wpAnyH_take (i := 6) (oi := { dst := some 23, op := .move (.tmp 5), type := _, pos := _, after := _, guard := none }) (v := .int .i64 (i : Int)) rfl (by kernel_rfl) (by kernel_rfl) (by kernel_rfl) (fun _ _ _ h => h) (Or.inl ⟨by rfl, ?_⟩) hS0 ?_
                  · intro w hSw
                    go_simp
                  simp only [Act.put, List.setIfInBounds_toArray, List.set_cons_zero, List.set_cons_succ]
                  refine wpAnyH_take (i := 7) (oi := { dst := some 24, op := .indexAddr 49 (.tmp 22) (.tmp 23), type := _, pos := _, after := _, guard := none }) (v := .pointer (some ⟨g2, o2 + i * 9, none⟩)) rfl (by kernel_rfl) (by kernel_rfl) (by kernel_rfl) (fun _ _ _ h => h) (Or.inl ⟨by rfl, ?_⟩) hS0 ?_
                  · intro w hSw
                    go_simp
                  simp only [Act.put, List.setIfInBounds_toArray, List.set_cons_zero, List.set_cons_succ]
                  refine wpAnyH_take (i := 8) (oi := { dst := some 25, op := .fieldAddr 51 (.tmp 24) 0, type := _, pos := _, after := _, guard := none }) (v := .pointer (some ⟨g2, o2 + i * 9, none⟩)) rfl (by kernel_rfl) (by kernel_rfl) (by kernel_rfl) (fun _ _ _ h => h) (Or.inl ⟨by rfl, ?_⟩) hS0 ?_
                  · intro w hSw
                    go_simp
                  simp only [Act.put, List.setIfInBounds_toArray, List.set_cons_zero, List.set_cons_succ]
                  refine wpAnyH_take (i := 9) (oi := { dst := some 26, op := .load 3 (.tmp 25), type := _, pos := _, after := _, guard := none }) (v := .int .i64 k) rfl (by kernel_rfl) (by kernel_rfl) (by kernel_rfl) (fun _ _ _ h => h) (Or.inl ⟨by rfl, ?_⟩) hS0 ?_
                  · intro w hSw
                    have z := hSw.2.1
                    go_simp
                  simp only [Act.put, List.setIfInBounds_toArray, List.set_cons_zero, List.set_cons_succ]
                  refine wpAnyH_take (i := 10) (oi := { dst := some 27, op := .binOp .neq 3 (.tmp 21) (.tmp 26) 3, type := _, pos := _, after := _, guard := none }) (v := .bool false) rfl (by kernel_rfl) (by kernel_rfl) (by kernel_rfl) (fun _ _ _ h => h) (Or.inl ⟨by rfl, ?_⟩) hS0 ?_
                  · intro w hSw
                    go_simp
                  simp only [Act.put, List.setIfInBounds_toArray, List.set_cons_zero, List.set_cons_succ]
                  refine wpAnyH_take (i := 11) (oi := { dst := some 28, op := .move (.tmp 27), type := _, pos := _, after := _, guard := none }) (v := .bool false) rfl (by kernel_rfl) (by kernel_rfl) (by kernel_rfl) (fun _ _ _ h => h) (Or.inl ⟨by rfl, ?_⟩) hS0 ?_
                  · intro w hSw
                    go_simp
                  simp only [Act.put, List.setIfInBounds_toArray, List.set_cons_zero, List.set_cons_succ]
                  refine wpAnyH_take (i := 12) (oi := { dst := some 29, op := .move (.tmp 0), type := _, pos := _, after := _, guard := some (11, false) }) (v := .slice (some ⟨g1, o1, none⟩) n cc1) rfl (by kernel_rfl) (by kernel_rfl) (by kernel_rfl) (fun _ _ _ h => h) (Or.inl ⟨by rfl, ?_⟩) hS0 ?_
                  · intro w hSw
                    go_simp
                  simp only [Act.put, List.setIfInBounds_toArray, List.set_cons_zero, List.set_cons_succ]
                  refine wpAnyH_take (i := 13) (oi := { dst := some 30, op := .move (.tmp 5), type := _, pos := _, after := _, guard := some (11, false) }) (v := .int .i64 (i : Int)) rfl (by kernel_rfl) (by kernel_rfl) (by kernel_rfl) (fun _ _ _ h => h) (Or.inl ⟨by rfl, ?_⟩) hS0 ?_
                  · intro w hSw
                    go_simp
                  simp only [Act.put, List.setIfInBounds_toArray, List.set_cons_zero, List.set_cons_succ]
                  refine wpAnyH_take (i := 14) (oi := { dst := some 31, op := .indexAddr 49 (.tmp 29) (.tmp 30), type := _, pos := _, after := _, guard := some (11, false) }) (v := .pointer (some ⟨g1, o1 + i * 9, none⟩)) rfl (by kernel_rfl) (by kernel_rfl) (by kernel_rfl) (fun _ _ _ h => h) (Or.inl ⟨by rfl, ?_⟩) hS0 ?_
                  · intro w hSw
                    go_simp
                  simp only [Act.put, List.setIfInBounds_toArray, List.set_cons_zero, List.set_cons_succ]
                  refine wpAnyH_take (i := 15) (oi := { dst := some 32, op := .fieldAddr 51 (.tmp 31) 1, type := _, pos := _, after := _, guard := some (11, false) }) (v := .pointer (some ⟨g1, o1 + i * 9 + 1, none⟩)) rfl (by kernel_rfl) (by kernel_rfl) (by kernel_rfl) (fun _ _ _ h => h) (Or.inl ⟨by rfl, ?_⟩) hS0 ?_
                  · intro w hSw
                    go_simp
                  simp only [Act.put, List.setIfInBounds_toArray, List.set_cons_zero, List.set_cons_succ]
                  refine wpAnyH_take (i := 16) (oi := { dst := some 33, op := .load 9 (.tmp 32), type := _, pos := _, after := _, guard := some (11, false) }) (v := .string nm) rfl (by kernel_rfl) (by kernel_rfl) (by kernel_rfl) (fun _ _ _ h => h) (Or.inl ⟨by rfl, ?_⟩) hS0 ?_
                  · intro w hSw
                    have z := hSw.1.2.1
                    go_simp
                  simp only [Act.put, List.setIfInBounds_toArray, List.set_cons_zero, List.set_cons_succ]
                  refine wpAnyH_take (i := 17) (oi := { dst := some 34, op := .move (.tmp 1), type := _, pos := _, after := _, guard := some (11, false) }) (v := .slice (some ⟨g2, o2, none⟩) n cc2) rfl (by kernel_rfl) (by kernel_rfl) (by kernel_rfl) (fun _ _ _ h => h) (Or.inl ⟨by rfl, ?_⟩) hS0 ?_
                  · intro w hSw
                    go_simp
                  simp only [Act.put, List.setIfInBounds_toArray, List.set_cons_zero, List.set_cons_succ]
                  refine wpAnyH_take (i := 18) (oi := { dst := some 35, op := .move (.tmp 5), type := _, pos := _, after := _, guard := some (11, false) }) (v := .int .i64 (i : Int)) rfl (by kernel_rfl) (by kernel_rfl) (by kernel_rfl) (fun _ _ _ h => h) (Or.inl ⟨by rfl, ?_⟩) hS0 ?_
                  · intro w hSw
                    go_simp
                  simp only [Act.put, List.setIfInBounds_toArray, List.set_cons_zero, List.set_cons_succ]
                  refine wpAnyH_take (i := 19) (oi := { dst := some 36, op := .indexAddr 49 (.tmp 34) (.tmp 35), type := _, pos := _, after := _, guard := some (11, false) }) (v := .pointer (some ⟨g2, o2 + i * 9, none⟩)) rfl (by kernel_rfl) (by kernel_rfl) (by kernel_rfl) (fun _ _ _ h => h) (Or.inl ⟨by rfl, ?_⟩) hS0 ?_
                  · intro w hSw
                    go_simp
                  simp only [Act.put, List.setIfInBounds_toArray, List.set_cons_zero, List.set_cons_succ]
                  refine wpAnyH_take (i := 20) (oi := { dst := some 37, op := .fieldAddr 51 (.tmp 36) 1, type := _, pos := _, after := _, guard := some (11, false) }) (v := .pointer (some ⟨g2, o2 + i * 9 + 1, none⟩)) rfl (by kernel_rfl) (by kernel_rfl) (by kernel_rfl) (fun _ _ _ h => h) (Or.inl ⟨by rfl, ?_⟩) hS0 ?_
                  · intro w hSw
                    go_simp
                  simp only [Act.put, List.setIfInBounds_toArray, List.set_cons_zero, List.set_cons_succ]
                  refine wpAnyH_take (i := 21) (oi := { dst := some 38, op := .load 9 (.tmp 37), type := _, pos := _, after := _, guard := some (11, false) }) (v := .string nm') rfl (by kernel_rfl) (by kernel_rfl) (by kernel_rfl) (fun _ _ _ h => h) (Or.inl ⟨by rfl, ?_⟩) hS0 ?_
                  · intro w hSw
                    have z := hSw.2.2.1
                    go_simp
                  simp only [Act.put, List.setIfInBounds_toArray, List.set_cons_zero, List.set_cons_succ]
                  refine wpAnyH_take (i := 22) (oi := { dst := some 39, op := .binOp .neq 9 (.tmp 33) (.tmp 38) 9, type := _, pos := _, after := _, guard := some (11, false) }) (v := .bool false) rfl (by kernel_rfl) (by kernel_rfl) (by kernel_rfl) (fun _ _ _ h => h) (Or.inl ⟨by rfl, ?_⟩) hS0 ?_
                  · intro w hSw
                    go_simp
                  simp only [Act.put, List.setIfInBounds_toArray, List.set_cons_zero, List.set_cons_succ]
                  refine wpAnyH_take (i := 23) (oi := { dst := some 40, op := .pick (.tmp 28) (.const (.bool true)) (.tmp 39), type := _, pos := _, after := _, guard := none }) (v := .bool false) rfl (by kernel_rfl) (by kernel_rfl) (by kernel_rfl) (fun _ _ _ h => h) (Or.inl ⟨by rfl, ?_⟩) hS0 ?_
                  · intro w hSw
                    go_simp
                  simp only [Act.put, List.setIfInBounds_toArray, List.set_cons_zero, List.set_cons_succ]
                  refine wpAnyH_take (i := 24) (oi := { dst := some 41, op := .move (.tmp 40), type := _, pos := _, after := _, guard := none }) (v := .bool false) rfl (by kernel_rfl) (by kernel_rfl) (by kernel_rfl) (fun _ _ _ h => h) (Or.inl ⟨by rfl, ?_⟩) hS0 ?_
                  · intro w hSw
                    go_simp
                  simp only [Act.put, List.setIfInBounds_toArray, List.set_cons_zero, List.set_cons_succ]
                  refine wpAnyH_take (i := 25) (oi := { dst := some 42, op := .move (.tmp 0), type := _, pos := _, after := _, guard := some (24, false) }) (v := .slice (some ⟨g1, o1, none⟩) n cc1) rfl (by kernel_rfl) (by kernel_rfl) (by kernel_rfl) (fun _ _ _ h => h) (Or.inl ⟨by rfl, ?_⟩) hS0 ?_
                  · intro w hSw
                    go_simp
                  simp only [Act.put, List.setIfInBounds_toArray, List.set_cons_zero, List.set_cons_succ]
                  refine wpAnyH_take (i := 26) (oi := { dst := some 43, op := .move (.tmp 5), type := _, pos := _, after := _, guard := some (24, false) }) (v := .int .i64 (i : Int)) rfl (by kernel_rfl) (by kernel_rfl) (by kernel_rfl) (fun _ _ _ h => h) (Or.inl ⟨by rfl, ?_⟩) hS0 ?_
                  · intro w hSw
                    go_simp
                  simp only [Act.put, List.setIfInBounds_toArray, List.set_cons_zero, List.set_cons_succ]
                  refine wpAnyH_take (i := 27) (oi := { dst := some 44, op := .indexAddr 49 (.tmp 42) (.tmp 43), type := _, pos := _, after := _, guard := some (24, false) }) (v := .pointer (some ⟨g1, o1 + i * 9, none⟩)) rfl (by kernel_rfl) (by kernel_rfl) (by kernel_rfl) (fun _ _ _ h => h) (Or.inl ⟨by rfl, ?_⟩) hS0 ?_
                  · intro w hSw
                    go_simp
                  simp only [Act.put, List.setIfInBounds_toArray, List.set_cons_zero, List.set_cons_succ]
                  refine wpAnyH_take (i := 28) (oi := { dst := some 45, op := .fieldAddr 51 (.tmp 44) 2, type := _, pos := _, after := _, guard := some (24, false) }) (v := .pointer (some ⟨g1, o1 + i * 9 + 2, none⟩)) rfl (by kernel_rfl) (by kernel_rfl) (by kernel_rfl) (fun _ _ _ h => h) (Or.inl ⟨by rfl, ?_⟩) hS0 ?_
                  · intro w hSw
                    go_simp
                  simp only [Act.put, List.setIfInBounds_toArray, List.set_cons_zero, List.set_cons_succ]
                  refine wpAnyH_take (i := 29) (oi := { dst := some 46, op := .load 43 (.tmp 45), type := _, pos := _, after := _, guard := some (24, false) }) (v := .agg #[.int .u8 (op : Int), .int .u8 (t : Int), .int .u64 (b : Int), .string enm, .slice ea en ec]) rfl (by kernel_rfl) (by kernel_rfl) (by kernel_rfl) (fun _ _ _ h => h) (Or.inl ⟨by rfl, ?_⟩) hS0 ?_
                  · intro w hSw
                    have z2 := hSw.1.2.2.1
                    have z3 := hSw.1.2.2.2.1
                    have z4 := hSw.1.2.2.2.2.1
                    have z5 := hSw.1.2.2.2.2.2.1
                    have z6 := hSw.1.2.2.2.2.2.2.1
                    go_simp
                  simp only [Act.put, List.setIfInBounds_toArray, List.set_cons_zero, List.set_cons_succ]
                  refine wpAnyH_take (i := 30) (oi := { dst := some 47, op := .move (.tmp 1), type := _, pos := _, after := _, guard := some (24, false) }) (v := .slice (some ⟨g2, o2, none⟩) n cc2) rfl (by kernel_rfl) (by kernel_rfl) (by kernel_rfl) (fun _ _ _ h => h) (Or.inl ⟨by rfl, ?_⟩) hS0 ?_
                  · intro w hSw
                    go_simp
                  simp only [Act.put, List.setIfInBounds_toArray, List.set_cons_zero, List.set_cons_succ]
                  refine wpAnyH_take (i := 31) (oi := { dst := some 48, op := .move (.tmp 5), type := _, pos := _, after := _, guard := some (24, false) }) (v := .int .i64 (i : Int)) rfl (by kernel_rfl) (by kernel_rfl) (by kernel_rfl) (fun _ _ _ h => h) (Or.inl ⟨by rfl, ?_⟩) hS0 ?_
                  · intro w hSw
                    go_simp
                  simp only [Act.put, List.setIfInBounds_toArray, List.set_cons_zero, List.set_cons_succ]
                  refine wpAnyH_take (i := 32) (oi := { dst := some 49, op := .indexAddr 49 (.tmp 47) (.tmp 48), type := _, pos := _, after := _, guard := some (24, false) }) (v := .pointer (some ⟨g2, o2 + i * 9, none⟩)) rfl (by kernel_rfl) (by kernel_rfl) (by kernel_rfl) (fun _ _ _ h => h) (Or.inl ⟨by rfl, ?_⟩) hS0 ?_
                  · intro w hSw
                    go_simp
                  simp only [Act.put, List.setIfInBounds_toArray, List.set_cons_zero, List.set_cons_succ]
                  refine wpAnyH_take (i := 33) (oi := { dst := some 50, op := .fieldAddr 51 (.tmp 49) 2, type := _, pos := _, after := _, guard := some (24, false) }) (v := .pointer (some ⟨g2, o2 + i * 9 + 2, none⟩)) rfl (by kernel_rfl) (by kernel_rfl) (by kernel_rfl) (fun _ _ _ h => h) (Or.inl ⟨by rfl, ?_⟩) hS0 ?_
                  · intro w hSw
                    go_simp
                  simp only [Act.put, List.setIfInBounds_toArray, List.set_cons_zero, List.set_cons_succ]
                  refine wpAnyH_take (i := 34) (oi := { dst := some 51, op := .load 43 (.tmp 50), type := _, pos := _, after := _, guard := some (24, false) }) (v := .agg #[.int .u8 (op' : Int), .int .u8 (t' : Int), .int .u64 (b' : Int), .string enm', .slice ea' en' ec']) rfl (by kernel_rfl) (by kernel_rfl) (by kernel_rfl) (fun _ _ _ h => h) (Or.inl ⟨by rfl, ?_⟩) hS0 ?_
                  · intro w hSw
                    have z2 := hSw.2.2.2.1
                    have z3 := hSw.2.2.2.2.1
                    have z4 := hSw.2.2.2.2.2.1
                    have z5 := hSw.2.2.2.2.2.2.1
                    have z6 := hSw.2.2.2.2.2.2.2.1
                    go_simp
                  simp only [Act.put, List.setIfInBounds_toArray, List.set_cons_zero, List.set_cons_succ]
                  refine wpAnyH_ready (rs := [35]) (by kernel_rfl) (by simp) ?_
                  refine AllReadyH.cons (o := { dst := some 52, op := .call { callee := .value (.func 15), args := #[.tmp 46, .tmp 51], argTypes := #[43, 43] }, type := _, pos := _, after := _, guard := some (24, false) }) rfl (fun K hK => ?_) AllReadyH.nil
                  rw [if_pos (by rfl)]
                  go_wp2_with (go_at_call 15; refine (Q3.out _ hB0).mono ?_; rintro e x1 ⟨rfl, hb1⟩)
                  have hB1 := hB0.trans (hb1.mono hB0.size)
                  have hS1 := HK.out x1 hB1
                  refine hK.out _ _ hS1 (fun _ => ?_)
                  refine wpAnyH_take (i := 36) (oi := { dst := some 53, op := .unOp .not 4 (.tmp 52), type := _, pos := _, after := _, guard := some (24, false) }) (v := .bool false) rfl (by kernel_rfl) (by kernel_rfl) (by kernel_rfl) (fun _ _ _ h => h) (Or.inl ⟨by rfl, ?_⟩) hS1 ?_
                  · intro w hSw
                    go_simp
                  simp only [Act.put, List.setIfInBounds_toArray, List.set_cons_zero, List.set_cons_succ]
                  refine wpAnyH_take (i := 37) (oi := { dst := some 54, op := .pick (.tmp 41) (.const (.bool true)) (.tmp 53), type := _, pos := _, after := _, guard := none }) (v := .bool false) rfl (by kernel_rfl) (by kernel_rfl) (by kernel_rfl) (fun _ _ _ h => h) (Or.inl ⟨by rfl, ?_⟩) hS1 ?_
                  · intro w hSw
                    go_simp
                  simp only [Act.put, List.setIfInBounds_toArray, List.set_cons_zero, List.set_cons_succ]
                  refine wpAnyH_take (i := 38) (oi := { dst := some 55, op := .move (.tmp 54), type := _, pos := _, after := _, guard := none }) (v := .bool false) rfl (by kernel_rfl) (by kernel_rfl) (by kernel_rfl) (fun _ _ _ h => h) (Or.inl ⟨by rfl, ?_⟩) hS1 ?_
                  · intro w hSw
                    go_simp
                  simp only [Act.put, List.setIfInBounds_toArray, List.set_cons_zero, List.set_cons_succ]
                  refine wpAnyH_take (i := 39) (oi := { dst := some 56, op := .move (.tmp 0), type := _, pos := _, after := _, guard := some (38, false) }) (v := .slice (some ⟨g1, o1, none⟩) n cc1) rfl (by kernel_rfl) (by kernel_rfl) (by kernel_rfl) (fun _ _ _ h => h) (Or.inl ⟨by rfl, ?_⟩) hS1 ?_
                  · intro w hSw
                    go_simp
                  simp only [Act.put, List.setIfInBounds_toArray, List.set_cons_zero, List.set_cons_succ]
                  refine wpAnyH_take (i := 40) (oi := { dst := some 57, op := .move (.tmp 5), type := _, pos := _, after := _, guard := some (38, false) }) (v := .int .i64 (i : Int)) rfl (by kernel_rfl) (by kernel_rfl) (by kernel_rfl) (fun _ _ _ h => h) (Or.inl ⟨by rfl, ?_⟩) hS1 ?_
                  · intro w hSw
                    go_simp
                  simp only [Act.put, List.setIfInBounds_toArray, List.set_cons_zero, List.set_cons_succ]
                  refine wpAnyH_take (i := 41) (oi := { dst := some 58, op := .indexAddr 49 (.tmp 56) (.tmp 57), type := _, pos := _, after := _, guard := some (38, false) }) (v := .pointer (some ⟨g1, o1 + i * 9, none⟩)) rfl (by kernel_rfl) (by kernel_rfl) (by kernel_rfl) (fun _ _ _ h => h) (Or.inl ⟨by rfl, ?_⟩) hS1 ?_
                  · intro w hSw
                    go_simp
                  simp only [Act.put, List.setIfInBounds_toArray, List.set_cons_zero, List.set_cons_succ]
                  refine wpAnyH_take (i := 42) (oi := { dst := some 59, op := .fieldAddr 51 (.tmp 58) 3, type := _, pos := _, after := _, guard := some (38, false) }) (v := .pointer (some ⟨g1, o1 + i * 9 + 7, none⟩)) rfl (by kernel_rfl) (by kernel_rfl) (by kernel_rfl) (fun _ _ _ h => h) (Or.inl ⟨by rfl, ?_⟩) hS1 ?_
                  · intro w hSw
                    go_simp
                  simp only [Act.put, List.setIfInBounds_toArray, List.set_cons_zero, List.set_cons_succ]
                  refine wpAnyH_take (i := 43) (oi := { dst := some 60, op := .load 49 (.tmp 59), type := _, pos := _, after := _, guard := some (38, false) }) (v := .slice a1 n1 c1) rfl (by kernel_rfl) (by kernel_rfl) (by kernel_rfl) (fun _ _ _ h => h) (Or.inl ⟨by rfl, ?_⟩) hS1 ?_
                  · intro w hSw
                    have z := hSw.1.2.2.2.2.2.2.2.1
                    go_simp
                  simp only [Act.put, List.setIfInBounds_toArray, List.set_cons_zero, List.set_cons_succ]
                  refine wpAnyH_take (i := 44) (oi := { dst := some 61, op := .move (.tmp 1), type := _, pos := _, after := _, guard := some (38, false) }) (v := .slice (some ⟨g2, o2, none⟩) n cc2) rfl (by kernel_rfl) (by kernel_rfl) (by kernel_rfl) (fun _ _ _ h => h) (Or.inl ⟨by rfl, ?_⟩) hS1 ?_
                  · intro w hSw
                    go_simp
                  simp only [Act.put, List.setIfInBounds_toArray, List.set_cons_zero, List.set_cons_succ]
                  refine wpAnyH_take (i := 45) (oi := { dst := some 62, op := .move (.tmp 5), type := _, pos := _, after := _, guard := some (38, false) }) (v := .int .i64 (i : Int)) rfl (by kernel_rfl) (by kernel_rfl) (by kernel_rfl) (fun _ _ _ h => h) (Or.inl ⟨by rfl, ?_⟩) hS1 ?_
                  · intro w hSw
                    go_simp
                  simp only [Act.put, List.setIfInBounds_toArray, List.set_cons_zero, List.set_cons_succ]
                  refine wpAnyH_take (i := 46) (oi := { dst := some 63, op := .indexAddr 49 (.tmp 61) (.tmp 62), type := _, pos := _, after := _, guard := some (38, false) }) (v := .pointer (some ⟨g2, o2 + i * 9, none⟩)) rfl (by kernel_rfl) (by kernel_rfl) (by kernel_rfl) (fun _ _ _ h => h) (Or.inl ⟨by rfl, ?_⟩) hS1 ?_
                  · intro w hSw
                    go_simp
                  simp only [Act.put, List.setIfInBounds_toArray, List.set_cons_zero, List.set_cons_succ]
                  refine wpAnyH_take (i := 47) (oi := { dst := some 64, op := .fieldAddr 51 (.tmp 63) 3, type := _, pos := _, after := _, guard := some (38, false) }) (v := .pointer (some ⟨g2, o2 + i * 9 + 7, none⟩)) rfl (by kernel_rfl) (by kernel_rfl) (by kernel_rfl) (fun _ _ _ h => h) (Or.inl ⟨by rfl, ?_⟩) hS1 ?_
                  · intro w hSw
                    go_simp
                  simp only [Act.put, List.setIfInBounds_toArray, List.set_cons_zero, List.set_cons_succ]
                  refine wpAnyH_take (i := 48) (oi := { dst := some 65, op := .load 49 (.tmp 64), type := _, pos := _, after := _, guard := some (38, false) }) (v := .slice a1' n1' c1') rfl (by kernel_rfl) (by kernel_rfl) (by kernel_rfl) (fun _ _ _ h => h) (Or.inl ⟨by rfl, ?_⟩) hS1 ?_
                  · intro w hSw
                    have z := hSw.2.2.2.2.2.2.2.2.1
                    go_simp
                  simp only [Act.put, List.setIfInBounds_toArray, List.set_cons_zero, List.set_cons_succ]
                  refine wpAnyH_ready (rs := [49]) (by kernel_rfl) (by simp) ?_
                  refine AllReadyH.cons (o := { dst := some 66, op := .call { callee := .value (.func 33), args := #[.tmp 60, .tmp 65], argTypes := #[49, 49] }, type := _, pos := _, after := _, guard := some (38, false) }) rfl (fun K hK => ?_) AllReadyH.nil
                  rw [if_pos (by rfl)]
                  go_wp2_with (go_at_call 33; refine (Q4.out _ hB1).mono ?_; rintro e x2 ⟨rfl, hb2⟩)
                  have hB2 := hB1.trans (hb2.mono hB1.size)
                  have hS2 := HK.out x2 hB2
                  refine hK.out _ _ hS2 (fun _ => ?_)
                  refine wpAnyH_take (i := 50) (oi := { dst := some 67, op := .unOp .not 4 (.tmp 66), type := _, pos := _, after := _, guard := some (38, false) }) (v := .bool false) rfl (by kernel_rfl) (by kernel_rfl) (by kernel_rfl) (fun _ _ _ h => h) (Or.inl ⟨by rfl, ?_⟩) hS2 ?_
                  · intro w hSw
                    go_simp
                  simp only [Act.put, List.setIfInBounds_toArray, List.set_cons_zero, List.set_cons_succ]
                  refine wpAnyH_take (i := 51) (oi := { dst := some 68, op := .pick (.tmp 55) (.const (.bool true)) (.tmp 67), type := _, pos := _, after := _, guard := none }) (v := .bool false) rfl (by kernel_rfl) (by kernel_rfl) (by kernel_rfl) (fun _ _ _ h => h) (Or.inl ⟨by rfl, ?_⟩) hS2 ?_
                  · intro w hSw
                    go_simp
                  simp only [Act.put, List.setIfInBounds_toArray, List.set_cons_zero, List.set_cons_succ]
                  refine wpAnyH_take (i := 52) (oi := { dst := some 69, op := .move (.tmp 68), type := _, pos := _, after := _, guard := none }) (v := .bool false) rfl (by kernel_rfl) (by kernel_rfl) (by kernel_rfl) (fun _ _ _ h => h) (Or.inl ⟨by rfl, ?_⟩) hS2 ?_
                  · intro w hSw
                    go_simp
                  simp only [Act.put, List.setIfInBounds_toArray, List.set_cons_zero, List.set_cons_succ]
                  refine wpAnyH_take (i := 53) (oi := { dst := some 70, op := .move (.tmp 0), type := _, pos := _, after := _, guard := some (52, false) }) (v := .slice (some ⟨g1, o1, none⟩) n cc1) rfl (by kernel_rfl) (by kernel_rfl) (by kernel_rfl) (fun _ _ _ h => h) (Or.inl ⟨by rfl, ?_⟩) hS2 ?_
                  · intro w hSw
                    go_simp
                  simp only [Act.put, List.setIfInBounds_toArray, List.set_cons_zero, List.set_cons_succ]
                  refine wpAnyH_take (i := 54) (oi := { dst := some 71, op := .move (.tmp 5), type := _, pos := _, after := _, guard := some (52, false) }) (v := .int .i64 (i : Int)) rfl (by kernel_rfl) (by kernel_rfl) (by kernel_rfl) (fun _ _ _ h => h) (Or.inl ⟨by rfl, ?_⟩) hS2 ?_
                  · intro w hSw
                    go_simp
                  simp only [Act.put, List.setIfInBounds_toArray, List.set_cons_zero, List.set_cons_succ]
                  refine wpAnyH_take (i := 55) (oi := { dst := some 72, op := .indexAddr 49 (.tmp 70) (.tmp 71), type := _, pos := _, after := _, guard := some (52, false) }) (v := .pointer (some ⟨g1, o1 + i * 9, none⟩)) rfl (by kernel_rfl) (by kernel_rfl) (by kernel_rfl) (fun _ _ _ h => h) (Or.inl ⟨by rfl, ?_⟩) hS2 ?_
                  · intro w hSw
                    go_simp
                  simp only [Act.put, List.setIfInBounds_toArray, List.set_cons_zero, List.set_cons_succ]
                  refine wpAnyH_take (i := 56) (oi := { dst := some 73, op := .fieldAddr 51 (.tmp 72) 4, type := _, pos := _, after := _, guard := some (52, false) }) (v := .pointer (some ⟨g1, o1 + i * 9 + 8, none⟩)) rfl (by kernel_rfl) (by kernel_rfl) (by kernel_rfl) (fun _ _ _ h => h) (Or.inl ⟨by rfl, ?_⟩) hS2 ?_
                  · intro w hSw
                    go_simp
                  simp only [Act.put, List.setIfInBounds_toArray, List.set_cons_zero, List.set_cons_succ]
                  refine wpAnyH_take (i := 57) (oi := { dst := some 74, op := .load 49 (.tmp 73), type := _, pos := _, after := _, guard := some (52, false) }) (v := .slice a2 n2 c2) rfl (by kernel_rfl) (by kernel_rfl) (by kernel_rfl) (fun _ _ _ h => h) (Or.inl ⟨by rfl, ?_⟩) hS2 ?_
                  · intro w hSw
                    have z := hSw.1.2.2.2.2.2.2.2.2
                    go_simp
                  simp only [Act.put, List.setIfInBounds_toArray, List.set_cons_zero, List.set_cons_succ]
                  refine wpAnyH_take (i := 58) (oi := { dst := some 75, op := .move (.tmp 1), type := _, pos := _, after := _, guard := some (52, false) }) (v := .slice (some ⟨g2, o2, none⟩) n cc2) rfl (by kernel_rfl) (by kernel_rfl) (by kernel_rfl) (fun _ _ _ h => h) (Or.inl ⟨by rfl, ?_⟩) hS2 ?_
                  · intro w hSw
                    go_simp
                  simp only [Act.put, List.setIfInBounds_toArray, List.set_cons_zero, List.set_cons_succ]
                  refine wpAnyH_take (i := 59) (oi := { dst := some 76, op := .move (.tmp 5), type := _, pos := _, after := _, guard := some (52, false) }) (v := .int .i64 (i : Int)) rfl (by kernel_rfl) (by kernel_rfl) (by kernel_rfl) (fun _ _ _ h => h) (Or.inl ⟨by rfl, ?_⟩) hS2 ?_
                  · intro w hSw
                    go_simp
                  simp only [Act.put, List.setIfInBounds_toArray, List.set_cons_zero, List.set_cons_succ]
                  refine wpAnyH_take (i := 60) (oi := { dst := some 77, op := .indexAddr 49 (.tmp 75) (.tmp 76), type := _, pos := _, after := _, guard := some (52, false) }) (v := .pointer (some ⟨g2, o2 + i * 9, none⟩)) rfl (by kernel_rfl) (by kernel_rfl) (by kernel_rfl) (fun _ _ _ h => h) (Or.inl ⟨by rfl, ?_⟩) hS2 ?_
                  · intro w hSw
                    go_simp
                  simp only [Act.put, List.setIfInBounds_toArray, List.set_cons_zero, List.set_cons_succ]
                  refine wpAnyH_take (i := 61) (oi := { dst := some 78, op := .fieldAddr 51 (.tmp 77) 4, type := _, pos := _, after := _, guard := some (52, false) }) (v := .pointer (some ⟨g2, o2 + i * 9 + 8, none⟩)) rfl (by kernel_rfl) (by kernel_rfl) (by kernel_rfl) (fun _ _ _ h => h) (Or.inl ⟨by rfl, ?_⟩) hS2 ?_
                  · intro w hSw
                    go_simp
                  simp only [Act.put, List.setIfInBounds_toArray, List.set_cons_zero, List.set_cons_succ]
                  refine wpAnyH_take (i := 62) (oi := { dst := some 79, op := .load 49 (.tmp 78), type := _, pos := _, after := _, guard := some (52, false) }) (v := .slice a2' n2' c2') rfl (by kernel_rfl) (by kernel_rfl) (by kernel_rfl) (fun _ _ _ h => h) (Or.inl ⟨by rfl, ?_⟩) hS2 ?_
                  · intro w hSw
                    have z := hSw.2.2.2.2.2.2.2.2.2
                    go_simp
                  simp only [Act.put, List.setIfInBounds_toArray, List.set_cons_zero, List.set_cons_succ]
                  refine wpAnyH_ready (rs := [63]) (by kernel_rfl) (by simp) ?_
                  refine AllReadyH.cons (o := { dst := some 80, op := .call { callee := .value (.func 33), args := #[.tmp 74, .tmp 79], argTypes := #[49, 49] }, type := _, pos := _, after := _, guard := some (52, false) }) rfl (fun K hK => ?_) AllReadyH.nil
                  rw [if_pos (by rfl)]
                  go_wp2_with (go_at_call 33; refine (Q5.out _ hB2).mono ?_; rintro e x3 ⟨rfl, hb3⟩)
                  have hB3 := hB2.trans (hb3.mono hB2.size)
                  have hS3 := HK.out x3 hB3
                  refine hK.out _ _ hS3 (fun _ => ?_)
                  refine wpAnyH_take (i := 64) (oi := { dst := some 81, op := .unOp .not 4 (.tmp 80), type := _, pos := _, after := _, guard := some (52, false) }) (v := .bool false) rfl (by kernel_rfl) (by kernel_rfl) (by kernel_rfl) (fun _ _ _ h => h) (Or.inl ⟨by rfl, ?_⟩) hS3 ?_
                  · intro w hSw
                    go_simp
                  simp only [Act.put, List.setIfInBounds_toArray, List.set_cons_zero, List.set_cons_succ]
                  refine wpAnyH_take (i := 65) (oi := { dst := some 82, op := .pick (.tmp 69) (.const (.bool true)) (.tmp 81), type := _, pos := _, after := _, guard := none }) (v := .bool false) rfl (by kernel_rfl) (by kernel_rfl) (by kernel_rfl) (fun _ _ _ h => h) (Or.inl ⟨by rfl, ?_⟩) hS3 ?_
                  · intro w hSw
                    go_simp
                  simp only [Act.put, List.setIfInBounds_toArray, List.set_cons_zero, List.set_cons_succ]
                  refine wpAnyH_done (by kernel_rfl) ?_ _
                  have hw5 : Below w.heap.size w x3 := hbw.trans (hB3.mono hbw.size)
                  go_wp2
                  go_roundw
                  case rel =>
                    refine ⟨i + 1, by go_num, by omega, hw5, fun q u v hq hu hv => ?_⟩
                    by_cases hqi : q = i
                    · subst hqi
                      rw [HX.out.1] at hu
                      rw [HX.out.2] at hv
                      cases hu
                      cases hv
                      have := hZS.out
                      rw [hZ2.out] at this
                      simpa using this.symm
                    · exact HA.out q u v (by omega) hu hv
                  case measure => simp [intOf]; omega
          · have hs0 : (nm.toList == nm'.toList) = false := by rw [beq_eq_false_iff_ne]; exact hs
            rw [toList_bytes, toList_bytes] at hs
            have hs' : decide (nm.data.toList = nm'.data.toList) = false := decide_eq_false hs
            rw [hs', Bool.false_and] at hZ2
            clear hs hs'
            go_wp2_with fail
            refine wp_region_held_drew (S := (fun w' => (w'.cell? ⟨g1, o1 + i * 9, none⟩ = some (.int .i64 k) ∧ w'.cell? ⟨g1, o1 + i * 9 + 1, none⟩ = some (.string nm) ∧ w'.cell? ⟨g1, o1 + i * 9 + 2, none⟩ = some (.int .u8 (op : Int)) ∧ w'.cell? ⟨g1, o1 + i * 9 + 3, none⟩ = some (.int .u8 (t : Int)) ∧ w'.cell? ⟨g1, o1 + i * 9 + 4, none⟩ = some (.int .u64 (b : Int)) ∧ w'.cell? ⟨g1, o1 + i * 9 + 5, none⟩ = some (.string enm) ∧ w'.cell? ⟨g1, o1 + i * 9 + 6, none⟩ = some (.slice ea en ec) ∧ w'.cell? ⟨g1, o1 + i * 9 + 7, none⟩ = some (.slice a1 n1 c1) ∧ w'.cell? ⟨g1, o1 + i * 9 + 8, none⟩ = some (.slice a2 n2 c2)) ∧ (w'.cell? ⟨g2, o2 + i * 9, none⟩ = some (.int .i64 k) ∧ w'.cell? ⟨g2, o2 + i * 9 + 1, none⟩ = some (.string nm') ∧ w'.cell? ⟨g2, o2 + i * 9 + 2, none⟩ = some (.int .u8 (op' : Int)) ∧ w'.cell? ⟨g2, o2 + i * 9 + 3, none⟩ = some (.int .u8 (t' : Int)) ∧ w'.cell? ⟨g2, o2 + i * 9 + 4, none⟩ = some (.int .u64 (b' : Int)) ∧ w'.cell? ⟨g2, o2 + i * 9 + 5, none⟩ = some (.string enm') ∧ w'.cell? ⟨g2, o2 + i * 9 + 6, none⟩ = some (.slice ea' en' ec') ∧ w'.cell? ⟨g2, o2 + i * 9 + 7, none⟩ = some (.slice a1' n1' c1') ∧ w'.cell? ⟨g2, o2 + i * 9 + 8, none⟩ = some (.slice a2' n2' c2')))) (by kernel_rfl) hS0 (fun _ => ?_)
            refine wpAnyH_take (i := 0) (oi := { dst := some 17, op := .move (.tmp 0), type := _, pos := _, after := _, guard := none }) (v := .slice (some ⟨g1, o1, none⟩) n cc1) rfl (by kernel_rfl) (by kernel_rfl) (by kernel_rfl) (fun _ _ _ h => h) (Or.inl ⟨by rfl, ?_⟩) hS0 ?_
            · intro w hSw
              go_simp
            simp only [Act.put, List.setIfInBounds_toArray, List.set_cons_zero, List.set_cons_succ]
            refine wpAnyH_take (i := 1) (oi := { dst := some 18, op := .move (.tmp 5), type := _, pos := _, after := _, guard := none }) (v := .int .i64 (i : Int)) rfl (by kernel_rfl) (by kernel_rfl) (by kernel_rfl) (fun _ _ _ h => h) (Or.inl ⟨by rfl, ?_⟩) hS0 ?_
            · intro w hSw
              go_simp
            simp only [Act.put, List.setIfInBounds_toArray, List.set_cons_zero, List.set_cons_succ]
            refine wpAnyH_take (i := 2) (oi := { dst := some 19, op := .indexAddr 49 (.tmp 17) (.tmp 18), type := _, pos := _, after := _, guard := none }) (v := .pointer (some ⟨g1, o1 + i * 9, none⟩)) rfl (by kernel_rfl) (by kernel_rfl) (by kernel_rfl) (fun _ _ _ h => h) (Or.inl ⟨by rfl, ?_⟩) hS0 ?_
            · intro w hSw
              go_simp
            simp only [Act.put, List.setIfInBounds_toArray, List.set_cons_zero, List.set_cons_succ]
            refine wpAnyH_take (i := 3) (oi := { dst := some 20, op := .fieldAddr 51 (.tmp 19) 0, type := _, pos := _, after := _, guard := none }) (v := .pointer (some ⟨g1, o1 + i * 9, none⟩)) rfl (by kernel_rfl) (by kernel_rfl) (by kernel_rfl) (fun _ _ _ h => h) (Or.inl ⟨by rfl, ?_⟩) hS0 ?_
            · intro w hSw
              go_simp
            simp only [Act.put, List.setIfInBounds_toArray, List.set_cons_zero, List.set_cons_succ]
            refine wpAnyH_take (i := 4) (oi := { dst := some 21, op := .load 3 (.tmp 20), type := _, pos := _, after := _, guard := none }) (v := .int .i64 k) rfl (by kernel_rfl) (by kernel_rfl) (by kernel_rfl) (fun _ _ _ h => h) (Or.inl ⟨by rfl, ?_⟩) hS0 ?_
            · intro w hSw
              have z := hSw.1.1
              go_simp
            simp only [Act.put, List.setIfInBounds_toArray, List.set_cons_zero, List.set_cons_succ]
            refine wpAnyH_take (i := 5) (oi := { dst := some 22, op := .move (.tmp 1), type := _, pos := _, after := _, guard := none }) (v := .slice (some ⟨g2, o2, none⟩) n cc2) rfl (by kernel_rfl) (by kernel_rfl) (by kernel_rfl) (fun _ _ _ h => h) (Or.inl ⟨by rfl, ?_⟩) hS0 ?_
            · intro w hSw
              go_simp
            simp only [Act.put, List.setIfInBounds_toArray, List.set_cons_zero, List.set_cons_succ]
            refine wpAnyH_take (i := 6) (oi := { dst := some 23, op := .move (.tmp 5), type := _, pos := _, after := _, guard := none }) (v := .int .i64 (i : Int)) rfl (by kernel_rfl) (by kernel_rfl) (by kernel_rfl) (fun _ _ _ h => h) (Or.inl ⟨by rfl, ?_⟩) hS0 ?_
            · intro w hSw
              go_simp
            simp only [Act.put, List.setIfInBounds_toArray, List.set_cons_zero, List.set_cons_succ]
            refine wpAnyH_take (i := 7) (oi := { dst := some 24, op := .indexAddr 49 (.tmp 22) (.tmp 23), type := _, pos := _, after := _, guard := none }) (v := .pointer (some ⟨g2, o2 + i * 9, none⟩)) rfl (by kernel_rfl) (by kernel_rfl) (by kernel_rfl) (fun _ _ _ h => h) (Or.inl ⟨by rfl, ?_⟩) hS0 ?_
            · intro w hSw
              go_simp
            simp only [Act.put, List.setIfInBounds_toArray, List.set_cons_zero, List.set_cons_succ]
            refine wpAnyH_take (i := 8) (oi := { dst := some 25, op := .fieldAddr 51 (.tmp 24) 0, type := _, pos := _, after := _, guard := none }) (v := .pointer (some ⟨g2, o2 + i * 9, none⟩)) rfl (by kernel_rfl) (by kernel_rfl) (by kernel_rfl) (fun _ _ _ h => h) (Or.inl ⟨by rfl, ?_⟩) hS0 ?_
            · intro w hSw
              go_simp
            simp only [Act.put, List.setIfInBounds_toArray, List.set_cons_zero, List.set_cons_succ]
            refine wpAnyH_take (i := 9) (oi := { dst := some 26, op := .load 3 (.tmp 25), type := _, pos := _, after := _, guard := none }) (v := .int .i64 k) rfl (by kernel_rfl) (by kernel_rfl) (by kernel_rfl) (fun _ _ _ h => h) (Or.inl ⟨by rfl, ?_⟩) hS0 ?_
            · intro w hSw
              have z := hSw.2.1
              go_simp
            simp only [Act.put, List.setIfInBounds_toArray, List.set_cons_zero, List.set_cons_succ]
            refine wpAnyH_take (i := 10) (oi := { dst := some 27, op := .binOp .neq 3 (.tmp 21) (.tmp 26) 3, type := _, pos := _, after := _, guard := none }) (v := .bool false) rfl (by kernel_rfl) (by kernel_rfl) (by kernel_rfl) (fun _ _ _ h => h) (Or.inl ⟨by rfl, ?_⟩) hS0 ?_
            · intro w hSw
              go_simp
            simp only [Act.put, List.setIfInBounds_toArray, List.set_cons_zero, List.set_cons_succ]
            refine wpAnyH_take (i := 11) (oi := { dst := some 28, op := .move (.tmp 27), type := _, pos := _, after := _, guard := none }) (v := .bool false) rfl (by kernel_rfl) (by kernel_rfl) (by kernel_rfl) (fun _ _ _ h => h) (Or.inl ⟨by rfl, ?_⟩) hS0 ?_
            · intro w hSw
              go_simp
            simp only [Act.put, List.setIfInBounds_toArray, List.set_cons_zero, List.set_cons_succ]
            refine wpAnyH_take (i := 12) (oi := { dst := some 29, op := .move (.tmp 0), type := _, pos := _, after := _, guard := some (11, false) }) (v := .slice (some ⟨g1, o1, none⟩) n cc1) rfl (by kernel_rfl) (by kernel_rfl) (by kernel_rfl) (fun _ _ _ h => h) (Or.inl ⟨by rfl, ?_⟩) hS0 ?_
            · intro w hSw
              go_simp
            simp only [Act.put, List.setIfInBounds_toArray, List.set_cons_zero, List.set_cons_succ]
            refine wpAnyH_take (i := 13) (oi := { dst := some 30, op := .move (.tmp 5), type := _, pos := _, after := _, guard := some (11, false) }) (v := .int .i64 (i : Int)) rfl (by kernel_rfl) (by kernel_rfl) (by kernel_rfl) (fun _ _ _ h => h) (Or.inl ⟨by rfl, ?_⟩) hS0 ?_
            · intro w hSw
              go_simp
            simp only [Act.put, List.setIfInBounds_toArray, List.set_cons_zero, List.set_cons_succ]
            refine wpAnyH_take (i := 14) (oi := { dst := some 31, op := .indexAddr 49 (.tmp 29) (.tmp 30), type := _, pos := _, after := _, guard := some (11, false) }) (v := .pointer (some ⟨g1, o1 + i * 9, none⟩)) rfl (by kernel_rfl) (by kernel_rfl) (by kernel_rfl) (fun _ _ _ h => h) (Or.inl ⟨by rfl, ?_⟩) hS0 ?_
            · intro w hSw
              go_simp
            simp only [Act.put, List.setIfInBounds_toArray, List.set_cons_zero, List.set_cons_succ]
            refine wpAnyH_take (i := 15) (oi := { dst := some 32, op := .fieldAddr 51 (.tmp 31) 1, type := _, pos := _, after := _, guard := some (11, false) }) (v := .pointer (some ⟨g1, o1 + i * 9 + 1, none⟩)) rfl (by kernel_rfl) (by kernel_rfl) (by kernel_rfl) (fun _ _ _ h => h) (Or.inl ⟨by rfl, ?_⟩) hS0 ?_
            · intro w hSw
              go_simp
            simp only [Act.put, List.setIfInBounds_toArray, List.set_cons_zero, List.set_cons_succ]
            refine wpAnyH_take (i := 16) (oi := { dst := some 33, op := .load 9 (.tmp 32), type := _, pos := _, after := _, guard := some (11, false) }) (v := .string nm) rfl (by kernel_rfl) (by kernel_rfl) (by kernel_rfl) (fun _ _ _ h => h) (Or.inl ⟨by rfl, ?_⟩) hS0 ?_
            · intro w hSw
              have z := hSw.1.2.1
              go_simp
            simp only [Act.put, List.setIfInBounds_toArray, List.set_cons_zero, List.set_cons_succ]
            refine wpAnyH_take (i := 17) (oi := { dst := some 34, op := .move (.tmp 1), type := _, pos := _, after := _, guard := some (11, false) }) (v := .slice (some ⟨g2, o2, none⟩) n cc2) rfl (by kernel_rfl) (by kernel_rfl) (by kernel_rfl) (fun _ _ _ h => h) (Or.inl ⟨by rfl, ?_⟩) hS0 ?_
            · intro w hSw
              go_simp
            simp only [Act.put, List.setIfInBounds_toArray, List.set_cons_zero, List.set_cons_succ]
            refine wpAnyH_take (i := 18) (oi := { dst := some 35, op := .move (.tmp 5), type := _, pos := _, after := _, guard := some (11, false) }) (v := .int .i64 (i : Int)) rfl (by kernel_rfl) (by kernel_rfl) (by kernel_rfl) (fun _ _ _ h => h) (Or.inl ⟨by rfl, ?_⟩) hS0 ?_
            · intro w hSw
              go_simp
            simp only [Act.put, List.setIfInBounds_toArray, List.set_cons_zero, List.set_cons_succ]
            refine wpAnyH_take (i := 19) (oi := { dst := some 36, op := .indexAddr 49 (.tmp 34) (.tmp 35), type := _, pos := _, after := _, guard := some (11, false) }) (v := .pointer (some ⟨g2, o2 + i * 9, none⟩)) rfl (by kernel_rfl) (by kernel_rfl) (by kernel_rfl) (fun _ _ _ h => h) (Or.inl ⟨by rfl, ?_⟩) hS0 ?_
            · intro w hSw
              go_simp
            simp only [Act.put, List.setIfInBounds_toArray, List.set_cons_zero, List.set_cons_succ]
            refine wpAnyH_take (i := 20) (oi := { dst := some 37, op := .fieldAddr 51 (.tmp 36) 1, type := _, pos := _, after := _, guard := some (11, false) }) (v := .pointer (some ⟨g2, o2 + i * 9 + 1, none⟩)) rfl (by kernel_rfl) (by kernel_rfl) (by kernel_rfl) (fun _ _ _ h => h) (Or.inl ⟨by rfl, ?_⟩) hS0 ?_
            · intro w hSw
              go_simp
            simp only [Act.put, List.setIfInBounds_toArray, List.set_cons_zero, List.set_cons_succ]
            refine wpAnyH_take (i := 21) (oi := { dst := some 38, op := .load 9 (.tmp 37), type := _, pos := _, after := _, guard := some (11, false) }) (v := .string nm') rfl (by kernel_rfl) (by kernel_rfl) (by kernel_rfl) (fun _ _ _ h => h) (Or.inl ⟨by rfl, ?_⟩) hS0 ?_
            · intro w hSw
              have z := hSw.2.2.1
              go_simp
            simp only [Act.put, List.setIfInBounds_toArray, List.set_cons_zero, List.set_cons_succ]
            refine wpAnyH_take (i := 22) (oi := { dst := some 39, op := .binOp .neq 9 (.tmp 33) (.tmp 38) 9, type := _, pos := _, after := _, guard := some (11, false) }) (v := .bool true) rfl (by kernel_rfl) (by kernel_rfl) (by kernel_rfl) (fun _ _ _ h => h) (Or.inl ⟨by rfl, ?_⟩) hS0 ?_
            · intro w hSw
              go_simp
            simp only [Act.put, List.setIfInBounds_toArray, List.set_cons_zero, List.set_cons_succ]
            refine wpAnyH_take (i := 23) (oi := { dst := some 40, op := .pick (.tmp 28) (.const (.bool true)) (.tmp 39), type := _, pos := _, after := _, guard := none }) (v := .bool true) rfl (by kernel_rfl) (by kernel_rfl) (by kernel_rfl) (fun _ _ _ h => h) (Or.inl ⟨by rfl, ?_⟩) hS0 ?_
            · intro w hSw
              go_simp
            simp only [Act.put, List.setIfInBounds_toArray, List.set_cons_zero, List.set_cons_succ]
            refine wpAnyH_take (i := 24) (oi := { dst := some 41, op := .move (.tmp 40), type := _, pos := _, after := _, guard := none }) (v := .bool true) rfl (by kernel_rfl) (by kernel_rfl) (by kernel_rfl) (fun _ _ _ h => h) (Or.inl ⟨by rfl, ?_⟩) hS0 ?_
            · intro w hSw
              go_simp
            simp only [Act.put, List.setIfInBounds_toArray, List.set_cons_zero, List.set_cons_succ]
            refine wpAnyH_take (i := 25) (oi := { dst := some 42, op := .move (.tmp 0), type := _, pos := _, after := _, guard := some (24, false) }) (v := undef) rfl (by kernel_rfl) (by kernel_rfl) (by kernel_rfl) (fun _ _ _ h => h) (Or.inr ⟨by rfl, rfl⟩) hS0 ?_
            simp only [Act.put, List.setIfInBounds_toArray, List.set_cons_zero, List.set_cons_succ]
            refine wpAnyH_take (i := 26) (oi := { dst := some 43, op := .move (.tmp 5), type := _, pos := _, after := _, guard := some (24, false) }) (v := undef) rfl (by kernel_rfl) (by kernel_rfl) (by kernel_rfl) (fun _ _ _ h => h) (Or.inr ⟨by rfl, rfl⟩) hS0 ?_
            simp only [Act.put, List.setIfInBounds_toArray, List.set_cons_zero, List.set_cons_succ]
            refine wpAnyH_take (i := 27) (oi := { dst := some 44, op := .indexAddr 49 (.tmp 42) (.tmp 43), type := _, pos := _, after := _, guard := some (24, false) }) (v := undef) rfl (by kernel_rfl) (by kernel_rfl) (by kernel_rfl) (fun _ _ _ h => h) (Or.inr ⟨by rfl, rfl⟩) hS0 ?_
            simp only [Act.put, List.setIfInBounds_toArray, List.set_cons_zero, List.set_cons_succ]
            refine wpAnyH_take (i := 28) (oi := { dst := some 45, op := .fieldAddr 51 (.tmp 44) 2, type := _, pos := _, after := _, guard := some (24, false) }) (v := undef) rfl (by kernel_rfl) (by kernel_rfl) (by kernel_rfl) (fun _ _ _ h => h) (Or.inr ⟨by rfl, rfl⟩) hS0 ?_
            simp only [Act.put, List.setIfInBounds_toArray, List.set_cons_zero, List.set_cons_succ]
            refine wpAnyH_take (i := 29) (oi := { dst := some 46, op := .load 43 (.tmp 45), type := _, pos := _, after := _, guard := some (24, false) }) (v := undef) rfl (by kernel_rfl) (by kernel_rfl) (by kernel_rfl) (fun _ _ _ h => h) (Or.inr ⟨by rfl, rfl⟩) hS0 ?_
            simp only [Act.put, List.setIfInBounds_toArray, List.set_cons_zero, List.set_cons_succ]
            refine wpAnyH_take (i := 30) (oi := { dst := some 47, op := .move (.tmp 1), type := _, pos := _, after := _, guard := some (24, false) }) (v := undef) rfl (by kernel_rfl) (by kernel_rfl) (by kernel_rfl) (fun _ _ _ h => h) (Or.inr ⟨by rfl, rfl⟩) hS0 ?_
            simp only [Act.put, List.setIfInBounds_toArray, List.set_cons_zero, List.set_cons_succ]
            refine wpAnyH_take (i := 31) (oi := { dst := some 48, op := .move (.tmp 5), type := _, pos := _, after := _, guard := some (24, false) }) (v := undef) rfl (by kernel_rfl) (by kernel_rfl) (by kernel_rfl) (fun _ _ _ h => h) (Or.inr ⟨by rfl, rfl⟩) hS0 ?_
            simp only [Act.put, List.setIfInBounds_toArray, List.set_cons_zero, List.set_cons_succ]
            refine wpAnyH_take (i := 32) (oi := { dst := some 49, op := .indexAddr 49 (.tmp 47) (.tmp 48), type := _, pos := _, after := _, guard := some (24, false) }) (v := undef) rfl (by kernel_rfl) (by kernel_rfl) (by kernel_rfl) (fun _ _ _ h => h) (Or.inr ⟨by rfl, rfl⟩) hS0 ?_
            simp only [Act.put, List.setIfInBounds_toArray, List.set_cons_zero, List.set_cons_succ]
            refine wpAnyH_take (i := 33) (oi := { dst := some 50, op := .fieldAddr 51 (.tmp 49) 2, type := _, pos := _, after := _, guard := some (24, false) }) (v := undef) rfl (by kernel_rfl) (by kernel_rfl) (by kernel_rfl) (fun _ _ _ h => h) (Or.inr ⟨by rfl, rfl⟩) hS0 ?_
            simp only [Act.put, List.setIfInBounds_toArray, List.set_cons_zero, List.set_cons_succ]
            refine wpAnyH_take (i := 34) (oi := { dst := some 51, op := .load 43 (.tmp 50), type := _, pos := _, after := _, guard := some (24, false) }) (v := undef) rfl (by kernel_rfl) (by kernel_rfl) (by kernel_rfl) (fun _ _ _ h => h) (Or.inr ⟨by rfl, rfl⟩) hS0 ?_
            simp only [Act.put, List.setIfInBounds_toArray, List.set_cons_zero, List.set_cons_succ]
            refine wpAnyH_take (i := 35) (oi := { dst := some 52, op := .call { callee := .value (.func 15), args := #[.tmp 46, .tmp 51], argTypes := #[43, 43] }, type := _, pos := _, after := _, guard := some (24, false) }) (v := undef) rfl (by kernel_rfl) (by kernel_rfl) (by kernel_rfl) (fun _ _ _ h => h) (Or.inr ⟨by rfl, rfl⟩) hS0 ?_
            simp only [Act.put, List.setIfInBounds_toArray, List.set_cons_zero, List.set_cons_succ]
            refine wpAnyH_take (i := 36) (oi := { dst := some 53, op := .unOp .not 4 (.tmp 52), type := _, pos := _, after := _, guard := some (24, false) }) (v := undef) rfl (by kernel_rfl) (by kernel_rfl) (by kernel_rfl) (fun _ _ _ h => h) (Or.inr ⟨by rfl, rfl⟩) hS0 ?_
            simp only [Act.put, List.setIfInBounds_toArray, List.set_cons_zero, List.set_cons_succ]
            refine wpAnyH_take (i := 37) (oi := { dst := some 54, op := .pick (.tmp 41) (.const (.bool true)) (.tmp 53), type := _, pos := _, after := _, guard := none }) (v := .bool true) rfl (by kernel_rfl) (by kernel_rfl) (by kernel_rfl) (fun _ _ _ h => h) (Or.inl ⟨by rfl, ?_⟩) hS0 ?_
            · intro w hSw
              go_simp
            simp only [Act.put, List.setIfInBounds_toArray, List.set_cons_zero, List.set_cons_succ]
            refine wpAnyH_take (i := 38) (oi := { dst := some 55, op := .move (.tmp 54), type := _, pos := _, after := _, guard := none }) (v := .bool true) rfl (by kernel_rfl) (by kernel_rfl) (by kernel_rfl) (fun _ _ _ h => h) (Or.inl ⟨by rfl, ?_⟩) hS0 ?_
            · intro w hSw
              go_simp
            simp only [Act.put, List.setIfInBounds_toArray, List.set_cons_zero, List.set_cons_succ]
            refine wpAnyH_take (i := 39) (oi := { dst := some 56, op := .move (.tmp 0), type := _, pos := _, after := _, guard := some (38, false) }) (v := undef) rfl (by kernel_rfl) (by kernel_rfl) (by kernel_rfl) (fun _ _ _ h => h) (Or.inr ⟨by rfl, rfl⟩) hS0 ?_
            simp only [Act.put, List.setIfInBounds_toArray, List.set_cons_zero, List.set_cons_succ]
            refine wpAnyH_take (i := 40) (oi := { dst := some 57, op := .move (.tmp 5), type := _, pos := _, after := _, guard := some (38, false) }) (v := undef) rfl (by kernel_rfl) (by kernel_rfl) (by kernel_rfl) (fun _ _ _ h => h) (Or.inr ⟨by rfl, rfl⟩) hS0 ?_
            simp only [Act.put, List.setIfInBounds_toArray, List.set_cons_zero, List.set_cons_succ]
            refine wpAnyH_take (i := 41) (oi := { dst := some 58, op := .indexAddr 49 (.tmp 56) (.tmp 57), type := _, pos := _, after := _, guard := some (38, false) }) (v := undef) rfl (by kernel_rfl) (by kernel_rfl) (by kernel_rfl) (fun _ _ _ h => h) (Or.inr ⟨by rfl, rfl⟩) hS0 ?_
            simp only [Act.put, List.setIfInBounds_toArray, List.set_cons_zero, List.set_cons_succ]
            refine wpAnyH_take (i := 42) (oi := { dst := some 59, op := .fieldAddr 51 (.tmp 58) 3, type := _, pos := _, after := _, guard := some (38, false) }) (v := undef) rfl (by kernel_rfl) (by kernel_rfl) (by kernel_rfl) (fun _ _ _ h => h) (Or.inr ⟨by rfl, rfl⟩) hS0 ?_
            simp only [Act.put, List.setIfInBounds_toArray, List.set_cons_zero, List.set_cons_succ]
            refine wpAnyH_take (i := 43) (oi := { dst := some 60, op := .load 49 (.tmp 59), type := _, pos := _, after := _, guard := some (38, false) }) (v := undef) rfl (by kernel_rfl) (by kernel_rfl) (by kernel_rfl) (fun _ _ _ h => h) (Or.inr ⟨by rfl, rfl⟩) hS0 ?_
            simp only [Act.put, List.setIfInBounds_toArray, List.set_cons_zero, List.set_cons_succ]
            refine wpAnyH_take (i := 44) (oi := { dst := some 61, op := .move (.tmp 1), type := _, pos := _, after := _, guard := some (38, false) }) (v := undef) rfl (by kernel_rfl) (by kernel_rfl) (by kernel_rfl) (fun _ _ _ h => h) (Or.inr ⟨by rfl, rfl⟩) hS0 ?_
            simp only [Act.put, List.setIfInBounds_toArray, List.set_cons_zero, List.set_cons_succ]
            refine wpAnyH_take (i := 45) (oi := { dst := some 62, op := .move (.tmp 5), type := _, pos := _, after := _, guard := some (38, false) }) (v := undef) rfl (by kernel_rfl) (by kernel_rfl) (by kernel_rfl) (fun _ _ _ h => h) (Or.inr ⟨by rfl, rfl⟩) hS0 ?_
            simp only [Act.put, List.setIfInBounds_toArray, List.set_cons_zero, List.set_cons_succ]
            refine wpAnyH_take (i := 46) (oi := { dst := some 63, op := .indexAddr 49 (.tmp 61) (.tmp 62), type := _, pos := _, after := _, guard := some (38, false) }) (v := undef) rfl (by kernel_rfl) (by kernel_rfl) (by kernel_rfl) (fun _ _ _ h => h) (Or.inr ⟨by rfl, rfl⟩) hS0 ?_
            simp only [Act.put, List.setIfInBounds_toArray, List.set_cons_zero, List.set_cons_succ]
            refine wpAnyH_take (i := 47) (oi := { dst := some 64, op := .fieldAddr 51 (.tmp 63) 3, type := _, pos := _, after := _, guard := some (38, false) }) (v := undef) rfl (by kernel_rfl) (by kernel_rfl) (by kernel_rfl) (fun _ _ _ h => h) (Or.inr ⟨by rfl, rfl⟩) hS0 ?_
            simp only [Act.put, List.setIfInBounds_toArray, List.set_cons_zero, List.set_cons_succ]
            refine wpAnyH_take (i := 48) (oi := { dst := some 65, op := .load 49 (.tmp 64), type := _, pos := _, after := _, guard := some (38, false) }) (v := undef) rfl (by kernel_rfl) (by kernel_rfl) (by kernel_rfl) (fun _ _ _ h => h) (Or.inr ⟨by rfl, rfl⟩) hS0 ?_
            simp only [Act.put, List.setIfInBounds_toArray, List.set_cons_zero, List.set_cons_succ]
            refine wpAnyH_take (i := 49) (oi := { dst := some 66, op := .call { callee := .value (.func 33), args := #[.tmp 60, .tmp 65], argTypes := #[49, 49] }, type := _, pos := _, after := _, guard := some (38, false) }) (v := undef) rfl (by kernel_rfl) (by kernel_rfl) (by kernel_rfl) (fun _ _ _ h => h) (Or.inr ⟨by rfl, rfl⟩) hS0 ?_
            simp only [Act.put, List.setIfInBounds_toArray, List.set_cons_zero, List.set_cons_succ]
            refine wpAnyH_take (i := 50) (oi := { dst := some 67, op := .unOp .not 4 (.tmp 66), type := _, pos := _, after := _, guard := some (38, false) }) (v := undef) rfl (by kernel_rfl) (by kernel_rfl) (by kernel_rfl) (fun _ _ _ h => h) (Or.inr ⟨by rfl, rfl⟩) hS0 ?_
            simp only [Act.put, List.setIfInBounds_toArray, List.set_cons_zero, List.set_cons_succ]
            refine wpAnyH_take (i := 51) (oi := { dst := some 68, op := .pick (.tmp 55) (.const (.bool true)) (.tmp 67), type := _, pos := _, after := _, guard := none }) (v := .bool true) rfl (by kernel_rfl) (by kernel_rfl) (by kernel_rfl) (fun _ _ _ h => h) (Or.inl ⟨by rfl, ?_⟩) hS0 ?_
            · intro w hSw
              go_simp
            simp only [Act.put, List.setIfInBounds_toArray, List.set_cons_zero, List.set_cons_succ]
            refine wpAnyH_take (i := 52) (oi := { dst := some 69, op := .move (.tmp 68), type := _, pos := _, after := _, guard := none }) (v := .bool true) rfl (by kernel_rfl) (by kernel_rfl) (by kernel_rfl) (fun _ _ _ h => h) (Or.inl ⟨by rfl, ?_⟩) hS0 ?_
            · intro w hSw
              go_simp
            simp only [Act.put, List.setIfInBounds_toArray, List.set_cons_zero, List.set_cons_succ]
            refine wpAnyH_take (i := 53) (oi := { dst := some 70, op := .move (.tmp 0), type := _, pos := _, after := _, guard := some (52, false) }) (v := undef) rfl (by kernel_rfl) (by kernel_rfl) (by kernel_rfl) (fun _ _ _ h => h) (Or.inr ⟨by rfl, rfl⟩) hS0 ?_
            simp only [Act.put, List.setIfInBounds_toArray, List.set_cons_zero, List.set_cons_succ]
            refine wpAnyH_take (i := 54) (oi := { dst := some 71, op := .move (.tmp 5), type := _, pos := _, after := _, guard := some (52, false) }) (v := undef) rfl (by kernel_rfl) (by kernel_rfl) (by kernel_rfl) (fun _ _ _ h => h) (Or.inr ⟨by rfl, rfl⟩) hS0 ?_
            simp only [Act.put, List.setIfInBounds_toArray, List.set_cons_zero, List.set_cons_succ]
            refine wpAnyH_take (i := 55) (oi := { dst := some 72, op := .indexAddr 49 (.tmp 70) (.tmp 71), type := _, pos := _, after := _, guard := some (52, false) }) (v := undef) rfl (by kernel_rfl) (by kernel_rfl) (by kernel_rfl) (fun _ _ _ h => h) (Or.inr ⟨by rfl, rfl⟩) hS0 ?_
            simp only [Act.put, List.setIfInBounds_toArray, List.set_cons_zero, List.set_cons_succ]
            refine wpAnyH_take (i := 56) (oi := { dst := some 73, op := .fieldAddr 51 (.tmp 72) 4, type := _, pos := _, after := _, guard := some (52, false) }) (v := undef) rfl (by kernel_rfl) (by kernel_rfl) (by kernel_rfl) (fun _ _ _ h => h) (Or.inr ⟨by rfl, rfl⟩) hS0 ?_
            simp only [Act.put, List.setIfInBounds_toArray, List.set_cons_zero, List.set_cons_succ]
            refine wpAnyH_take (i := 57) (oi := { dst := some 74, op := .load 49 (.tmp 73), type := _, pos := _, after := _, guard := some (52, false) }) (v := undef) rfl (by kernel_rfl) (by kernel_rfl) (by kernel_rfl) (fun _ _ _ h => h) (Or.inr ⟨by rfl, rfl⟩) hS0 ?_
            simp only [Act.put, List.setIfInBounds_toArray, List.set_cons_zero, List.set_cons_succ]
            refine wpAnyH_take (i := 58) (oi := { dst := some 75, op := .move (.tmp 1), type := _, pos := _, after := _, guard := some (52, false) }) (v := undef) rfl (by kernel_rfl) (by kernel_rfl) (by kernel_rfl) (fun _ _ _ h => h) (Or.inr ⟨by rfl, rfl⟩) hS0 ?_
            simp only [Act.put, List.setIfInBounds_toArray, List.set_cons_zero, List.set_cons_succ]
            refine wpAnyH_take (i := 59) (oi := { dst := some 76, op := .move (.tmp 5), type := _, pos := _, after := _, guard := some (52, false) }) (v := undef) rfl (by kernel_rfl) (by kernel_rfl) (by kernel_rfl) (fun _ _ _ h => h) (Or.inr ⟨by rfl, rfl⟩) hS0 ?_
            simp only [Act.put, List.setIfInBounds_toArray, List.set_cons_zero, List.set_cons_succ]
            refine wpAnyH_take (i := 60) (oi := { dst := some 77, op := .indexAddr 49 (.tmp 75) (.tmp 76), type := _, pos := _, after := _, guard := some (52, false) }) (v := undef) rfl (by kernel_rfl) (by kernel_rfl) (by kernel_rfl) (fun _ _ _ h => h) (Or.inr ⟨by rfl, rfl⟩) hS0 ?_
            simp only [Act.put, List.setIfInBounds_toArray, List.set_cons_zero, List.set_cons_succ]
            refine wpAnyH_take (i := 61) (oi := { dst := some 78, op := .fieldAddr 51 (.tmp 77) 4, type := _, pos := _, after := _, guard := some (52, false) }) (v := undef) rfl (by kernel_rfl) (by kernel_rfl) (by kernel_rfl) (fun _ _ _ h => h) (Or.inr ⟨by rfl, rfl⟩) hS0 ?_
            simp only [Act.put, List.setIfInBounds_toArray, List.set_cons_zero, List.set_cons_succ]
            refine wpAnyH_take (i := 62) (oi := { dst := some 79, op := .load 49 (.tmp 78), type := _, pos := _, after := _, guard := some (52, false) }) (v := undef) rfl (by kernel_rfl) (by kernel_rfl) (by kernel_rfl) (fun _ _ _ h => h) (Or.inr ⟨by rfl, rfl⟩) hS0 ?_
            simp only [Act.put, List.setIfInBounds_toArray, List.set_cons_zero, List.set_cons_succ]
            refine wpAnyH_take (i := 63) (oi := { dst := some 80, op := .call { callee := .value (.func 33), args := #[.tmp 74, .tmp 79], argTypes := #[49, 49] }, type := _, pos := _, after := _, guard := some (52, false) }) (v := undef) rfl (by kernel_rfl) (by kernel_rfl) (by kernel_rfl) (fun _ _ _ h => h) (Or.inr ⟨by rfl, rfl⟩) hS0 ?_
            simp only [Act.put, List.setIfInBounds_toArray, List.set_cons_zero, List.set_cons_succ]
            refine wpAnyH_take (i := 64) (oi := { dst := some 81, op := .unOp .not 4 (.tmp 80), type := _, pos := _, after := _, guard := some (52, false) }) (v := undef) rfl (by kernel_rfl) (by kernel_rfl) (by kernel_rfl) (fun _ _ _ h => h) (Or.inr ⟨by rfl, rfl⟩) hS0 ?_
            simp only [Act.put, List.setIfInBounds_toArray, List.set_cons_zero, List.set_cons_succ]
            refine wpAnyH_take (i := 65) (oi := { dst := some 82, op := .pick (.tmp 69) (.const (.bool true)) (.tmp 81), type := _, pos := _, after := _, guard := none }) (v := .bool true) rfl (by kernel_rfl) (by kernel_rfl) (by kernel_rfl) (fun _ _ _ h => h) (Or.inl ⟨by rfl, ?_⟩) hS0 ?_
            · intro w hSw
              go_simp
            simp only [Act.put, List.setIfInBounds_toArray, List.set_cons_zero, List.set_cons_succ]
            refine wpAnyH_done (by kernel_rfl) ?_ _
            go_wp2
            go_ret
            exact ⟨by rw [hRf.out (by first | (rw [hZ2.out]; done) | (rw [hZ2.out]; simp))]; rfl, hbw.trans (hB0.mono hbw.size)⟩
        · have e0 : (k == k') = false := by rw [beq_eq_false_iff_ne]; exact hk
          have hd : decide (k = k') = false := by simpa using hk
          rw [hd, Bool.false_and] at hZ2
          clear hd
          go_wp2_with fail
          refine wp_region_held_drew (S := (fun w' => (w'.cell? ⟨g1, o1 + i * 9, none⟩ = some (.int .i64 k) ∧ w'.cell? ⟨g1, o1 + i * 9 + 1, none⟩ = some (.string nm) ∧ w'.cell? ⟨g1, o1 + i * 9 + 2, none⟩ = some (.int .u8 (op : Int)) ∧ w'.cell? ⟨g1, o1 + i * 9 + 3, none⟩ = some (.int .u8 (t : Int)) ∧ w'.cell? ⟨g1, o1 + i * 9 + 4, none⟩ = some (.int .u64 (b : Int)) ∧ w'.cell? ⟨g1, o1 + i * 9 + 5, none⟩ = some (.string enm) ∧ w'.cell? ⟨g1, o1 + i * 9 + 6, none⟩ = some (.slice ea en ec) ∧ w'.cell? ⟨g1, o1 + i * 9 + 7, none⟩ = some (.slice a1 n1 c1) ∧ w'.cell? ⟨g1, o1 + i * 9 + 8, none⟩ = some (.slice a2 n2 c2)) ∧ (w'.cell? ⟨g2, o2 + i * 9, none⟩ = some (.int .i64 k') ∧ w'.cell? ⟨g2, o2 + i * 9 + 1, none⟩ = some (.string nm') ∧ w'.cell? ⟨g2, o2 + i * 9 + 2, none⟩ = some (.int .u8 (op' : Int)) ∧ w'.cell? ⟨g2, o2 + i * 9 + 3, none⟩ = some (.int .u8 (t' : Int)) ∧ w'.cell? ⟨g2, o2 + i * 9 + 4, none⟩ = some (.int .u64 (b' : Int)) ∧ w'.cell? ⟨g2, o2 + i * 9 + 5, none⟩ = some (.string enm') ∧ w'.cell? ⟨g2, o2 + i * 9 + 6, none⟩ = some (.slice ea' en' ec') ∧ w'.cell? ⟨g2, o2 + i * 9 + 7, none⟩ = some (.slice a1' n1' c1') ∧ w'.cell? ⟨g2, o2 + i * 9 + 8, none⟩ = some (.slice a2' n2' c2')))) (by kernel_rfl) hS0 (fun _ => ?_)
          refine wpAnyH_take (i := 0) (oi := { dst := some 17, op := .move (.tmp 0), type := _, pos := _, after := _, guard := none }) (v := .slice (some ⟨g1, o1, none⟩) n cc1) rfl (by kernel_rfl) (by kernel_rfl) (by kernel_rfl) (fun _ _ _ h => h) (Or.inl ⟨by rfl, ?_⟩) hS0 ?_
          · intro w hSw
            go_simp
          simp only [Act.put, List.setIfInBounds_toArray, List.set_cons_zero, List.set_cons_succ]
          refine wpAnyH_take (i := 1) (oi := { dst := some 18, op := .move (.tmp 5), type := _, pos := _, after := _, guard := none }) (v := .int .i64 (i : Int)) rfl (by kernel_rfl) (by kernel_rfl) (by kernel_rfl) (fun _ _ _ h => h) (Or.inl ⟨by rfl, ?_⟩) hS0 ?_
          · intro w hSw
            go_simp
          simp only [Act.put, List.setIfInBounds_toArray, List.set_cons_zero, List.set_cons_succ]
          refine wpAnyH_take (i := 2) (oi := { dst := some 19, op := .indexAddr 49 (.tmp 17) (.tmp 18), type := _, pos := _, after := _, guard := none }) (v := .pointer (some ⟨g1, o1 + i * 9, none⟩)) rfl (by kernel_rfl) (by kernel_rfl) (by kernel_rfl) (fun _ _ _ h => h) (Or.inl ⟨by rfl, ?_⟩) hS0 ?_
          · intro w hSw
            go_simp
          simp only [Act.put, List.setIfInBounds_toArray, List.set_cons_zero, List.set_cons_succ]
          refine wpAnyH_take (i := 3) (oi := { dst := some 20, op := .fieldAddr 51 (.tmp 19) 0, type := _, pos := _, after := _, guard := none }) (v := .pointer (some ⟨g1, o1 + i * 9, none⟩)) rfl (by kernel_rfl) (by kernel_rfl) (by kernel_rfl) (fun _ _ _ h => h) (Or.inl ⟨by rfl, ?_⟩) hS0 ?_
          · intro w hSw
            go_simp
          simp only [Act.put, List.setIfInBounds_toArray, List.set_cons_zero, List.set_cons_succ]
          refine wpAnyH_take (i := 4) (oi := { dst := some 21, op := .load 3 (.tmp 20), type := _, pos := _, after := _, guard := none }) (v := .int .i64 k) rfl (by kernel_rfl) (by kernel_rfl) (by kernel_rfl) (fun _ _ _ h => h) (Or.inl ⟨by rfl, ?_⟩) hS0 ?_
          · intro w hSw
            have z := hSw.1.1
            go_simp
          simp only [Act.put, List.setIfInBounds_toArray, List.set_cons_zero, List.set_cons_succ]
          refine wpAnyH_take (i := 5) (oi := { dst := some 22, op := .move (.tmp 1), type := _, pos := _, after := _, guard := none }) (v := .slice (some ⟨g2, o2, none⟩) n cc2) rfl (by kernel_rfl) (by kernel_rfl) (by kernel_rfl) (fun _ _ _ h => h) (Or.inl ⟨by rfl, ?_⟩) hS0 ?_
          · intro w hSw
            go_simp
          simp only [Act.put, List.setIfInBounds_toArray, List.set_cons_zero, List.set_cons_succ]
          refine wpAnyH_take (i := 6) (oi := { dst := some 23, op := .move (.tmp 5), type := _, pos := _, after := _, guard := none }) (v := .int .i64 (i : Int)) rfl (by kernel_rfl) (by kernel_rfl) (by kernel_rfl) (fun _ _ _ h => h) (Or.inl ⟨by rfl, ?_⟩) hS0 ?_
          · intro w hSw
            go_simp
          simp only [Act.put, List.setIfInBounds_toArray, List.set_cons_zero, List.set_cons_succ]
          refine wpAnyH_take (i := 7) (oi := { dst := some 24, op := .indexAddr 49 (.tmp 22) (.tmp 23), type := _, pos := _, after := _, guard := none }) (v := .pointer (some ⟨g2, o2 + i * 9, none⟩)) rfl (by kernel_rfl) (by kernel_rfl) (by kernel_rfl) (fun _ _ _ h => h) (Or.inl ⟨by rfl, ?_⟩) hS0 ?_
          · intro w hSw
            go_simp
          simp only [Act.put, List.setIfInBounds_toArray, List.set_cons_zero, List.set_cons_succ]
          refine wpAnyH_take (i := 8) (oi := { dst := some 25, op := .fieldAddr 51 (.tmp 24) 0, type := _, pos := _, after := _, guard := none }) (v := .pointer (some ⟨g2, o2 + i * 9, none⟩)) rfl (by kernel_rfl) (by kernel_rfl) (by kernel_rfl) (fun _ _ _ h => h) (Or.inl ⟨by rfl, ?_⟩) hS0 ?_
          · intro w hSw
            go_simp
          simp only [Act.put, List.setIfInBounds_toArray, List.set_cons_zero, List.set_cons_succ]
          refine wpAnyH_take (i := 9) (oi := { dst := some 26, op := .load 3 (.tmp 25), type := _, pos := _, after := _, guard := none }) (v := .int .i64 k') rfl (by kernel_rfl) (by kernel_rfl) (by kernel_rfl) (fun _ _ _ h => h) (Or.inl ⟨by rfl, ?_⟩) hS0 ?_
          · intro w hSw
            have z := hSw.2.1
            go_simp
          simp only [Act.put, List.setIfInBounds_toArray, List.set_cons_zero, List.set_cons_succ]
          refine wpAnyH_take (i := 10) (oi := { dst := some 27, op := .binOp .neq 3 (.tmp 21) (.tmp 26) 3, type := _, pos := _, after := _, guard := none }) (v := .bool true) rfl (by kernel_rfl) (by kernel_rfl) (by kernel_rfl) (fun _ _ _ h => h) (Or.inl ⟨by rfl, ?_⟩) hS0 ?_
          · intro w hSw
            go_simp
          simp only [Act.put, List.setIfInBounds_toArray, List.set_cons_zero, List.set_cons_succ]
          refine wpAnyH_take (i := 11) (oi := { dst := some 28, op := .move (.tmp 27), type := _, pos := _, after := _, guard := none }) (v := .bool true) rfl (by kernel_rfl) (by kernel_rfl) (by kernel_rfl) (fun _ _ _ h => h) (Or.inl ⟨by rfl, ?_⟩) hS0 ?_
          · intro w hSw
            go_simp
          simp only [Act.put, List.setIfInBounds_toArray, List.set_cons_zero, List.set_cons_succ]
          refine wpAnyH_take (i := 12) (oi := { dst := some 29, op := .move (.tmp 0), type := _, pos := _, after := _, guard := some (11, false) }) (v := undef) rfl (by kernel_rfl) (by kernel_rfl) (by kernel_rfl) (fun _ _ _ h => h) (Or.inr ⟨by rfl, rfl⟩) hS0 ?_
          simp only [Act.put, List.setIfInBounds_toArray, List.set_cons_zero, List.set_cons_succ]
          refine wpAnyH_take (i := 13) (oi := { dst := some 30, op := .move (.tmp 5), type := _, pos := _, after := _, guard := some (11, false) }) (v := undef) rfl (by kernel_rfl) (by kernel_rfl) (by kernel_rfl) (fun _ _ _ h => h) (Or.inr ⟨by rfl, rfl⟩) hS0 ?_
          simp only [Act.put, List.setIfInBounds_toArray, List.set_cons_zero, List.set_cons_succ]
          refine wpAnyH_take (i := 14) (oi := { dst := some 31, op := .indexAddr 49 (.tmp 29) (.tmp 30), type := _, pos := _, after := _, guard := some (11, false) }) (v := undef) rfl (by kernel_rfl) (by kernel_rfl) (by kernel_rfl) (fun _ _ _ h => h) (Or.inr ⟨by rfl, rfl⟩) hS0 ?_
          simp only [Act.put, List.setIfInBounds_toArray, List.set_cons_zero, List.set_cons_succ]
          refine wpAnyH_take (i := 15) (oi := { dst := some 32, op := .fieldAddr 51 (.tmp 31) 1, type := _, pos := _, after := _, guard := some (11, false) }) (v := undef) rfl (by kernel_rfl) (by kernel_rfl) (by kernel_rfl) (fun _ _ _ h => h) (Or.inr ⟨by rfl, rfl⟩) hS0 ?_
          simp only [Act.put, List.setIfInBounds_toArray, List.set_cons_zero, List.set_cons_succ]
          refine wpAnyH_take (i := 16) (oi := { dst := some 33, op := .load 9 (.tmp 32), type := _, pos := _, after := _, guard := some (11, false) }) (v := undef) rfl (by kernel_rfl) (by kernel_rfl) (by kernel_rfl) (fun _ _ _ h => h) (Or.inr ⟨by rfl, rfl⟩) hS0 ?_
          simp only [Act.put, List.setIfInBounds_toArray, List.set_cons_zero, List.set_cons_succ]
          refine wpAnyH_take (i := 17) (oi := { dst := some 34, op := .move (.tmp 1), type := _, pos := _, after := _, guard := some (11, false) }) (v := undef) rfl (by kernel_rfl) (by kernel_rfl) (by kernel_rfl) (fun _ _ _ h => h) (Or.inr ⟨by rfl, rfl⟩) hS0 ?_
          simp only [Act.put, List.setIfInBounds_toArray, List.set_cons_zero, List.set_cons_succ]
          refine wpAnyH_take (i := 18) (oi := { dst := some 35, op := .move (.tmp 5), type := _, pos := _, after := _, guard := some (11, false) }) (v := undef) rfl (by kernel_rfl) (by kernel_rfl) (by kernel_rfl) (fun _ _ _ h => h) (Or.inr ⟨by rfl, rfl⟩) hS0 ?_
          simp only [Act.put, List.setIfInBounds_toArray, List.set_cons_zero, List.set_cons_succ]
          refine wpAnyH_take (i := 19) (oi := { dst := some 36, op := .indexAddr 49 (.tmp 34) (.tmp 35), type := _, pos := _, after := _, guard := some (11, false) }) (v := undef) rfl (by kernel_rfl) (by kernel_rfl) (by kernel_rfl) (fun _ _ _ h => h) (Or.inr ⟨by rfl, rfl⟩) hS0 ?_
          simp only [Act.put, List.setIfInBounds_toArray, List.set_cons_zero, List.set_cons_succ]
          refine wpAnyH_take (i := 20) (oi := { dst := some 37, op := .fieldAddr 51 (.tmp 36) 1, type := _, pos := _, after := _, guard := some (11, false) }) (v := undef) rfl (by kernel_rfl) (by kernel_rfl) (by kernel_rfl) (fun _ _ _ h => h) (Or.inr ⟨by rfl, rfl⟩) hS0 ?_
          simp only [Act.put, List.setIfInBounds_toArray, List.set_cons_zero, List.set_cons_succ]
          refine wpAnyH_take (i := 21) (oi := { dst := some 38, op := .load 9 (.tmp 37), type := _, pos := _, after := _, guard := some (11, false) }) (v := undef) rfl (by kernel_rfl) (by kernel_rfl) (by kernel_rfl) (fun _ _ _ h => h) (Or.inr ⟨by rfl, rfl⟩) hS0 ?_
          simp only [Act.put, List.setIfInBounds_toArray, List.set_cons_zero, List.set_cons_succ]
          refine wpAnyH_take (i := 22) (oi := { dst := some 39, op := .binOp .neq 9 (.tmp 33) (.tmp 38) 9, type := _, pos := _, after := _, guard := some (11, false) }) (v := undef) rfl (by kernel_rfl) (by kernel_rfl) (by kernel_rfl) (fun _ _ _ h => h) (Or.inr ⟨by rfl, rfl⟩) hS0 ?_
          simp only [Act.put, List.setIfInBounds_toArray, List.set_cons_zero, List.set_cons_succ]
          refine wpAnyH_take (i := 23) (oi := { dst := some 40, op := .pick (.tmp 28) (.const (.bool true)) (.tmp 39), type := _, pos := _, after := _, guard := none }) (v := .bool true) rfl (by kernel_rfl) (by kernel_rfl) (by kernel_rfl) (fun _ _ _ h => h) (Or.inl ⟨by rfl, ?_⟩) hS0 ?_
          · intro w hSw
            go_simp
          simp only [Act.put, List.setIfInBounds_toArray, List.set_cons_zero, List.set_cons_succ]
          refine wpAnyH_take (i := 24) (oi := { dst := some 41, op := .move (.tmp 40), type := _, pos := _, after := _, guard := none }) (v := .bool true) rfl (by kernel_rfl) (by kernel_rfl) (by kernel_rfl) (fun _ _ _ h => h) (Or.inl ⟨by rfl, ?_⟩) hS0 ?_
          · intro w hSw
            go_simp
          simp only [Act.put, List.setIfInBounds_toArray, List.set_cons_zero, List.set_cons_succ]
          refine wpAnyH_take (i := 25) (oi := { dst := some 42, op := .move (.tmp 0), type := _, pos := _, after := _, guard := some (24, false) }) (v := undef) rfl (by kernel_rfl) (by kernel_rfl) (by kernel_rfl) (fun _ _ _ h => h) (Or.inr ⟨by rfl, rfl⟩) hS0 ?_
          simp only [Act.put, List.setIfInBounds_toArray, List.set_cons_zero, List.set_cons_succ]
          refine wpAnyH_take (i := 26) (oi := { dst := some 43, op := .move (.tmp 5), type := _, pos := _, after := _, guard := some (24, false) }) (v := undef) rfl (by kernel_rfl) (by kernel_rfl) (by kernel_rfl) (fun _ _ _ h => h) (Or.inr ⟨by rfl, rfl⟩) hS0 ?_
          simp only [Act.put, List.setIfInBounds_toArray, List.set_cons_zero, List.set_cons_succ]
          refine wpAnyH_take (i := 27) (oi := { dst := some 44, op := .indexAddr 49 (.tmp 42) (.tmp 43), type := _, pos := _, after := _, guard := some (24, false) }) (v := undef) rfl (by kernel_rfl) (by kernel_rfl) (by kernel_rfl) (fun _ _ _ h => h) (Or.inr ⟨by rfl, rfl⟩) hS0 ?_
          simp only [Act.put, List.setIfInBounds_toArray, List.set_cons_zero, List.set_cons_succ]
          refine wpAnyH_take (i := 28) (oi := { dst := some 45, op := .fieldAddr 51 (.tmp 44) 2, type := _, pos := _, after := _, guard := some (24, false) }) (v := undef) rfl (by kernel_rfl) (by kernel_rfl) (by kernel_rfl) (fun _ _ _ h => h) (Or.inr ⟨by rfl, rfl⟩) hS0 ?_
          simp only [Act.put, List.setIfInBounds_toArray, List.set_cons_zero, List.set_cons_succ]
          refine wpAnyH_take (i := 29) (oi := { dst := some 46, op := .load 43 (.tmp 45), type := _, pos := _, after := _, guard := some (24, false) }) (v := undef) rfl (by kernel_rfl) (by kernel_rfl) (by kernel_rfl) (fun _ _ _ h => h) (Or.inr ⟨by rfl, rfl⟩) hS0 ?_
          simp only [Act.put, List.setIfInBounds_toArray, List.set_cons_zero, List.set_cons_succ]
          refine wpAnyH_take (i := 30) (oi := { dst := some 47, op := .move (.tmp 1), type := _, pos := _, after := _, guard := some (24, false) }) (v := undef) rfl (by kernel_rfl) (by kernel_rfl) (by kernel_rfl) (fun _ _ _ h => h) (Or.inr ⟨by rfl, rfl⟩) hS0 ?_
          simp only [Act.put, List.setIfInBounds_toArray, List.set_cons_zero, List.set_cons_succ]
          refine wpAnyH_take (i := 31) (oi := { dst := some 48, op := .move (.tmp 5), type := _, pos := _, after := _, guard := some (24, false) }) (v := undef) rfl (by kernel_rfl) (by kernel_rfl) (by kernel_rfl) (fun _ _ _ h => h) (Or.inr ⟨by rfl, rfl⟩) hS0 ?_
          simp only [Act.put, List.setIfInBounds_toArray, List.set_cons_zero, List.set_cons_succ]
          refine wpAnyH_take (i := 32) (oi := { dst := some 49, op := .indexAddr 49 (.tmp 47) (.tmp 48), type := _, pos := _, after := _, guard := some (24, false) }) (v := undef) rfl (by kernel_rfl) (by kernel_rfl) (by kernel_rfl) (fun _ _ _ h => h) (Or.inr ⟨by rfl, rfl⟩) hS0 ?_
          simp only [Act.put, List.setIfInBounds_toArray, List.set_cons_zero, List.set_cons_succ]
          refine wpAnyH_take (i := 33) (oi := { dst := some 50, op := .fieldAddr 51 (.tmp 49) 2, type := _, pos := _, after := _, guard := some (24, false) }) (v := undef) rfl (by kernel_rfl) (by kernel_rfl) (by kernel_rfl) (fun _ _ _ h => h) (Or.inr ⟨by rfl, rfl⟩) hS0 ?_
          simp only [Act.put, List.setIfInBounds_toArray, List.set_cons_zero, List.set_cons_succ]
          refine wpAnyH_take (i := 34) (oi := { dst := some 51, op := .load 43 (.tmp 50), type := _, pos := _, after := _, guard := some (24, false) }) (v := undef) rfl (by kernel_rfl) (by kernel_rfl) (by kernel_rfl) (fun _ _ _ h => h) (Or.inr ⟨by rfl, rfl⟩) hS0 ?_
          simp only [Act.put, List.setIfInBounds_toArray, List.set_cons_zero, List.set_cons_succ]
          refine wpAnyH_take (i := 35) (oi := { dst := some 52, op := .call { callee := .value (.func 15), args := #[.tmp 46, .tmp 51], argTypes := #[43, 43] }, type := _, pos := _, after := _, guard := some (24, false) }) (v := undef) rfl (by kernel_rfl) (by kernel_rfl) (by kernel_rfl) (fun _ _ _ h => h) (Or.inr ⟨by rfl, rfl⟩) hS0 ?_
          simp only [Act.put, List.setIfInBounds_toArray, List.set_cons_zero, List.set_cons_succ]
          refine wpAnyH_take (i := 36) (oi := { dst := some 53, op := .unOp .not 4 (.tmp 52), type := _, pos := _, after := _, guard := some (24, false) }) (v := undef) rfl (by kernel_rfl) (by kernel_rfl) (by kernel_rfl) (fun _ _ _ h => h) (Or.inr ⟨by rfl, rfl⟩) hS0 ?_
          simp only [Act.put, List.setIfInBounds_toArray, List.set_cons_zero, List.set_cons_succ]
          refine wpAnyH_take (i := 37) (oi := { dst := some 54, op := .pick (.tmp 41) (.const (.bool true)) (.tmp 53), type := _, pos := _, after := _, guard := none }) (v := .bool true) rfl (by kernel_rfl) (by kernel_rfl) (by kernel_rfl) (fun _ _ _ h => h) (Or.inl ⟨by rfl, ?_⟩) hS0 ?_
          · intro w hSw
            go_simp
          simp only [Act.put, List.setIfInBounds_toArray, List.set_cons_zero, List.set_cons_succ]
          refine wpAnyH_take (i := 38) (oi := { dst := some 55, op := .move (.tmp 54), type := _, pos := _, after := _, guard := none }) (v := .bool true) rfl (by kernel_rfl) (by kernel_rfl) (by kernel_rfl) (fun _ _ _ h => h) (Or.inl ⟨by rfl, ?_⟩) hS0 ?_
          · intro w hSw
            go_simp
          simp only [Act.put, List.setIfInBounds_toArray, List.set_cons_zero, List.set_cons_succ]
          refine wpAnyH_take (i := 39) (oi := { dst := some 56, op := .move (.tmp 0), type := _, pos := _, after := _, guard := some (38, false) }) (v := undef) rfl (by kernel_rfl) (by kernel_rfl) (by kernel_rfl) (fun _ _ _ h => h) (Or.inr ⟨by rfl, rfl⟩) hS0 ?_
          simp only [Act.put, List.setIfInBounds_toArray, List.set_cons_zero, List.set_cons_succ]
          refine wpAnyH_take (i := 40) (oi := { dst := some 57, op := .move (.tmp 5), type := _, pos := _, after := _, guard := some (38, false) }) (v := undef) rfl (by kernel_rfl) (by kernel_rfl) (by kernel_rfl) (fun _ _ _ h => h) (Or.inr ⟨by rfl, rfl⟩) hS0 ?_
          simp only [Act.put, List.setIfInBounds_toArray, List.set_cons_zero, List.set_cons_succ]
          refine wpAnyH_take (i := 41) (oi := { dst := some 58, op := .indexAddr 49 (.tmp 56) (.tmp 57), type := _, pos := _, after := _, guard := some (38, false) }) (v := undef) rfl (by kernel_rfl) (by kernel_rfl) (by kernel_rfl) (fun _ _ _ h => h) (Or.inr ⟨by rfl, rfl⟩) hS0 ?_
          simp only [Act.put, List.setIfInBounds_toArray, List.set_cons_zero, List.set_cons_succ]
          refine wpAnyH_take (i := 42) (oi := { dst := some 59, op := .fieldAddr 51 (.tmp 58) 3, type := _, pos := _, after := _, guard := some (38, false) }) (v := undef) rfl (by kernel_rfl) (by kernel_rfl) (by kernel_rfl) (fun _ _ _ h => h) (Or.inr ⟨by rfl, rfl⟩) hS0 ?_
          simp only [Act.put, List.setIfInBounds_toArray, List.set_cons_zero, List.set_cons_succ]
          refine wpAnyH_take (i := 43) (oi := { dst := some 60, op := .load 49 (.tmp 59), type := _, pos := _, after := _, guard := some (38, false) }) (v := undef) rfl (by kernel_rfl) (by kernel_rfl) (by kernel_rfl) (fun _ _ _ h => h) (Or.inr ⟨by rfl, rfl⟩) hS0 ?_
          simp only [Act.put, List.setIfInBounds_toArray, List.set_cons_zero, List.set_cons_succ]
          refine wpAnyH_take (i := 44) (oi := { dst := some 61, op := .move (.tmp 1), type := _, pos := _, after := _, guard := some (38, false) }) (v := undef) rfl (by kernel_rfl) (by kernel_rfl) (by kernel_rfl) (fun _ _ _ h => h) (Or.inr ⟨by rfl, rfl⟩) hS0 ?_
          simp only [Act.put, List.setIfInBounds_toArray, List.set_cons_zero, List.set_cons_succ]
          refine wpAnyH_take (i := 45) (oi := { dst := some 62, op := .move (.tmp 5), type := _, pos := _, after := _, guard := some (38, false) }) (v := undef) rfl (by kernel_rfl) (by kernel_rfl) (by kernel_rfl) (fun _ _ _ h => h) (Or.inr ⟨by rfl, rfl⟩) hS0 ?_
          simp only [Act.put, List.setIfInBounds_toArray, List.set_cons_zero, List.set_cons_succ]
          refine wpAnyH_take (i := 46) (oi := { dst := some 63, op := .indexAddr 49 (.tmp 61) (.tmp 62), type := _, pos := _, after := _, guard := some (38, false) }) (v := undef) rfl (by kernel_rfl) (by kernel_rfl) (by kernel_rfl) (fun _ _ _ h => h) (Or.inr ⟨by rfl, rfl⟩) hS0 ?_
          simp only [Act.put, List.setIfInBounds_toArray, List.set_cons_zero, List.set_cons_succ]
          refine wpAnyH_take (i := 47) (oi := { dst := some 64, op := .fieldAddr 51 (.tmp 63) 3, type := _, pos := _, after := _, guard := some (38, false) }) (v := undef) rfl (by kernel_rfl) (by kernel_rfl) (by kernel_rfl) (fun _ _ _ h => h) (Or.inr ⟨by rfl, rfl⟩) hS0 ?_
          simp only [Act.put, List.setIfInBounds_toArray, List.set_cons_zero, List.set_cons_succ]
          refine wpAnyH_take (i := 48) (oi := { dst := some 65, op := .load 49 (.tmp 64), type := _, pos := _, after := _, guard := some (38, false) }) (v := undef) rfl (by kernel_rfl) (by kernel_rfl) (by kernel_rfl) (fun _ _ _ h => h) (Or.inr ⟨by rfl, rfl⟩) hS0 ?_
          simp only [Act.put, List.setIfInBounds_toArray, List.set_cons_zero, List.set_cons_succ]
          refine wpAnyH_take (i := 49) (oi := { dst := some 66, op := .call { callee := .value (.func 33), args := #[.tmp 60, .tmp 65], argTypes := #[49, 49] }, type := _, pos := _, after := _, guard := some (38, false) }) (v := undef) rfl (by kernel_rfl) (by kernel_rfl) (by kernel_rfl) (fun _ _ _ h => h) (Or.inr ⟨by rfl, rfl⟩) hS0 ?_
          simp only [Act.put, List.setIfInBounds_toArray, List.set_cons_zero, List.set_cons_succ]
          refine wpAnyH_take (i := 50) (oi := { dst := some 67, op := .unOp .not 4 (.tmp 66), type := _, pos := _, after := _, guard := some (38, false) }) (v := undef) rfl (by kernel_rfl) (by kernel_rfl) (by kernel_rfl) (fun _ _ _ h => h) (Or.inr ⟨by rfl, rfl⟩) hS0 ?_
          simp only [Act.put, List.setIfInBounds_toArray, List.set_cons_zero, List.set_cons_succ]
          refine wpAnyH_take (i := 51) (oi := { dst := some 68, op := .pick (.tmp 55) (.const (.bool true)) (.tmp 67), type := _, pos := _, after := _, guard := none }) (v := .bool true) rfl (by kernel_rfl) (by kernel_rfl) (by kernel_rfl) (fun _ _ _ h => h) (Or.inl ⟨by rfl, ?_⟩) hS0 ?_
          · intro w hSw
            go_simp
          simp only [Act.put, List.setIfInBounds_toArray, List.set_cons_zero, List.set_cons_succ]
          refine wpAnyH_take (i := 52) (oi := { dst := some 69, op := .move (.tmp 68), type := _, pos := _, after := _, guard := none }) (v := .bool true) rfl (by kernel_rfl) (by kernel_rfl) (by kernel_rfl) (fun _ _ _ h => h) (Or.inl ⟨by rfl, ?_⟩) hS0 ?_
          · intro w hSw
            go_simp
          simp only [Act.put, List.setIfInBounds_toArray, List.set_cons_zero, List.set_cons_succ]
          refine wpAnyH_take (i := 53) (oi := { dst := some 70, op := .move (.tmp 0), type := _, pos := _, after := _, guard := some (52, false) }) (v := undef) rfl (by kernel_rfl) (by kernel_rfl) (by kernel_rfl) (fun _ _ _ h => h) (Or.inr ⟨by rfl, rfl⟩) hS0 ?_
          simp only [Act.put, List.setIfInBounds_toArray, List.set_cons_zero, List.set_cons_succ]
          refine wpAnyH_take (i := 54) (oi := { dst := some 71, op := .move (.tmp 5), type := _, pos := _, after := _, guard := some (52, false) }) (v := undef) rfl (by kernel_rfl) (by kernel_rfl) (by kernel_rfl) (fun _ _ _ h => h) (Or.inr ⟨by rfl, rfl⟩) hS0 ?_
          simp only [Act.put, List.setIfInBounds_toArray, List.set_cons_zero, List.set_cons_succ]
          refine wpAnyH_take (i := 55) (oi := { dst := some 72, op := .indexAddr 49 (.tmp 70) (.tmp 71), type := _, pos := _, after := _, guard := some (52, false) }) (v := undef) rfl (by kernel_rfl) (by kernel_rfl) (by kernel_rfl) (fun _ _ _ h => h) (Or.inr ⟨by rfl, rfl⟩) hS0 ?_
          simp only [Act.put, List.setIfInBounds_toArray, List.set_cons_zero, List.set_cons_succ]
          refine wpAnyH_take (i := 56) (oi := { dst := some 73, op := .fieldAddr 51 (.tmp 72) 4, type := _, pos := _, after := _, guard := some (52, false) }) (v := undef) rfl (by kernel_rfl) (by kernel_rfl) (by kernel_rfl) (fun _ _ _ h => h) (Or.inr ⟨by rfl, rfl⟩) hS0 ?_
          simp only [Act.put, List.setIfInBounds_toArray, List.set_cons_zero, List.set_cons_succ]
          refine wpAnyH_take (i := 57) (oi := { dst := some 74, op := .load 49 (.tmp 73), type := _, pos := _, after := _, guard := some (52, false) }) (v := undef) rfl (by kernel_rfl) (by kernel_rfl) (by kernel_rfl) (fun _ _ _ h => h) (Or.inr ⟨by rfl, rfl⟩) hS0 ?_
          simp only [Act.put, List.setIfInBounds_toArray, List.set_cons_zero, List.set_cons_succ]
          refine wpAnyH_take (i := 58) (oi := { dst := some 75, op := .move (.tmp 1), type := _, pos := _, after := _, guard := some (52, false) }) (v := undef) rfl (by kernel_rfl) (by kernel_rfl) (by kernel_rfl) (fun _ _ _ h => h) (Or.inr ⟨by rfl, rfl⟩) hS0 ?_
          simp only [Act.put, List.setIfInBounds_toArray, List.set_cons_zero, List.set_cons_succ]
          refine wpAnyH_take (i := 59) (oi := { dst := some 76, op := .move (.tmp 5), type := _, pos := _, after := _, guard := some (52, false) }) (v := undef) rfl (by kernel_rfl) (by kernel_rfl) (by kernel_rfl) (fun _ _ _ h => h) (Or.inr ⟨by rfl, rfl⟩) hS0 ?_
          simp only [Act.put, List.setIfInBounds_toArray, List.set_cons_zero, List.set_cons_succ]
          refine wpAnyH_take (i := 60) (oi := { dst := some 77, op := .indexAddr 49 (.tmp 75) (.tmp 76), type := _, pos := _, after := _, guard := some (52, false) }) (v := undef) rfl (by kernel_rfl) (by kernel_rfl) (by kernel_rfl) (fun _ _ _ h => h) (Or.inr ⟨by rfl, rfl⟩) hS0 ?_
          simp only [Act.put, List.setIfInBounds_toArray, List.set_cons_zero, List.set_cons_succ]
          refine wpAnyH_take (i := 61) (oi := { dst := some 78, op := .fieldAddr 51 (.tmp 77) 4, type := _, pos := _, after := _, guard := some (52, false) }) (v := undef) rfl (by kernel_rfl) (by kernel_rfl) (by kernel_rfl) (fun _ _ _ h => h) (Or.inr ⟨by rfl, rfl⟩) hS0 ?_
          simp only [Act.put, List.setIfInBounds_toArray, List.set_cons_zero, List.set_cons_succ]
          refine wpAnyH_take (i := 62) (oi := { dst := some 79, op := .load 49 (.tmp 78), type := _, pos := _, after := _, guard := some (52, false) }) (v := undef) rfl (by kernel_rfl) (by kernel_rfl) (by kernel_rfl) (fun _ _ _ h => h) (Or.inr ⟨by rfl, rfl⟩) hS0 ?_
          simp only [Act.put, List.setIfInBounds_toArray, List.set_cons_zero, List.set_cons_succ]
          refine wpAnyH_take (i := 63) (oi := { dst := some 80, op := .call { callee := .value (.func 33), args := #[.tmp 74, .tmp 79], argTypes := #[49, 49] }, type := _, pos := _, after := _, guard := some (52, false) }) (v := undef) rfl (by kernel_rfl) (by kernel_rfl) (by kernel_rfl) (fun _ _ _ h => h) (Or.inr ⟨by rfl, rfl⟩) hS0 ?_
          simp only [Act.put, List.setIfInBounds_toArray, List.set_cons_zero, List.set_cons_succ]
          refine wpAnyH_take (i := 64) (oi := { dst := some 81, op := .unOp .not 4 (.tmp 80), type := _, pos := _, after := _, guard := some (52, false) }) (v := undef) rfl (by kernel_rfl) (by kernel_rfl) (by kernel_rfl) (fun _ _ _ h => h) (Or.inr ⟨by rfl, rfl⟩) hS0 ?_
          simp only [Act.put, List.setIfInBounds_toArray, List.set_cons_zero, List.set_cons_succ]
          refine wpAnyH_take (i := 65) (oi := { dst := some 82, op := .pick (.tmp 69) (.const (.bool true)) (.tmp 81), type := _, pos := _, after := _, guard := none }) (v := .bool true) rfl (by kernel_rfl) (by kernel_rfl) (by kernel_rfl) (fun _ _ _ h => h) (Or.inl ⟨by rfl, ?_⟩) hS0 ?_
          · intro w hSw
            go_simp
          simp only [Act.put, List.setIfInBounds_toArray, List.set_cons_zero, List.set_cons_succ]
          refine wpAnyH_done (by kernel_rfl) ?_ _
          go_wp2
          go_ret
          exact ⟨by rw [hRf.out (by first | (rw [hZ2.out]; done) | (rw [hZ2.out]; simp))]; rfl, hbw.trans (hB0.mono hbw.size)⟩
      · have hin : i = n := by omega
        have hRt : R = true := by
          rw [hR.out, samSL_iff, List.length_map, List.length_map, ← hn.out, ← hn'.out]
          refine ⟨rfl, fun q u v hu hv => hall q u v ?_ hu hv⟩
          have := (List.getElem?_eq_some_iff.1 hu).1
          rw [List.length_map, ← hn.out] at this
          omega
        clear hX hall hin HR HS
        go_wp2
        go_ret
        exact ⟨by rw [hRt]; rfl, hbw⟩
  · have hne : ((n : Int) == (n' : Int)) = false := by rw [beq_eq_false_iff_ne]; omega
    have hRf : R = false := by
      rw [hR.out, Bool.eq_false_iff]
      intro h
      have := (samSL_iff _ _).1 h
      rw [List.length_map, List.length_map, ← hn.out, ← hn'.out] at this
      exact hnn this.1
    clear hnn
    go_enter Tryz.func33, Tryz.ntmps33
    go_wp2_with fail
    go_ret
    exact ⟨by rw [hRf]; rfl, Below.refl _ _⟩

end Go.Proofs.YtjgggmjjikopeaaGreatDoor
