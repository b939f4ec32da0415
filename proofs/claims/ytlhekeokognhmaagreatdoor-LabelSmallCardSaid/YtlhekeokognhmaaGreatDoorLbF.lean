/-
  What sorted makes of a map.
-/
import Derived.Test.YtlhekeokognhmaaGreatDoorMgah
namespace Go.Proofs.YtlhekeokognhmaaGreatDoor
open Go.RowKit Go.Shelf Go.Maps Go.Sort
theorem wpList_lookup_own_str {P : Program} (w : World) {ops : Array Oper} {rest : List Oper} {o : Oper} {a : Act} {Q : Exit → Act → World → Prop}
    (hg : o.guard = none) (m x : Operand) (t : TypeId) (hop : o.op = Op.lookup t m x false)
    (k e : TypeId) (K : Keyed P k) (ht : P.underlying t = some (.map k e)) (he : P.underlying e = some .string) (hz : (zeroValue e).run P w = .ok (.string ⟨#[]⟩) w) (b n : Nat) (D : DataW H0)
    (hm : a.eval m = .map (some b)) (hown : w.ownsMap P k (plainElem P e) b n D) (key : Value) (kl : Lit) (hx : a.eval x = key) (hkey : keyOf P k key = some kl)
    (hK : ∀ s : ByteArray, D.atKey kl (.lit (.string [])) = .lit (.string s.data.toList) → wpList P ops Q rest (a.put o.dst (.string s)) w) :
    wpList P ops Q (o :: rest) a w := by
  refine wpList_plain hg fun K' hK' => ?_
  obtain ⟨v, ps, hrun, hv⟩ := hown.lookup K ht hz (plainElem_string he (s := ⟨#[]⟩) (Nat.zero_le _)) hkey
  obtain ⟨s, rfl, hc, _⟩ := _root_.Go.plainElem_string_inv he hv
  simp only [Prod.mk.injEq] at hc
  unfold Oper.wp
  simp [execOp, hop, hm, hx, hrun, Result.andThen]
  exact hK' _ _ (hK s hc.1)
section
variable {w w' : World} {base b2 n n2 : Nat} {e e2 : TypeId} {size size2 : Nat} {v v2 : Value} {xs xs2 : List Value}
/-- Rows of two types lie apart. -/
theorem own_apart (h : w.ownsRow base e size v n xs) (h2 : w.ownsRow b2 e2 size2 v2 n2 xs2) (hne : e ≠ e2) : v.ownBlock = none ∨ v.ownBlock ≠ v2.ownBlock := by
  rcases h.2 with ⟨rfl, _⟩ | ⟨g, cap, cur, rfl, _, hg, _⟩
  · exact .inl rfl
  · refine .inr fun eq => ?_
    rcases h2.2 with ⟨rfl, _⟩ | ⟨g2, cap2, cur2, rfl, _, hg2, _⟩
    · simp [Value.ownBlock] at eq
    · have eq : g = g2 := by simpa [Value.ownBlock] using eq
      rw [eq, hg2] at hg
      injection hg with hg
      injection hg with _ hg
      exact hne hg.symm
theorem own_map_apart {P : Program} {k : TypeId} {R : Value → Option (DataW H0 × List MemPlace)} {b m : Nat} {D : DataW H0} (h : w.ownsRow base e size v n xs) (hm : w.ownsMap P k R b m D) : some b ≠ v.ownBlock := by
  intro eq
  obtain ⟨es, clock, hb, _⟩ := hm
  rcases h.2 with ⟨rfl, _⟩ | ⟨g, cap, cur, rfl, _, hg, _⟩
  · simp [Value.ownBlock] at eq
  · have eq : b = g := by simpa [Value.ownBlock] using eq
    rw [eq, hg] at hb
    cases hb
theorem own_rd (h : w.ownsRow base e size v n xs) : ∃ A c, v = .slice A n c ∧ n ≤ c ∧ Rd w w.heap.size A (n * size) xs := by
  rcases h.2 with ⟨rfl, rfl⟩ | ⟨g, cap, cur, rfl, _, hg, hc, _⟩
  · have := h.1
    refine ⟨none, 0, rfl, Nat.le_refl _, by rw [h.1], fun h0 => by omega⟩
  · exact ⟨_, cap, rfl, hc, by rw [h.1], fun _ => ⟨_, rfl, heap_lt hg, h.cells (g := g) rfl⟩⟩
end
theorem labs_snoc (L : List Lab) (x : Lab) : labs (L ++ [x]) = labs L ++ [.string x.1, .string x.2] := by rw [labs_app]; rfl
set_option maxRecDepth 100000 in
set_option maxHeartbeats 2000000 in
theorem sorted_any (b n : Nat) (D : DataW H0) (m : List Lb) (w : World) (hown : w.ownsMap Tryz.prog 9 PE b n D) (hD : MapIs D (find m)) (hs : Srt m) (hsm : ∀ x ∈ m, x.1.length ≤ 1000 ∧ x.2.length ≤ 1024) (hm : m.length ≤ 1000000) :
    Calls Tryz.prog 63 #[.map (some b)] w fun e w' => ((64 < m.length ∧ e = .returned (.tuple #[.slice none 0 0, .int .i64 5])) ∨ (m.length ≤ 64 ∧ ∃ v, e = .returned (.tuple #[v, .int .i64 0]) ∧ w'.ownsRow w.heap.size 33 2 v m.length (labs (m.map bl)))) ∧ Kept w w' := by
  have hkp := keys_of hown hD hs
  have hsz : Maps.size D = m.length := keys_size hD.1 hkp
  have HO := Lib.hid hown
  have HD := Lib.hid hD
  have HS := Lib.hid hs
  have HM := Lib.hid hsm
  have HK := Lib.hid hkp
  obtain ⟨nm, hnm⟩ : ∃ k, k = m.length := ⟨_, rfl⟩
  have Hnm := Lib.hid hnm
  have HZ := Lib.hid hsz
  rw [← hnm] at hsz hm ⊢
  obtain ⟨i0, hi0, hz0, hz1, hz2⟩ := info_parts infoLab
  clear hown hD hs hsm hkp hnm hsz
  by_cases h64 : 64 < nm
  · have h64' : (64 : Int) < (nm : Int) := by omega
    have hlen : ((Maps.size D : Nat) : Int) = (nm : Int) := by rw [HZ.out, Hnm.out]
    go_enter Tryz.func63, Tryz.ntmps63
    go_wp2_with (at_len; refine wpList_len_own _ rfl _ 95 rfl 9 9 Tryz.underlying95 PE b n D rfl HO.out ?_; rw [hlen])
    go_ret2
    exact ⟨.inl ⟨h64, rfl⟩, Below.refl _ _⟩
  · have h64' : ¬ (64 : Int) < (nm : Int) := by omega
    have hlen : ((Maps.size D : Nat) : Int) = (nm : Int) := by rw [HZ.out, Hnm.out]
    have hb0 := Below.refl w.heap.size w
    go_enter Tryz.func63, Tryz.ntmps63
    go_upto_region 4 with (first
      | (at_len; refine wpList_len_own _ rfl _ 95 rfl 9 9 Tryz.underlying95 PE b n D rfl HO.out ?_; rw [hlen])
      | (refine wpList_make_own _ rfl _ _ 28 rfl w.heap.size 33 i0 _ 2 Tryz.underlying28 hi0 hz0 hz1 .i64 .i64 _ nm rfl rfl rfl (by rw [hz2]; omega) (by unfold maxLen; omega) (Nat.le_refl _) ?_; intro w1 hown1 hg1; have Hown1 := Lib.hid hown1; have HK1 : Hid (Kept w w1) := (hb0.grown hg1 (Nat.le_refl _) (fun j e => by cases e)); clear hown1 hg1))
    have hown1' := HO.out.kept (grown_of_below HK1.out) (by simp)
    have HO1 := Lib.hid hown1'
    have CS : Hid (Calls Tryz.prog 97 #[.func (.func 113) #[] #[.pointer (some ⟨w1.heap.size, 0, none⟩)]] (w1.alloc (.cells #[.map (some b)] 95)) fun e w' => ∃ (Ak : Option Addr) (ck : Nat), e = .returned (.slice Ak nm ck) ∧
        w'.ownsRow (w1.alloc (.cells #[.map (some b)] 95)).heap.size 9 1 (.slice Ak nm ck) nm ((m.map (·.1)).map encStr) ∧ Kept (w1.alloc (.cells #[.map (some b)] 95)) w') := by
      refine (sortedKeys_any b n D PE w1 hown1' (by rw [HZ.out, ← Hnm.out]; unfold maxLen; omega) (by rw [HZ.out, ← Hnm.out]; omega)).mono ?_
      rintro e w3 ⟨vk, ss, rfl, hss, hrow, hnil, hk3⟩
      have hl : ss.length = nm := by rw [hss.length_eq, ← HK.out.length_eq, List.length_map]; exact Hnm.out.symm
      rw [hl, keys_sorted HS.out (hss.trans HK.out.symm)] at hrow
      obtain ⟨Ak, ck, rfl, hck⟩ := own_slice hrow
      exact ⟨Ak, ck, rfl, hrow, hk3⟩
    have K12 : Hid (Kept w1 (w1.alloc (.cells #[.map (some b)] 95))) := (Below.refl _ w1).alloc (Nat.le_refl _) _
    clear hown1'
    go_upto_region 5 with (first
      | (go_at_call 98; refine (keys_any _ _).mono ?_; rintro e w2 ⟨rfl, rfl⟩)
      | (go_at_call 97; refine CS.out.mono ?_; rintro e w3 ⟨Ak, ck, rfl, hrow, hk3⟩; have Hrow := Lib.hid hrow; have HK3 := Lib.hid (below_kept K12.out hk3); clear hrow hk3))
    have HRk : Hid (Rd w3 w3.heap.size Ak nm ((m.map (·.1)).map encStr)) := Rd.of_own Hrow.out
    have HO3 : Hid (w3.ownsMap Tryz.prog 9 PE b n D) := HO1.out.kept (grown_of_below HK3.out) (by simp)
    have Hown3 := Lib.hid (own_below Hown1.out HK3.out)
    have HK13 := Lib.hid (below_kept HK1.out HK3.out)
    have hge := Below.size HK1.out
    clear HK3 HO1 Hown1 HK1 CS K12 hb0
    go_loopw [4, 17] (fun v4 v17 wr => ∃ k : Nat, k ≤ nm ∧ v17 = .int .i64 k ∧ Hid (Kept w wr) ∧ Hid (wr.ownsMap Tryz.prog 9 PE b n D) ∧ Hid (wr.ownsRow w.heap.size 33 2 v4 k (labs ((m.take k).map bl))) ∧ Hid (∃ bs, wr.ownsRow bs 9 1 (.slice Ak nm ck) nm ((m.map (·.1)).map encStr))) (fun _ v17 _ => nm - (intOf v17).toNat)
    case atStart => exact ⟨0, by omega, rfl, HK13, HO3, Hown3, ⟨_, Hrow.out⟩⟩
    case round =>
      obtain ⟨k, hk, rfl, hkr, hmap, hown, hkeys⟩ := hrel
      by_cases hkn : k < nm
      · obtain ⟨bs, hrowr⟩ := hkeys.out
        obtain ⟨x, hx, hxm, htk⟩ : ∃ x, m[k]? = some x ∧ x ∈ m ∧ m.take (k + 1) = m.take k ++ [x] := by
          have hl : k < m.length := by rw [← Hnm.out]; exact hkn
          exact ⟨m[k], List.getElem?_eq_getElem hl, List.getElem_mem hl, by rw [List.take_add_one, List.getElem?_eq_getElem hl]; rfl⟩
        obtain ⟨gk, cap, he, _, hgk⟩ := hrowr.form (by omega)
        injection he with he1 _ he3
        subst he1 he3
        have hcell : wr.cell? ⟨gk, k, none⟩ = some (encStr x.1) := by
          rw [hrowr.cellAt k (by omega), List.getElem?_map, List.getElem?_map, hx]
          rfl
        have hadd : (⟨gk, 0, none⟩ : Addr).add k = ⟨gk, k, none⟩ := add0 gk k
        obtain ⟨hx1, hx2⟩ := HM.out x hxm
        have hfx : find m x.1 = some x.2 := find_of_mem HS.out hxm
        have hat : D.atKey (.string x.1) (.lit (.string [])) = .lit (.string x.2) := by rw [(HD.out.2 x.1).2, hfx]
        obtain ⟨sa, hsa⟩ : ∃ s : ByteArray, s = ⟨x.1.toArray⟩ := ⟨_, rfl⟩
        obtain ⟨sb, hsb⟩ : ∃ s : ByteArray, s = ⟨x.2.toArray⟩ := ⟨_, rfl⟩
        have hsaz : sa.size = x.1.length := by rw [hsa]; rfl
        have hsbz : sb.size = x.2.length := by rw [hsb]; rfl
        have hkey : keyOf Tryz.prog 9 (.string sa) = some (.string x.1) := by
          rw [Go.WideMaps.keyOf_string_mk Tryz.underlying9 (by rw [hsaz]; unfold maxLen; omega), hsa]
        have hce : encStr x.1 = .string sa := by rw [hsa]
        rw [hce] at hcell
        have Hbl : Hid (labs ((m.take (k + 1)).map bl) = labs ((m.take k).map bl) ++ [.string sa, .string sb]) := by
          show _ = _
          rw [htk, List.map_append, List.map_cons, List.map_nil, labs_snoc, hsa, hsb]
        have HF := Lib.hid (fun W => fresh_any sa sb (by omega) (by omega) W)
        have Hat : Hid (∀ s : ByteArray, D.atKey (.string x.1) (.lit (.string [])) = .lit (.string s.data.toList) → s = sb) := fun s h => by
          rw [hat] at h
          have h : x.2 = s.data.toList := by injection h with h; injection h
          rw [hsb, h]
        have Hkey := Lib.hid hkey
        have Hrowr := Lib.hid hrowr
        clear hx hxm htk hx1 hx2 hfx hat hsa hsb hkey hce hrowr hgk hkeys hsaz hsbz
        have HKa : Hid (∀ w2, Kept wr w2 → Kept w w2) := fun w2 h => below_kept hkr.out h
        go_wp2_with (first
          | (at_lookup; refine wpList_lookup_own_str _ rfl _ _ 95 rfl 9 9 skey Tryz.underlying95 Tryz.underlying9 (zstr _) b n D rfl hmap.out _ _ rfl Hkey.out ?_; intro s hsx; obtain rfl := Hat.out s hsx; clear hsx)
          | (go_at_call 99; refine (HF.out _).mono ?_; rintro e w2 ⟨rfl, hk2⟩; have HK2 := Lib.hid hk2; clear hk2)
          | (at_builtin; refine wpList_append_own_at _ rfl _ _ 28 rfl w.heap.size 33 i0 _ 2 32 Tryz.underlying28 hi0 hz0 hz1 hz2 rfl (by decide) u4 k (labs ((m.take k).map bl)) rfl ((own_below hown.out HK2.out).alloc _) ⟨w2.heap.size, 0, none⟩ 1 1 [.string sa, .string s] rfl rfl (cells_new w2 [.string sa, .string s] 33) (by intro u hu; simp at hu; rcases hu with rfl | rfl <;> rfl) (by unfold maxLen; omega) (by omega) (by have := Below.size (HKa.out _ HK2.out); simp; omega) ?_; intro v5 w5 hown5 hg5 hn5 hl5; have Hown5 := Lib.hid hown5; have HG5 := Lib.hid hg5; clear hown5 hg5 hn5 hl5))
        have HA2 := Lib.hid ((own_below hown.out HK2.out).alloc (.cells #[.string sa, .string s] 33))
        have HM2 : Hid ((w2.alloc (.cells #[.string sa, .string s] 33)).ownsMap Tryz.prog 9 PE b n D) := (hmap.out.kept (grown_of_below HK2.out) (by simp)).alloc _
        have HR2 := Lib.hid ((own_below Hrowr.out HK2.out).alloc (.cells #[.string sa, .string s] 33))
        have HKw : Hid (Kept w (w2.alloc (.cells #[.string sa, .string s] 33))) := below_alloc0 (HKa.out _ HK2.out) _
        go_roundw
        case rel =>
          refine ⟨k + 1, by omega, by go_num, Below.grown HKw.out HG5.out (Below.size HKw.out) (fun j e => (HA2.out.lt j e).1), HM2.out.kept HG5.out (own_map_apart HA2.out HM2.out), by show World.ownsRow _ _ _ _ _ _ _; rw [Hbl.out]; exact Hown5.out, ⟨_, HR2.out.kept HG5.out ?_⟩⟩
          rcases own_apart HR2.out HA2.out (by decide) with h | h
          · exact .inl h
          · exact .inr h
        case measure => simp [intOf]; omega
      · obtain rfl : k = nm := by omega
        go_wp2_with fail
        go_ret2
        have e : m.take k = m := List.take_of_length_le (by rw [← Hnm.out]; exact Nat.le_refl _)
        have h1 := hown.out
        rw [e] at h1
        exact ⟨.inr ⟨by omega, _, rfl, h1⟩, hkr.out⟩
end Go.Proofs.YtlhekeokognhmaaGreatDoor
