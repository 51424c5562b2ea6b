/-
 A part of the proofs over this seat.
 (The texts KqK45 KqK46 KqK47 KqK48, one behind the other.)
-/
import Derived.Test.YtlmhadnbcmjaeaaGreatP11
set_option linter.unusedSimpArgs false
set_option linter.unusedVariables false
set_option linter.unusedSectionVars false
section
namespace Go.Ab.T
set_option maxRecDepth 8000
set_option maxHeartbeats 4000000
def OS (es : List AV) (sz : Nat) (v : AV) (bl : List Blk) : Prop := (es = [] ∧ v = .sl [] .tight) ∨ (es ≠ [] ∧ ∃ id, v = .ref id 0 es.length ∧ bl[id]? = some (.live es sz))
def idOf (v : AV) (i : Nat) : Prop := ∃ n, v = .ref i 0 n
theorem OS.app {es : List AV} {sz : Nat} {v : AV} {bl : List Blk} (h : OS es sz v bl) {x : AV} (hx : hdSz [x] sz = true) (T bytes : Nat) (hl : (es.length + 1) * (bytes + 1) ≤ limit) (tk : List (Nat × Nat)) :
  ∃ bl2, appendAt ⟨bl ++ [.live [x] sz], tk⟩ true v (.ref bl.length 0 1) T sz bytes = some (.ref (bl.length + 1) 0 (es.length + 1), ⟨bl2, tk⟩) ∧ bl2[bl.length + 1]? = some (.live (es ++ [x]) sz) ∧ bl2.length = bl.length + 2 ∧ ∀ i, i < bl.length → ¬idOf v i → bl2[i]? = bl[i]? := by
 have hel : Mem.elems ⟨bl ++ [.live [x] sz], tk⟩ (.ref bl.length 0 1) = some [x] := by
  rw [elems_ref, gA0, List.getElem?_cons_zero, elBlk_live]; rfl
 rcases h with ⟨rfl, rfl⟩ | ⟨hne, id, rfl, hid⟩
 ·refine ⟨bl ++ [.live [x] sz] ++ [.live [x] sz], ?_, ?_, by simp, fun i hi _ => by rw [List.append_assoc, List.getElem?_append_left hi]⟩
  ·simp only [appendAt, hel, hx]
   rw [if_neg (by decide), if_pos ⟨by simpa using hl, rfl⟩]
   simp [newBlk]
  ·rw [List.append_assoc]; exact gA bl _ 1
 ·have hlt : id < bl.length := (List.getElem?_eq_some_iff.1 hid).1
  have hpos : 0 < es.length := List.length_pos_iff.2 hne
  refine ⟨(bl ++ [Blk.live [x] sz]).set id Blk.dead ++ [Blk.live (es ++ [x]) sz], ?_, ?_, by simp, fun i hi hn => ?_⟩
  ·have hb : (bl ++ [Blk.live [x] sz])[id]? = some (.live es sz) := gB hid _
   simp only [appendAt, hel, hb, hx]
   simp only [List.length_singleton]
   rw [if_neg (by decide), if_neg (fun h => h rfl), if_neg (by omega), if_pos ⟨⟨t_, t_⟩, hl⟩]
   simp
  ·have hl2 : ((bl ++ [Blk.live [x] sz]).set id .dead).length = bl.length + 1 := by simp
   rw [← hl2]; exact gA0 _ _
  ·have hne' : id ≠ i := fun e => hn ⟨_, by rw [e]⟩
   rw [List.getElem?_append_left (by simp; omega), List.getElem?_set_ne hne', List.getElem?_append_left hi]
theorem OS.keep {es : List AV} {sz : Nat} {v : AV} {bl bl' : List Blk} (h : OS es sz v bl) (hk : ∀ i, i < bl.length → idOf v i → bl'[i]? = bl[i]?) : OS es sz v bl' := by
 rcases h with h | ⟨hne, id, e, hb⟩
 ·exact .inl h
 ·exact .inr ⟨hne, id, e, by rw [hk id (List.getElem?_eq_some_iff.1 hb).1 ⟨_, e⟩]; exact hb⟩
theorem OS.cells {es : List AV} {sz : Nat} {v : AV} {bl : List Blk} (h : OS es sz v bl) : v.cells = [v] ∧ v.solid = true := by
 rcases h with ⟨_, e⟩ | ⟨_, id, e, _⟩ <;> rw [e] <;> exact ⟨rfl, rfl⟩
theorem OS.lt {es : List AV} {sz : Nat} {v : AV} {bl : List Blk} (h : OS es sz v bl) {i : Nat} (hi : idOf v i) : i < bl.length ∧ bl[i]? = some (.live es sz) := by
 obtain ⟨n, e⟩ := hi
 rcases h with ⟨_, e'⟩ | ⟨_, id, e', hb⟩
 ·rw [e'] at e; cases e
 ·rw [e'] at e; cases e; exact ⟨(List.getElem?_eq_some_iff.1 hb).1, hb⟩
structure EH (fr : List (Nat × Blk)) (a : Nat) (rows : List Rw) (pcs : List Pc) (sn : List Int) (sv pv nv : AV) (bl : List Blk) : Prop where
 ha : bl[a]? = some (.live [.agg [sv, pv, nv, .sl [] .tight]] 4)
 hs : OS (rows.map refR) 1 sv bl
 hp : OS (pcs.map encPc) 4 pv bl
 hn : OS (iL sn) 1 nv bl
 hr : ∀ p ∈ rows, bl[p.1]? = some (.live (iL p.2) 1) ∧ ¬idOf sv p.1 ∧ ¬idOf nv p.1
 nd : (rows.map Prod.fst).Nodup
 dn : ∀ i, idOf sv i → ¬idOf nv i
 fr' : ∀ p ∈ fr, bl[p.1]? = some p.2 ∧ p.1 ≠ a ∧ ¬idOf sv p.1 ∧ ¬idOf pv p.1 ∧ ¬idOf nv p.1 ∧ ∀ q ∈ rows, q.1 ≠ p.1
 sa : ¬idOf sv a
 pa : ¬idOf pv a
 na : ¬idOf nv a
 ra : ∀ p ∈ rows, p.1 ≠ a
theorem EH.ext {fr : List (Nat × Blk)} {a : Nat} {rows : List Rw} {pcs : List Pc} {sn : List Int} {sv pv nv : AV} {bl : List Blk} (h : EH fr a rows pcs sn sv pv nv bl) (l : List Blk) : EH fr a rows pcs sn sv pv nv (bl ++ l) :=
 ⟨gB h.ha l, h.hs.keep fun i hi _ => List.getElem?_append_left hi, h.hp.keep fun i hi _ => List.getElem?_append_left hi, h.hn.keep fun i hi _ => List.getElem?_append_left hi, fun p hp => ⟨gB (h.hr p hp).1 l, (h.hr p hp).2⟩, h.nd, h.dn, fun p hp => ⟨gB (h.fr' p hp).1 l, (h.fr' p hp).2⟩, h.sa, h.pa, h.na, h.ra⟩
theorem EH.alt {fr : List (Nat × Blk)} {a : Nat} {rows : List Rw} {pcs : List Pc} {sn : List Int} {sv pv nv : AV} {bl : List Blk} (h : EH fr a rows pcs sn sv pv nv bl) : a < bl.length := (List.getElem?_eq_some_iff.1 h.ha).1
theorem EH.rlt {fr : List (Nat × Blk)} {a : Nat} {rows : List Rw} {pcs : List Pc} {sn : List Int} {sv pv nv : AV} {bl : List Blk} (h : EH fr a rows pcs sn sv pv nv bl) : ∀ p ∈ rows, p.1 < bl.length := fun p hp => (List.getElem?_eq_some_iff.1 (h.hr p hp).1).1
theorem nid_new {v : AV} {i n k : Nat} (h : v = .ref i 0 n) (hk : k ≠ i) : ¬idOf v k := by
 rintro ⟨n', e⟩
 rw [h] at e
 cases e; exact hk rfl
theorem EH.addRow {fr : List (Nat × Blk)} {a : Nat} {rows : List Rw} {pcs : List Pc} {sn : List Int} {sv pv nv : AV} {bl : List Blk} (h : EH fr a rows pcs sn sv pv nv bl) (row : List Int) (tk : List (Nat × Nat)) (hl : rows.length ≤ 1000) :
  ∃ bl2, appendAt ⟨bl ++ [.live (iL row) 1] ++ [.live [.ref bl.length 0 row.length] 1], tk⟩ true sv (.ref (bl.length + 1) 0 1) 22 1 24 = some (.ref (bl.length + 2) 0 (rows.length + 1), ⟨bl2, tk⟩) ∧ bl2[a]? = some (.live [.agg [sv, pv, nv, .sl [] .tight]] 4) ∧
   EH fr a (rows ++ [(bl.length, row)]) pcs sn (.ref (bl.length + 2) 0 (rows.length + 1)) pv nv (bl2.set a (.live [.agg [.ref (bl.length + 2) 0 (rows.length + 1), pv, nv, .sl [] .tight]] 4)) := by
 have h0 := h.ext [.live (iL row) 1]
 have hlen : (bl ++ [Blk.live (iL row) 1]).length = bl.length + 1 := by simp
 obtain ⟨bl2, e1, e2, e3, e4⟩ := h0.hs.app (x := .ref bl.length 0 row.length) (by simp [hdSz]; rfl) 22 24 (by rw [List.length_map]; unfold limit; omega) tk
 rw [hlen, List.length_map] at e1
 rw [hlen] at e2 e3 e4
 have halt := h.alt
 have hkp : ∀ i b, bl[i]? = some b → ¬idOf sv i → bl2[i]? = some b := fun i b hb hi => by
  have hlt := (List.getElem?_eq_some_iff.1 hb).1
  rw [e4 i (by omega) hi]; exact gB hb _
 have ha2 := hkp a _ h.ha h.sa
 refine ⟨bl2, e1, ha2, ?_⟩
 have hrow2 : bl2[bl.length]? = some (.live (iL row) 1) := by
  rw [e4 bl.length (by omega) (fun hi => by have := (h.hs.lt hi).1; omega)]; exact gA0 _ _
 have hset : ∀ i, i ≠ a → (bl2.set a (.live [.agg [.ref (bl.length + 2) 0 (rows.length + 1), pv, nv, .sl [] .tight]] 4))[i]? = bl2[i]? := fun i hi => List.getElem?_set_ne (fun e => hi e.symm)
 have hps : ∀ i, idOf pv i → ¬idOf sv i := fun i h1 h2 => by
  have := (h.hp.lt h1).2
  rw [(h.hs.lt h2).2] at this
  simp at this
 refine ⟨by rw [List.getElem?_set_self (by omega)], .inr ⟨by simp, bl.length + 2, by simp, by rw [hset _ (by omega), List.map_append]; exact e2⟩, ?_, ?_, fun p hp => ?_, ?_, ?_, fun p hp => ?_, fun h => ?_, h.pa, h.na, fun p hp => ?_⟩
 ·refine h.hp.keep fun i hi hid => ?_
  rw [hset i (fun e => h.pa (by rw [← e]; exact hid)), (h.hp.lt hid).2, hkp i _ (h.hp.lt hid).2 (hps i hid)]
 ·refine h.hn.keep fun i hi hid => ?_
  rw [hset i (fun e => h.na (by rw [← e]; exact hid)), (h.hn.lt hid).2, hkp i _ (h.hn.lt hid).2 (fun h2 => h.dn i h2 hid)]
 ·rcases List.mem_append.1 hp with hp | hp
  ·obtain ⟨a1, a2, a3⟩ := h.hr p hp
   have := h.rlt p hp
   exact ⟨by rw [hset _ (h.ra p hp), hkp _ _ a1 a2], nid_new rfl (by omega), a3⟩
  ·rw [List.mem_singleton] at hp
   subst hp
   exact ⟨by rw [hset _ (by dsimp only; omega)]; exact hrow2, nid_new rfl (by dsimp only; omega), fun hi => by have := (h.hn.lt hi).1; dsimp only at this; omega⟩
 ·rw [List.map_append, List.nodup_append]
  refine ⟨h.nd, by simp, fun u hu v hv => ?_⟩
  simp at hv
  obtain ⟨p, hp, rfl⟩ := List.mem_map.1 hu
  have := h.rlt p hp; omega
 ·rintro i ⟨n, e⟩ hi
  cases e
  have := (h.hn.lt hi).1; omega
 ·obtain ⟨f1, f2, f3, f4, f5, f6⟩ := h.fr' p hp
  have hplt := (List.getElem?_eq_some_iff.1 f1).1
  refine ⟨by rw [hset _ f2]; exact hkp _ _ f1 f3, f2, nid_new rfl (by omega), f4, f5, fun q hq => ?_⟩
  rcases List.mem_append.1 hq with hq | hq
  ·exact f6 q hq
  ·rw [List.mem_singleton] at hq
   subst hq; dsimp only; omega
 ·obtain ⟨n, e⟩ := h
  cases e; omega
 ·rcases List.mem_append.1 hp with hp | hp
  ·exact h.ra p hp
  ·rw [List.mem_singleton] at hp
   subst hp; dsimp only; omega
theorem EH.spp {fr : List (Nat × Blk)} {a : Nat} {rows : List Rw} {pcs : List Pc} {sn : List Int} {sv pv nv : AV} {bl : List Blk} (h : EH fr a rows pcs sn sv pv nv bl) : (∀ i, idOf pv i → ¬idOf sv i ∧ ¬idOf nv i) ∧ ∀ p ∈ rows, ¬idOf pv p.1 := by
 refine ⟨fun i h1 => ⟨fun h2 => ?_, fun h2 => ?_⟩, fun p hp h1 => ?_⟩
 ·have := (h.hp.lt h1).2; rw [(h.hs.lt h2).2] at this; simp at this
 ·have := (h.hp.lt h1).2; rw [(h.hn.lt h2).2] at this; simp at this
 ·have := (h.hp.lt h1).2; rw [(h.hr p hp).1] at this; simp at this
theorem EH.addP {fr : List (Nat × Blk)} {a : Nat} {rows : List Rw} {pcs : List Pc} {sn : List Int} {sv pv nv : AV} {bl : List Blk} (h : EH fr a rows pcs sn sv pv nv bl) (pc : Pc) (tk : List (Nat × Nat)) (hl : pcs.length ≤ 1000) :
  ∃ bl2, appendAt ⟨bl ++ [.live [encPc pc] 4], tk⟩ true pv (.ref bl.length 0 1) 35 4 32 = some (.ref (bl.length + 1) 0 (pcs.length + 1), ⟨bl2, tk⟩) ∧ bl2[a]? = some (.live [.agg [sv, pv, nv, .sl [] .tight]] 4) ∧
   EH fr a rows (pcs ++ [pc]) sn sv (.ref (bl.length + 1) 0 (pcs.length + 1)) nv (bl2.set a (.live [.agg [sv, .ref (bl.length + 1) 0 (pcs.length + 1), nv, .sl [] .tight]] 4)) := by
 obtain ⟨bl2, e1, e2, e3, e4⟩ := h.hp.app (x := encPc pc) rfl 35 32 (by rw [List.length_map]; unfold limit; omega) tk
 rw [List.length_map] at e1
 have halt := h.alt
 obtain ⟨s1, s2⟩ := h.spp
 have hkp : ∀ i b, bl[i]? = some b → ¬idOf pv i → bl2[i]? = some b := fun i b hb hi => by rw [e4 i (List.getElem?_eq_some_iff.1 hb).1 hi]; exact hb
 have ha2 := hkp a _ h.ha h.pa
 have hset : ∀ i, i ≠ a → (bl2.set a (.live [.agg [sv, .ref (bl.length + 1) 0 (pcs.length + 1), nv, .sl [] .tight]] 4))[i]? = bl2[i]? := fun i hi => List.getElem?_set_ne (fun e => hi e.symm)
 refine ⟨bl2, e1, ha2, by rw [List.getElem?_set_self (by omega)], ?_, .inr ⟨by simp, bl.length + 1, by simp, by rw [hset _ (by omega), List.map_append]; exact e2⟩, ?_, fun p hp => ?_, h.nd, h.dn, fun p hp => ?_, h.sa, ?_, h.na, h.ra⟩
 ·refine h.hs.keep fun i hi hid => ?_
  rw [hset i (fun e => h.sa (by rw [← e]; exact hid)), (h.hs.lt hid).2, hkp i _ (h.hs.lt hid).2 (fun h2 => (s1 i h2).1 hid)]
 ·refine h.hn.keep fun i hi hid => ?_
  rw [hset i (fun e => h.na (by rw [← e]; exact hid)), (h.hn.lt hid).2, hkp i _ (h.hn.lt hid).2 (fun h2 => (s1 i h2).2 hid)]
 ·obtain ⟨a1, a2, a3⟩ := h.hr p hp
  exact ⟨by rw [hset _ (h.ra p hp), hkp _ _ a1 (s2 p hp)], a2, a3⟩
 ·obtain ⟨f1, f2, f3, f4, f5, f6⟩ := h.fr' p hp
  have hplt := (List.getElem?_eq_some_iff.1 f1).1
  exact ⟨by rw [hset _ f2]; exact hkp _ _ f1 f4, f2, f3, nid_new rfl (by omega), f5, f6⟩
 ·exact nid_new rfl (by omega)
theorem EH.addN {fr : List (Nat × Blk)} {a : Nat} {rows : List Rw} {pcs : List Pc} {sn : List Int} {sv pv nv : AV} {bl : List Blk} (h : EH fr a rows pcs sn sv pv nv bl) (n : Int) (tk : List (Nat × Nat)) (hl : sn.length ≤ 1000) :
  ∃ bl2, appendAt ⟨bl ++ [.live [I64 n] 1], tk⟩ true nv (.ref bl.length 0 1) 3 1 8 = some (.ref (bl.length + 1) 0 (sn.length + 1), ⟨bl2, tk⟩) ∧ bl2[a]? = some (.live [.agg [sv, pv, nv, .sl [] .tight]] 4) ∧
   EH fr a rows pcs (sn ++ [n]) sv pv (.ref (bl.length + 1) 0 (sn.length + 1)) (bl2.set a (.live [.agg [sv, pv, .ref (bl.length + 1) 0 (sn.length + 1), .sl [] .tight]] 4)) := by
 obtain ⟨bl2, e1, e2, e3, e4⟩ := h.hn.app (x := I64 n) rfl 3 8 (by rw [iL_len]; unfold limit; omega) tk
 rw [iL_len] at e1
 have halt := h.alt
 obtain ⟨s1, s2⟩ := h.spp
 have hkp : ∀ i b, bl[i]? = some b → ¬idOf nv i → bl2[i]? = some b := fun i b hb hi => by rw [e4 i (List.getElem?_eq_some_iff.1 hb).1 hi]; exact hb
 have ha2 := hkp a _ h.ha h.na
 have hset : ∀ i, i ≠ a → (bl2.set a (.live [.agg [sv, pv, .ref (bl.length + 1) 0 (sn.length + 1), .sl [] .tight]] 4))[i]? = bl2[i]? := fun i hi => List.getElem?_set_ne (fun e => hi e.symm)
 refine ⟨bl2, e1, ha2, by rw [List.getElem?_set_self (by omega)], ?_, ?_, .inr ⟨by unfold iL; simp, bl.length + 1, by rw [iL_len]; simp, by rw [hset _ (by omega), iL_app]; exact e2⟩, fun p hp => ?_, h.nd, fun i hi => ?_, fun p hp => ?_, h.sa, h.pa, ?_, h.ra⟩
 ·refine h.hs.keep fun i hi hid => ?_
  rw [hset i (fun e => h.sa (by rw [← e]; exact hid)), (h.hs.lt hid).2, hkp i _ (h.hs.lt hid).2 (h.dn i hid)]
 ·refine h.hp.keep fun i hi hid => ?_
  rw [hset i (fun e => h.pa (by rw [← e]; exact hid)), (h.hp.lt hid).2, hkp i _ (h.hp.lt hid).2 (s1 i hid).2]
 ·obtain ⟨a1, a2, a3⟩ := h.hr p hp
  have := h.rlt p hp
  exact ⟨by rw [hset _ (h.ra p hp), hkp _ _ a1 a3], a2, nid_new rfl (by omega)⟩
 ·have := (h.hs.lt hi).1
  exact nid_new rfl (by omega)
 ·obtain ⟨f1, f2, f3, f4, f5, f6⟩ := h.fr' p hp
  have hplt := (List.getElem?_eq_some_iff.1 f1).1
  exact ⟨by rw [hset _ f2]; exact hkp _ _ f1 f5, f2, f3, f4, nid_new rfl (by omega), f6⟩
 ·exact nid_new rfl (by omega)
theorem make_rw (m : Mem) {n : Nat} (hn : n ≤ 100) : makeAt m (I64 0) 1 8 (I64 (n : Int)) (I64 (n : Int)) = some (.ref m.blks.length 0 n, newBlk m (iL (List.replicate n 0)) 1) := by
 have h1 : n * (8 + 1) ≤ limit := by unfold limit; omega
 have h2 : iL (List.replicate n 0) = List.replicate n (I64 0) := by unfold iL; rw [List.map_replicate]
 simp only [makeAt, asInt, Int.toNat_natCast, h1, h2]
 rw [if_pos ⟨⟨by omega, t_⟩, t_, rfl, rfl⟩]
theorem EH.RH {fr fr2 : List (Nat × Blk)} {a : Nat} {rows : List Rw} {pcs : List Pc} {sn : List Int} {sv pv nv : AV} {bl : List Blk} (h : EH fr2 a rows pcs sn sv pv nv bl) (h1 : rows ≠ []) (h2 : pcs ≠ []) (h3 : sn ≠ []) {i : Nat} {B : Blk} (hi : (i, B) ∈ fr2) (hs : ∀ p ∈ fr, p ∈ fr2 ∧ p.1 ≠ i) (X : Blk) :
  ∃ sid pid nid, sv = .ref sid 0 rows.length ∧ pv = .ref pid 0 pcs.length ∧ nv = .ref nid 0 sn.length ∧ T.RH fr sid pid nid rows pcs sn (bl.set i X) := by
 obtain ⟨f1, f2, f3, f4, f5, f6⟩ := h.fr' _ hi
 rcases h.hs with ⟨e, _⟩ | ⟨_, sid, es, hsb⟩
 ·exact absurd (List.map_eq_nil_iff.1 e) h1
 rcases h.hp with ⟨e, _⟩ | ⟨_, pid, ep, hpb⟩
 ·exact absurd (List.map_eq_nil_iff.1 e) h2
 rcases h.hn with ⟨e, _⟩ | ⟨_, nid, en, hnb⟩
 ·unfold iL at e; exact absurd (List.map_eq_nil_iff.1 e) h3
 rw [List.length_map] at es ep
 rw [iL_len] at en
 have hset : ∀ k, k ≠ i → (bl.set i X)[k]? = bl[k]? := fun k hk => List.getElem?_set_ne (fun e => hk e.symm)
 refine ⟨sid, pid, nid, es, ep, en, by rw [hset sid (fun e => f3 ⟨_, by rw [← e]; exact es⟩)]; exact hsb, fun p hp => by rw [hset _ (f6 p hp)]; exact (h.hr p hp).1, by rw [hset pid (fun e => f4 ⟨_, by rw [← e]; exact ep⟩)]; exact hpb, by rw [hset nid (fun e => f5 ⟨_, by rw [← e]; exact en⟩)]; exact hnb, h.nd, fun p hp => ⟨fun e => (h.hr p hp).2.1 ⟨_, by rw [e]; exact es⟩, fun e => (h.hr p hp).2.2 ⟨_, by rw [e]; exact en⟩⟩, fun e => h.dn sid ⟨_, es⟩ ⟨_, by rw [e]; exact en⟩, fun p hp => ?_⟩
 obtain ⟨q1, q2⟩ := hs p hp
 obtain ⟨a1, a2, a3, a4, a5, a6⟩ := h.fr' p q1
 exact ⟨by rw [hset _ q2]; exact a1, fun e => a3 ⟨_, by rw [e]; exact es⟩, fun e => a4 ⟨_, by rw [e]; exact ep⟩, fun e => a5 ⟨_, by rw [e]; exact en⟩, a6⟩
theorem Empty_WR (h : Hl) (hx : ∀ x ∈ h.rows, 1 ≤ x ∧ x ≤ 12) (hr6 : h.rows.length ≤ 6) (hr0 : h.rows ≠ []) {fr : List (Nat × Blk)} {bl : List Blk} (hfr : ∀ p ∈ fr, bl[p.1]? = some p.2) (tk : List (Nat × Nat)) (K : AV → Mem → Prop)
  (hK : ∀ sid pid nid rows bl', T.RH fr sid pid nid rows (List.replicate 100 ⟨0, -1, -1, 0⟩) (List.replicate 100 0) bl' → rows.map Prod.snd = (emptyM h.rows).seats → K (encHo sid pid nid rows.length (.sl [] .tight)) ⟨bl', tk⟩) : WR ft (.f 54) [encH h] ⟨bl, tk⟩ K := by
 rw [WR_f ft54 rfl]
 simp only [c54, r54]
 obtain ⟨zA, hzA⟩ : ∃ zA, zA = AV.agg [.sl [] .tight, .sl [] .tight, .sl [] .tight, .sl [] .tight] := ⟨_, rfl⟩
 have hE0 : EH ((bl.length, .live [encH h] 2) :: (bl.length + 1, .live [zA] 4) :: fr) (bl.length + 2) [] [] [] (.sl [] .tight) (.sl [] .tight) (.sl [] .tight) (bl ++ [.live [encH h] 2, .live [zA] 4, .live [zA] 4]) := by
  have nn : ∀ i, ¬idOf (.sl [] .tight) i := fun i ⟨n, e⟩ => by cases e
  refine ⟨by rw [gA, hzA]; rfl, .inl ⟨rfl, rfl⟩, .inl ⟨rfl, rfl⟩, .inl ⟨rfl, rfl⟩, fun p hp => (nomatch hp), List.nodup_nil, fun i hi => absurd hi (nn i), fun p hp => ?_, nn _, nn _, nn _, fun p hp => (nomatch hp)⟩
  rcases List.mem_cons.1 hp with e | hp
  ·subst e; exact ⟨gA0 bl _, by dsimp only; omega, nn _, nn _, nn _, fun q hq => (nomatch hq)⟩
  ·rcases List.mem_cons.1 hp with e | hp
   ·subst e; exact ⟨gA bl _ 1, by dsimp only; omega, nn _, nn _, nn _, fun q hq => (nomatch hq)⟩
   ·have := hfr p hp
    have hlt := (List.getElem?_eq_some_iff.1 this).1
    exact ⟨gB this _, by omega, nn _, nn _, nn _, fun q hq => (nomatch hq)⟩
 generalize hfr2 : ((bl.length, Blk.live [encH h] 2) :: (bl.length + 1, Blk.live [zA] 4) :: fr) = fr2 at hE0
 have m1 : (bl.length, Blk.live [encH h] 2) ∈ fr2 := by rw [← hfr2]; simp
 have m2 : (bl.length + 1, Blk.live [zA] 4) ∈ fr2 := by rw [← hfr2]; simp
 simp only [go_sem, Nat.reduceEqDiff, Nat.reduceAdd, Nat.reduceLT, Nat.reduceLeDiff, reduceIte, HCells, List.append_assoc, List.cons_append, List.nil_append, List.length_append, List.length_cons, List.length_nil]
 refine WL_inv (α := Nat × List Int) (fun q e mm => e 1 = .ptr bl.length 0 0 ∧ e 2 = .ptr (bl.length + 1) 0 0 ∧ e 3 = .ptr (bl.length + 2) 0 0 ∧ e 4 = I64 q.1 ∧ h.rows.drop q.1 = q.2 ∧ ∃ rows sv bl', mm = ⟨bl', tk⟩ ∧ EH fr2 (bl.length + 2) rows [] [] sv (.sl [] .tight) (.sl [] .tight) bl' ∧ rows.map Prod.snd = (h.rows.take q.1).map fun n => List.replicate n.toNat (-1)) (fun q => q.2.length) (0, h.rows) ?_ ?_
 ·simp only [go_sem, Nat.reduceEqDiff, Nat.reduceAdd, Nat.reduceLT, Nat.reduceLeDiff, reduceIte]
  exact ⟨t_, t_, t_, rfl, t_, [], _, _, by rw [hzA], hE0, rfl⟩
 rintro ⟨k, r⟩ e mm ⟨g1, g2, g3, g4, hd, rows, sv, bl', rfl, hE, hsd⟩
 dsimp only at g4 hd hsd
 have hb1 : bl'[bl.length]? = some (.live [encH h] 2) := (hE.fr' _ m1).1
 cases r with
 | cons z r =>
  obtain ⟨hk, hd2, hlt⟩ := drop_cons hd
  have hz := hx z (List.mem_of_getElem? hk)
  obtain ⟨zn, rfl⟩ : ∃ zn : Nat, z = zn := ⟨z.toNat, by omega⟩
  simp only [go_sem, Nat.reduceEqDiff, Nat.reduceAdd, Nat.reduceLT, Nat.reduceLeDiff, reduceIte, g1, g2, g3, g4, hb1, HCells, Is_len, dec_lt hlt, Is_idx hk, make_rw _ (show zn ≤ 100 by omega), newBlk]
  refine WL_inv (α := Nat) (fun q e mm => e 1 = .ptr bl.length 0 0 ∧ e 2 = .ptr (bl.length + 1) 0 0 ∧ e 3 = .ptr (bl.length + 2) 0 0 ∧ e 4 = I64 k ∧ e 5 = .ref bl'.length 0 zn ∧ e 6 = I64 q ∧ q ≤ zn ∧ mm = ⟨bl' ++ [.live (iL (List.replicate q (-1) ++ List.replicate (zn - q) 0)) 1], tk⟩) (fun q => zn - q) 0 ?_ ?_
  ·simp only [go_sem, Nat.reduceEqDiff, Nat.reduceAdd, Nat.reduceLT, Nat.reduceLeDiff, reduceIte, g1, g2, g3, g4]
   exact ⟨t_, t_, t_, t_, t_, rfl, by first | trivial | omega, by first | trivial | simp⟩
  clear g1 g2 g3 g4 e
  rintro j e mm ⟨g1, g2, g3, g4, g5, g6, hj, rfl⟩
  have hbr : (bl' ++ [Blk.live (iL (List.replicate j (-1) ++ List.replicate (zn - j) 0)) 1])[bl'.length]? = some (.live (iL (List.replicate j (-1) ++ List.replicate (zn - j) 0)) 1) := gA0 _ _
  by_cases hjz : j < zn
  ·have hij := idx_rf (m := ⟨bl' ++ [Blk.live (iL (List.replicate j (-1) ++ List.replicate (zn - j) 0)) 1], tk⟩) hbr hjz
   have hgj : (List.replicate j (-1 : Int) ++ List.replicate (zn - j) 0)[j]? = some 0 := by
    rw [List.getElem?_append_right (by simp), List.length_replicate, Nat.sub_self, List.getElem?_replicate, if_pos (by omega)]
   have hga := iL_at hgj
   have hst : (List.replicate j (-1 : Int) ++ List.replicate (zn - j) 0).set j (-1) = List.replicate (j + 1) (-1) ++ List.replicate (zn - (j + 1)) 0 := by
    rw [List.set_append_right _ _ (by simp), List.length_replicate, Nat.sub_self, show zn - j = (zn - (j + 1)) + 1 by omega, List.replicate_succ, List.set_cons_zero, List.replicate_succ']
    simp
   simp only [go_sem, Nat.reduceEqDiff, Nat.reduceAdd, Nat.reduceLT, Nat.reduceLeDiff, reduceIte, g1, g2, g3, g4, g5, g6, len_rf (m := ⟨bl' ++ [Blk.live (iL (List.replicate j (-1) ++ List.replicate (zn - j) 0)) 1], tk⟩) hbr, dec_lt hjz, hij, hbr, hga, iL_set', hst, sA0, List.set_cons_zero, wrap_n1 j (by omega)]
   refine Nx_of (j + 1) (by omega) ?_
   simp only [go_sem, Nat.reduceEqDiff, Nat.reduceAdd, Nat.reduceLT, Nat.reduceLeDiff, reduceIte, g1, g2, g3, g4, g5]
   exact ⟨t_, t_, t_, t_, t_, t_, by first | trivial | omega, by first | trivial | rfl⟩
  ·have ej : j = zn := by omega
   subst ej
   rw [Nat.sub_self, List.replicate_zero, List.append_nil] at hbr
   obtain ⟨bl2, ap, ha2, hE2⟩ := hE.addRow (List.replicate j (-1)) tk (by rw [← List.length_map (f := Prod.snd), hsd, List.length_map, List.length_take]; omega)
   rw [List.length_replicate] at ap
   have ap' : appendAt ⟨bl' ++ [.live (iL (List.replicate j (-1))) 1, .live [.ref bl'.length 0 j] 1], tk⟩ true sv (.ref (bl'.length + 1) 0 1) 22 1 24 = some (.ref (bl'.length + 2) 0 (rows.length + 1), ⟨bl2, tk⟩) := by rw [← ap]; simp
   have ha1 : (bl' ++ [Blk.live (iL (List.replicate j (-1))) 1])[bl.length + 2]? = some (.live [.agg [sv, .sl [] .tight, .sl [] .tight, .sl [] .tight]] 4) := gB hE.ha _
   have hsvc := hE.hs.cells
   rw [show j - j = 0 from Nat.sub_self j, List.replicate_zero, List.append_nil]
   simp only [go_sem, Nat.reduceEqDiff, Nat.reduceAdd, Nat.reduceLT, Nat.reduceLeDiff, reduceIte, g1, g2, g3, g4, g5, g6, len_rf (m := ⟨bl' ++ [Blk.live (iL (List.replicate j (-1))) 1], tk⟩) hbr, dec_ge (Nat.le_refl j), ha1, List.append_assoc, List.cons_append, List.nil_append, List.length_append, List.length_cons, List.length_nil, ap', ha2, wrap_n1 k (by omega)]
   refine Nx_of (k + 1, r) (by simp) ?_
   simp only [go_sem, Nat.reduceEqDiff, Nat.reduceAdd, Nat.reduceLT, Nat.reduceLeDiff, reduceIte, g1, g2, g3]
   refine ⟨t_, t_, t_, t_, hd2, rows ++ [(bl'.length, List.replicate j (-1))], _, _, rfl, hE2, ?_⟩
   rw [List.map_append, hsd, take_snoc hk, List.map_append]; simp
 | nil =>
  have h3 := drop_nil hd
  rw [List.take_of_length_le h3] at hsd
  simp only [go_sem, Nat.reduceEqDiff, Nat.reduceAdd, Nat.reduceLT, Nat.reduceLeDiff, reduceIte, g1, g2, g3, g4, hb1, HCells, Is_len, dec_ge h3]
  refine WL_inv (α := Nat) (fun q e mm => e 2 = .ptr (bl.length + 1) 0 0 ∧ e 3 = .ptr (bl.length + 2) 0 0 ∧ e 7 = I64 q ∧ q ≤ 100 ∧ ∃ pv nv bl', mm = ⟨bl', tk⟩ ∧ EH fr2 (bl.length + 2) rows (List.replicate q ⟨0, -1, -1, 0⟩) (List.replicate q 0) sv pv nv bl') (fun q => 100 - q) 0 ?_ ?_
  ·simp only [go_sem, Nat.reduceEqDiff, Nat.reduceAdd, Nat.reduceLT, Nat.reduceLeDiff, reduceIte, g2, g3]
   exact ⟨t_, t_, rfl, by first | trivial | omega, _, _, bl', rfl, hE⟩
  clear g1 g2 g3 g4 hb1 hE e
  rintro q e mm ⟨g2, g3, g7, hq, pv, nv, bl3, rfl, hE⟩
  by_cases hq1 : q < 100
  ·have dq : decide ((q : Int) ≤ 99) = true := decide_eq_true (by omega)
   have eP : AV.agg [.int .i64 0, I64 (-1), I64 (-1), .int .i64 0] = encPc ⟨0, -1, -1, 0⟩ := rfl
   obtain ⟨bl4, ap, ha2, hE2⟩ := hE.addP ⟨0, -1, -1, 0⟩ tk (by rw [List.length_replicate]; omega)
   have hlt4 : bl.length + 2 < bl4.length := (List.getElem?_eq_some_iff.1 ha2).1
   obtain ⟨bl5, ap2, ha3, hE3⟩ := hE2.addN 0 tk (by rw [List.length_replicate]; omega)
   simp only [List.length_replicate] at ap ap2 hE2 ha3 hE3
   rw [List.length_set] at ap2 hE3
   have hsvc := hE.hs.cells
   have hnvc := hE.hn.cells
   simp only [go_sem, Nat.reduceEqDiff, Nat.reduceAdd, Nat.reduceLT, Nat.reduceLeDiff, reduceIte, g2, g3, g7, dq, hE.ha, eP, PcCells, ap, ha2, gA0, List.getElem?_cons_zero, List.getElem?_set_self hlt4, List.length_set, ap2, ha3, wrap_n1 q (by omega)]
   refine Nx_of (q + 1) (by omega) ?_
   simp only [go_sem, Nat.reduceEqDiff, Nat.reduceAdd, Nat.reduceLT, Nat.reduceLeDiff, reduceIte, g2, g3]
   rw [show List.replicate (q + 1) (⟨0, -1, -1, 0⟩ : Pc) = List.replicate q ⟨0, -1, -1, 0⟩ ++ [⟨0, -1, -1, 0⟩] from List.replicate_succ', show List.replicate (q + 1) (0 : Int) = List.replicate q 0 ++ [0] from List.replicate_succ']
   exact ⟨t_, t_, t_, by omega, _, _, _, rfl, hE3⟩
  ·have eq : q = 100 := by omega
   subst eq
   have hrn : rows ≠ [] := fun e => by
    rw [e] at hsd
    exact hr0 (List.map_eq_nil_iff.1 hsd.symm)
   have hb2 : bl3[bl.length + 1]? = some (.live [zA] 4) := (hE.fr' _ m2).1
   have hlt2 : bl.length + 1 < bl3.length := (List.getElem?_eq_some_iff.1 hb2).1
   obtain ⟨sid, pid, nid, es, ep, en, hR⟩ := hE.RH (fr := fr) hrn (by simp) (by simp) m2 (fun p hp => ⟨by rw [← hfr2]; exact List.mem_cons_of_mem _ (List.mem_cons_of_mem _ hp), fun e => by
    have := (List.getElem?_eq_some_iff.1 (hfr p hp)).1; omega⟩) (.live [.agg [sv, pv, nv, .sl [] .tight]] 4)
   have hsc := hE.hs.cells
   have hpc := hE.hp.cells
   have hnc := hE.hn.cells
   rw [hzA] at hb2
   have wz : writeCells (.agg [.sl [] .tight, .sl [] .tight, .sl [] .tight, .sl [] .tight]) 0 [sv, pv, nv, .sl [] .tight] = some (.agg [sv, pv, nv, .sl [] .tight]) := rfl
   simp only [go_sem, Nat.reduceEqDiff, Nat.reduceAdd, Nat.reduceLT, Nat.reduceLeDiff, reduceIte, g2, g3, g7, show decide (((100 : Nat) : Int) ≤ 99) = false from rfl, hE.ha, hb2, hsc.2, hpc.2, hnc.2, hsc.1, hpc.1, hnc.1, wz, List.getElem?_set_self hlt2]
   rw [List.length_replicate] at ep en
   have := hK sid pid nid rows _ hR hsd
   rw [es, ep, en]
   rw [es, ep, en] at this
   exact this
def pcsM (S : HZ) : List Pc := (List.range 100).map fun n : Nat => plcM S n
theorem pcsM_get (S : HZ) {n : Nat} (h : n < 100) : (pcsM S)[n]? = some (plcM S n) := by unfold pcsM; rw [List.getElem?_map, List.getElem?_range h]; rfl
theorem pcsM_len (S : HZ) : (pcsM S).length = 100 := by unfold pcsM; simp
structure AR (S : HZ) (rows : List Rw) (pcs : List Pc) (sn : List Int) : Prop where
 rw' : rows.map Prod.snd = S.seats
 pc : pcs = pcsM S
 sl : sn.length = 100
 sb : ∀ x ∈ sn, 0 ≤ x ∧ x ≤ 9999
 sn' : ∀ (n : Nat) (x : Od), ((n : Int), x) ∈ S.ords → x.pc.st = 2 → sn.getD n 0 = x.asked
theorem pcsM_set {S S' : HZ} {n : Nat} (hn : n < 100) (h : ∀ k : Nat, k ≠ n → plcM S' k = plcM S k) : pcsM S' = (pcsM S).set n (plcM S' n) := by
 apply List.ext_getElem?
 intro i
 rw [List.getElem?_set, pcsM_len]
 by_cases hi : n = i
 ·subst hi; rw [if_pos rfl, if_pos hn, pcsM_get S' hn]
 ·rw [if_neg hi]
  by_cases h1 : i < 100
  ·rw [pcsM_get S' h1, pcsM_get S h1, h i (fun e => hi e.symm)]
  ·rw [List.getElem?_eq_none (by rw [pcsM_len]; omega), List.getElem?_eq_none (by rw [pcsM_len]; omega)]
theorem rowsD_snd (q : Int → Bool) (rows : List Rw) : (rowsD q rows).map Prod.snd = offM q (rows.map Prod.snd) := by
 unfold rowsD offM; rw [List.map_map, List.map_map]; rfl
theorem AR.lq {S : HZ} {rows : List Rw} {pcs : List Pc} {sn : List Int} (h : AR S rows pcs sn) (hI : HInv S) (hold m : Int) {n : Nat} (hn : n < 100) : lqN pcs sn hold m n = lapP hold m S.ords n := by
 unfold lqN lapP
 rw [h.pc, List.getD_eq_getElem?_getD, pcsM_get S hn, Option.getD_some]
 rcases plcM_spec hI (n : Int) with ⟨e, hl⟩ | ⟨x, hx, hl, e⟩
 ·rw [e, hl]; rfl
 ·rw [e, hl]
  dsimp only
  unfold lapB
  cases h2 : (x.pc.st == 2)
  ·rfl
  ·rw [h.sn' n x hx (by simpa using h2)]
theorem AR.lapse {S : HZ} {rows : List Rw} {pcs : List Pc} {sn : List Int} (h : AR S rows pcs sn) (hI : HInv S) (hold m : Int) : AR (lapseM hold m S) (rowsD (lqU pcs sn hold m 100) rows) (lpP pcs sn hold m 100) sn := by
 refine ⟨?_, ?_, h.sl, h.sb, fun n x hx h2 => ?_⟩
 ·rw [rowsD_snd, h.rw']
  show _ = offM (lapP hold m S.ords) S.seats
  have := killM_congr (S := S) (q := lqU pcs sn hold m 100) (q' := lapP hold m S.ords) (st := 4) (fun row hr v hv => ?_) (fun p hp => ?_)
  ·exact congrArg HZ.seats this
  ·rcases hI.seat_key hr hv with e | ⟨x, hx, _⟩
   ·exact .inl e
   ·have h0 := hI.pos _ hx
    have h9 := hI.top _ hx
    dsimp only at h0 h9
    refine .inr ?_
    unfold lqU
    rw [decide_eq_true h0, decide_eq_true (show v < ((100 : Nat) : Int) by omega), h.lq hI hold m (show v.toNat < 100 by omega), Int.toNat_of_nonneg h0]; rfl
  ·have h0 := hI.pos _ hp
   have h9 := hI.top _ hp
   unfold lqU
   rw [decide_eq_true h0, decide_eq_true (show p.1 < ((100 : Nat) : Int) by omega), h.lq hI hold m (show p.1.toNat < 100 by omega), Int.toNat_of_nonneg h0]; rfl
 ·apply List.ext_getElem?
  intro n
  rw [lpP_get, h.pc]
  by_cases hn : n < 100
  ·rw [pcsM_get S hn, pcsM_get _ hn, Option.map_some]
   congr 1
   have hq := h.lq hI hold m hn
   rw [h.pc] at hq
   rw [hq]
   have hI2 := hI.lapse hold m
   rcases plcM_spec hI (n : Int) with ⟨e, hl⟩ | ⟨x, hx, hl, e⟩
   ·have : lapP hold m S.ords n = false := by unfold lapP; rw [hl]
    rw [this, if_neg (by rintro ⟨_, h⟩; cases h), e]
    rcases plcM_spec hI2 (n : Int) with ⟨e2, _⟩ | ⟨x, hx, _, _⟩
    ·exact e2.symm
    ·obtain ⟨y, hy, _⟩ := killM_mem hx
     exact absurd hy (lkP_none hl y)
   ·have hlp := lapP_of (hold := hold) (m := m) hI hx
    dsimp only at hlp
    rw [hlp, e]
    by_cases hb : lapB hold m x = true
    ·rw [if_pos ⟨hn, hb⟩]
     have : ((n : Int), outO x 4) ∈ (lapseM hold m S).ords := List.mem_map.2 ⟨_, hx, by rw [hlp, if_pos hb]⟩
     rw [plcM_of hI2 this]; rfl
    ·rw [if_neg (fun h => hb h.2)]
     have : ((n : Int), x) ∈ (lapseM hold m S).ords := List.mem_map.2 ⟨_, hx, by rw [hlp, if_neg hb]⟩
     rw [plcM_of hI2 this]
  ·rw [List.getElem?_eq_none (by rw [pcsM_len]; omega), List.getElem?_eq_none (by rw [pcsM_len]; omega)]; rfl
 ·obtain ⟨y, hy, ⟨_, e⟩ | ⟨_, e⟩⟩ := killM_mem hx
  ·have e' : x = outO y 4 := e
   rw [e'] at h2; cases h2
  ·have e' : x = y := e
   rw [e'] at h2 ⊢
   exact h.sn' n y hy h2
theorem AR.kill {S : HZ} {rows : List Rw} {pcs : List Pc} {sn : List Int} (h : AR S rows pcs sn) (hI : HInv S) {n : Nat} (hn : n < 100) {x : Od} (hx : ((n : Int), x) ∈ S.ords) {st : Int} (h2 : st ≠ 2) (h3 : st ≠ 3) (hst : 1 ≤ st ∧ st ≤ 5) : AR (killM (· == (n : Int)) st S) (rowsD (· == (n : Int)) rows) (pcs.set n ⟨st, -1, -1, x.pc.size⟩) sn := by
 have hI2 := hI.killed (q := (· == (n : Int))) h2 h3 hst
 refine ⟨by rw [rowsD_snd, h.rw']; rfl, ?_, h.sl, h.sb, fun k y hy hy2 => ?_⟩
 ·have hn' : ((n : Int), outO x st) ∈ (killM (· == (n : Int)) st S).ords := List.mem_map.2 ⟨_, hx, if_pos (by simp)⟩
  rw [h.pc, pcsM_set (S := S) (S' := killM (· == (n : Int)) st S) hn fun k hk => ?_, plcM_of hI2 hn']; rfl
  have hne : (((k : Int)) == (n : Int)) = false := by rw [beq_eq_false_iff_ne]; omega
  rcases plcM_spec hI (k : Int) with ⟨e, hl⟩ | ⟨y, hy, _, e⟩
  ·rw [e]
   rcases plcM_spec hI2 (k : Int) with ⟨e2, _⟩ | ⟨y, hy, _, _⟩
   ·exact e2
   ·obtain ⟨w, hw, _⟩ := killM_mem hy
    exact absurd hw (lkP_none hl w)
  ·have : ((k : Int), y) ∈ (killM (· == (n : Int)) st S).ords := List.mem_map.2 ⟨_, hy, if_neg (by show ¬((k : Int) == (n : Int)) = true; rw [hne]; decide)⟩
   rw [plcM_of hI2 this, e]
 ·obtain ⟨w, hw, ⟨_, e⟩ | ⟨_, e⟩⟩ := killM_mem hy
  ·have e' : y = outO w st := e
   rw [e'] at hy2; exact absurd hy2 h2
  ·have e' : y = w := e
   rw [e'] at hy2 ⊢
   exact h.sn' k w hw hy2
theorem AR.paid {S : HZ} {rows : List Rw} {pcs : List Pc} {sn : List Int} (h : AR S rows pcs sn) (hI : HInv S) {n : Nat} (hn : n < 100) {x : Od} (hx : ((n : Int), x) ∈ S.ords) (h2 : x.pc.st = 2) : AR ⟨S.seats, updM S.ords n (paidO x), S.vain⟩ rows (pcs.set n ⟨3, x.pc.row, x.pc.seat, x.pc.size⟩) sn := by
 have hI2 := hI.paid hx h2
 refine ⟨h.rw', ?_, h.sl, h.sb, fun k y hy hy2 => ?_⟩
 ·rw [h.pc, pcsM_set (S := S) (S' := ⟨S.seats, updM S.ords n (paidO x), S.vain⟩) hn fun k hk => ?_, plcM_of hI2 (mem_updM_self hx)]; rfl
  rcases plcM_spec hI (k : Int) with ⟨e, hl⟩ | ⟨y, hy, _, e⟩
  ·rw [e]
   rcases plcM_spec hI2 (k : Int) with ⟨e2, _⟩ | ⟨y, hy, _, _⟩
   ·exact e2
   ·rcases updM_mem hy with ⟨e3, _⟩ | ⟨hy', _⟩
    ·have := congrArg Prod.fst e3; dsimp only at this; omega
    ·exact absurd hy' (lkP_none hl y)
  ·rw [plcM_of hI2 (mem_updM hy (by dsimp only; omega)), e]
 ·rcases updM_mem hy with ⟨e3, _⟩ | ⟨hy', _⟩
  ·have := congrArg Prod.snd e3; dsimp only at this; rw [this] at hy2; cases hy2
  ·exact h.sn' k y hy' hy2
theorem AR.vain {S : HZ} {rows : List Rw} {pcs : List Pc} {sn : List Int} (h : AR S rows pcs sn) (v : List Int) : AR ⟨S.seats, S.ords, v⟩ rows pcs sn := ⟨h.rw', h.pc, h.sl, h.sb, h.sn'⟩
theorem plcM_app {S : HZ} {l : List (List Int)} {n : Int} {x : Od} (hl : lkP S.ords n = none) (k : Int) : plcM ⟨l, S.ords ++ [(n, x)], S.vain⟩ k = if n = k then x.pc else plcM S k := by
 unfold plcM
 dsimp only
 rw [lkP_app]
 by_cases h : n = k
 ·subst h; rw [if_pos rfl, if_pos rfl, hl]; rfl
 ·rw [if_neg h, if_neg h, Option.or_none]
theorem AR.added {S : HZ} {rows rows' : List Rw} {pcs : List Pc} {sn sn2 : List Int} (h : AR S rows pcs sn) {n : Nat} (hn : n < 100) {x : Od} (hl : lkP S.ords n = none) {seats' : List (List Int)} (hr : rows'.map Prod.snd = seats') (hsl : sn2.length = 100) (hsb : ∀ y ∈ sn2, 0 ≤ y ∧ y ≤ 9999) (hsk : ∀ k : Nat, k ≠ n → sn2.getD k 0 = sn.getD k 0) (hsx : x.pc.st = 2 → sn2.getD n 0 = x.asked) : AR ⟨seats', S.ords ++ [((n : Int), x)], S.vain⟩ rows' (pcs.set n x.pc) sn2 := by
 refine ⟨hr, ?_, hsl, hsb, fun k y hy hy2 => ?_⟩
 ·rw [h.pc, pcsM_set (S := S) (S' := ⟨seats', S.ords ++ [((n : Int), x)], S.vain⟩) hn fun k hk => ?_]
  ·rw [plcM_app hl, if_pos rfl]
  ·rw [plcM_app hl, if_neg (by omega)]
 ·rcases List.mem_append.1 hy with hy | hy
  ·have hk : k ≠ n := fun e => lkP_none hl y (by rw [← e]; exact hy)
   rw [hsk k hk]; exact h.sn' k y hy hy2
  ·rw [List.mem_singleton] at hy
   have h1 := congrArg Prod.fst hy
   have h2 := congrArg Prod.snd hy
   dsimp only at h1 h2
   rw [show k = n by omega, h2]
   rw [h2] at hy2
   exact hsx hy2
end Go.Ab.T
end
