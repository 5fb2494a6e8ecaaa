/-
  Joined of my texts Yc Yd Ye Yf.
-/
import Derived.Test.YtffncojcnbhblaaGreatDoorJb32
import Derived.Test.YtffncojcnbhblaaGreatDoorJb10
import Derived.Test.YtffncojcnbhblaaGreatDoorJb11
import Derived.Deep.RegionHeld3
import Derived.Test.YtffncojcnbhblaaGreatDoorJb14
import Derived.Deep.AppendLies
set_option linter.unusedVariables false
set_option linter.unusedSimpArgs false
set_option maxRecDepth 100000
set_option maxHeartbeats 8000000
namespace Go.Proofs.YtffncojcnbhblaaGreatDoor
open Go.RowKit
theorem ent_pl (E:List En) (s:ByteArray):entR E s=(match plR E s with | none=>0 | some i=>((E[i]?).map Prod.snd).getD 0):=by
 unfold entR plR
 induction E with
 | nil=>rfl
 | cons e E ih=>
  rw [List.find?_cons,List.findIdx?_cons]
  cases he:(e.1.toList == s.toList) with
  | true=>simp
  | false=>
   simp only [Bool.false_eq_true,if_false]
   rw [ih]
   cases List.findIdx? (fun e=>e.1.toList == s.toList) E with
   | none=>rfl
   | some i=>simp
structure Tw (w0 w:World) (X:Nat) (p:Pl) (S:Sta) (u:Value) (xs:List Int):Prop where
 k:Kept [] w0 w
 hx:w.heap[X]?=some (sbox p S)
 ow:Own w w0.heap.size u xs
 ux:u.ownBlock≠some X
theorem Tw.kept {w0 w w':World} {X:Nat} {p:Pl} {S:Sta} {u:Value} {xs:List Int} (h:Tw w0 w X p S u xs) (k:Kept [] w w'):Tw w0 w' X p S u xs:=
 ⟨h.k.trans k (by simp),(k.block X (lt_of_heap h.hx) (by simp)).trans h.hx,h.ow.kept k,h.ux⟩
theorem Tw.append {w0 w:World} {X:Nat} {p:Pl} {S:Sta} {u:Value} {xs:List Int} (h:Tw w0 w X p S u xs) (z:Int) (hn:xs.length+1≤17592186044416) (ty:TypeId) :
  ∃ u' w',(Builtin.append_ #[25,25] ty #[u,.slice (some ⟨w.heap.size,0,none⟩) 1 1]).run Tryz.prog (w.alloc (.cells #[.int .i64 z] 3))=.ok u' w'∧Tw w0 w' X p S u' (xs ++ [z]):=by
 have hka:Kept [] w (w.alloc (.cells #[.int .i64 z] 3)):=(Kept.refl [] w).alloc _
 have h1:=h.kept hka
 obtain ⟨u',w',hr,h2,h3⟩:=append_row h1.ow (Nat.le_trans h.k.size hka.size) w.heap.size 0 1 1 [z] rfl (fun i hi=>by
  have:i=0:=by simp at hi;exact hi
  subst this
  exact (cell_new w #[.int .i64 z] 3 0).trans rfl) hn ty
 have hob:∀ g,u.ownBlock=some g→w0.heap.size≤g:=fun g hg=>(h.ow.block g hg).1
 have hkeep:∀ g,g < (w.alloc (.cells #[.int .i64 z] 3)).heap.size→u.ownBlock≠some g→w'.heap[g]?=(w.alloc (.cells #[.int .i64 z] 3)).heap[g]?:=fun g hg hne=>(((Kept.refl u.ownBlock.toList (w.alloc (.cells #[.int .i64 z] 3))).grown h3.grown fun x hx=>Or.inl (by rw [hx];simp)).block g hg (by simpa using hne))
 refine ⟨u',w',hr,h1.k.grown h3.grown fun g hg=>Or.inr (hob g hg),(hkeep X (lt_of_heap h1.hx) h.ux).trans h1.hx,h2,fun e=>?_⟩
 rcases h3.at_ X e with h4 | h4
 · exact h.ux h4
 · have:=lt_of_heap h1.hx;omega
theorem Tw.cells {w0 w:World} {X:Nat} {p:Pl} {S:Sta} {u:Value} {xs:List Int} (h:Tw w0 w X p S u xs):w.cell? ⟨X,0,none⟩=some (.slice p.a1 S.ino.length p.c1)∧w.cell? ⟨X,1,none⟩=some (.slice p.a2 S.opn.length p.c2)∧w.cell? ⟨X,2,none⟩=some (.slice p.a3 S.made.length p.c3):=⟨cellB h.hx,cellB h.hx,cellB h.hx⟩
theorem tc_kept {w w':World} {X b i:Nat} {p:Pl} {S:Sta} {t:ByteArray} (h:w.cell? ⟨X,0,none⟩=some (.slice p.a1 S.ino.length p.c1)∧w.cell? ⟨X,1,none⟩=some (.slice p.a2 S.opn.length p.c2)∧w.cell? ⟨X,2,none⟩=some (.slice p.a3 S.made.length p.c3)∧w.cell? ⟨b,i,none⟩=some (.string t)) (k:Kept [] w w') :
  w'.cell? ⟨X,0,none⟩=some (.slice p.a1 S.ino.length p.c1)∧w'.cell? ⟨X,1,none⟩=some (.slice p.a2 S.opn.length p.c2)∧w'.cell? ⟨X,2,none⟩=some (.slice p.a3 S.made.length p.c3)∧w'.cell? ⟨b,i,none⟩=some (.string t):=
 ⟨k.cell h.1 (by simp),k.cell h.2.1 (by simp),k.cell h.2.2.1 (by simp),k.cell h.2.2.2 (by simp)⟩
theorem r_walk {w:World} {p:Pl} {S:Sta} (h:Sv w p S) (hc:Clo S.ino) (hz:∀ x∈S.ino,∀ e∈x.ents,e.2≠0) {names:List ByteArray} {a:Option Addr} {n0 c:Nat} (hn0:n0=names.length) (hs:Ss w a names) (hl:names.length≤1000) :
  Calls Tryz.prog 126 #[sval p S,.slice a n0 c] w fun e w'=>∃ ua ul uc,e=.returned (.tuple #[.int .i64 (walkR S.ino 1 names).1,.int .i64 (walkR S.ino 1 names).2,.slice ua ul uc])∧Kept [] w w':=by
 subst hn0
 obtain ⟨W0,X,HW,HB⟩:=boxS h
 have HX0:Hid (W0.heap[X]?=some (sbox p S)):=by show _=_;rw [← HW.out.1,← HW.out.2];exact Go.heap_alloc_new _ _
 have HSv:Hid (Sv w p S):=h
 have HSs:Hid (Ss w a names):=hs
 have HC:Hid (Clo S.ino):=hc
 have HZ:Hid (_):=hz
 have HR:Hid (∃ r,walkR S.ino 1 names=r):=⟨_,rfl⟩
 have HXl:Hid (w.heap.size≤X):=by show _≤_;have:=HW.out.2;omega
 obtain ⟨R,hR⟩:=HR.out
 rw [hR]
 have HRR:Hid (_):=hR
 clear h hs hc hz HR hR
 go_enter Tryz.func126,Tryz.ntmps126
 go_upto_region 1 with fail
 rw [HW.out.1,HW.out.2]
 clear HW
 go_wp2_with fail
 go_loopw [7,8,9] (fun at_ th i wr=>∃ (n:Nat) (num:Int) (ua:Option Addr) (uc:Nat) (xs:List Int),at_=.int .i64 num∧th=.slice ua xs.length uc∧i=.int .i64 (n:Int)∧n≤names.length∧xs.length≤n∧Hid (Tw w wr X p S (.slice ua xs.length uc) xs∧walkR S.ino num (names.drop n)=R∧(atR S.ino num).isSome=true)) (fun _ _ i _=>(names.length - intOf i).toNat)
 case atStart=>exact ⟨0,1,none,0,[],rfl,rfl,rfl,by omega,by simp,⟨HB.out.k,HX0.out,Own.nil _ _,by simp [Value.ownBlock]⟩,HRR.out,HC.out.root⟩
 case round=>
  clear HB HX0
  obtain ⟨n,num,ua,uc,xs,rfl,rfl,rfl,hn,hxl,HJ⟩:=hrel
  by_cases hlt:n < names.length
  ·
   have i0:(0:Int)≤(n:Int):=by omega
   have i1:(n:Int) < (names.length:Int):=by omega
   obtain ⟨x0,x1,x2⟩:=HJ.out.1.cells
   obtain ⟨k,hk⟩:=Option.isSome_iff_exists.1 HJ.out.2.2
   obtain ⟨hkl,-⟩:=at_get hk
   have HK:Hid (atR S.ino num=some k∧k < S.ino.length):=⟨hk,hkl⟩
   have HDr:Hid (walkR S.ino num (tx names n :: names.drop (n+1))=R):=by have:=HJ.out.2.1;rw [drop_tx hlt] at this;exact this
   have k0:(0:Int)≤(k:Int):=by omega
   have k1:(k:Int) < (S.ino.length:Int):=by omega
   clear hk
   go_wp2_with fail
   refine (r_at (HSv.out.kept HJ.out.1.k) num).mono ?_
   rintro e w1 ⟨rfl,kk1⟩
   rw [HK.out.1]
   unfold ixI
   dsimp only
   have H1:Hid (_):=HJ.out.1.kept kk1
   clear x0 x1 x2 kk1 HJ
   obtain ⟨x0,x1,x2⟩:=H1.out.cells
   obtain ⟨b,o,ae,ce,ha,-,h1,-⟩:=(HSv.out.kept H1.out.k).ino k hkl
   rw [ha] at x0
   have HA:Hid (_):=ha
   clear ha
   rcases hd:(S.ino[k]).dir with _ | _
   ·
    rw [hd] at h1
    have HE:Hid (R=(0,7)):=by rw [← HDr.out];exact walk_file HK.out.1 hkl hd
    clear hd
    go_wp2_with fail
    go_ret3
    first | exact ⟨⟨ua,xs.length,uc,(by rw [HE.out];rfl)⟩,H1.out.k⟩ | exact ⟨ua,xs.length,uc,(by rw [HE.out];rfl),H1.out.k⟩
   ·
    rw [hd] at h1
    have HD:Hid (_):=hd
    clear hd
    obtain ⟨u',w2,hr,h2⟩:=H1.out.append num (by omega) 25
    obtain ⟨ua',uc',hu',-⟩:=row_form h2.ow
    have hu2:u'=.slice ua' (xs ++ [num]).length uc':=hu'
    subst hu2
    have HAp:Hid (_):=hr
    have H2:Hid (_):=h2
    clear hr h2 hu'
    go_wp2_with (at_builtin;refine wpList_append_run _ rfl _ _ 25 25 rfl _ _ rfl rfl _ _ HAp.out ?_)
    clear x0 x1 x2 h1 HAp H1
    obtain ⟨x0,x1,x2⟩:=H2.out.cells
    obtain ⟨g,og,rfl,t0⟩:=(HSs.out.kept H2.out.k).2 n hlt
    obtain ⟨t,ht⟩:∃ t,tx names n=t:=⟨_,rfl⟩
    have HTt:Hid (_):=ht
    rw [ht] at t0 HDr
    clear ht
    have HC0:Hid (w2.drew.cell? ⟨X,0,none⟩=some (.slice p.a1 S.ino.length p.c1)∧w2.drew.cell? ⟨X,1,none⟩=some (.slice p.a2 S.opn.length p.c2)∧w2.drew.cell? ⟨X,2,none⟩=some (.slice p.a3 S.made.length p.c3)∧w2.drew.cell? ⟨g,og+n,none⟩=some (.string t)):=tc_kept ⟨x0,x1,x2,t0⟩ (Kept.refl _ _).drew
    have H2d:Hid (_):=H2.out.kept (Kept.refl _ _).drew
    clear x0 x1 x2 t0
    go_region_held3 (fun w'=>w'.cell? ⟨X,0,none⟩=some (.slice p.a1 S.ino.length p.c1)∧w'.cell? ⟨X,1,none⟩=some (.slice p.a2 S.opn.length p.c2)∧w'.cell? ⟨X,2,none⟩=some (.slice p.a3 S.made.length p.c3)∧w'.cell? ⟨g,og+n,none⟩=some (.string t)) (first | exact HC0.out | exact z4 | go_keep)
     (first
      | (go_at_call 90;refine (r_entry (HSv.out.kept H2d.out.k) num t).mono ?_;rintro e w3 ⟨rfl,k3⟩;have z4:=tc_kept HC0.out k3))
    have H3:Hid (_):=H2d.out.kept k3
    have HEn:Hid (entryR S.ino num t=(match plR (S.ino[k]).ents t with | none=>0 | some i=>(((S.ino[k]).ents[i]?).map Prod.snd).getD 0)):=by
     show _=_
     unfold entryR
     rw [HK.out.1]
     simp only [List.getElem?_eq_getElem hkl,Option.map_some,Option.getD_some]
     exact ent_pl _ _
    clear z4 HC0 H2d H2 k3
    rcases hp:plR (S.ino[k]).ents t with _ | i
    ·
     rw [hp] at HEn
     have HE:Hid (R=(0,1)):=by rw [← HDr.out];exact walk_miss HK.out.1 hkl HD.out hp
     rw [HEn.out]
     clear hp
     go_wp2_with fail
     go_ret3
     first
      | exact ⟨⟨ua',xs.length+1,uc',(by rw [HE.out];rfl)⟩,H3.out.k⟩
      | exact ⟨ua',xs.length+1,uc',(by rw [HE.out];rfl),H3.out.k⟩
    ·
     obtain ⟨hi,-⟩:=idx_get hp
     rw [hp] at HEn
     simp only [List.getElem?_eq_getElem hi,Option.map_some,Option.getD_some] at HEn
     have hnz:((S.ino[k]).ents[i]).2≠0:=HZ.out _ (List.getElem_mem hkl) _ (List.getElem_mem hi)
     have HN:Hid (walkR S.ino ((S.ino[k]).ents[i]).2 (names.drop (n+1))=R∧(atR S.ino ((S.ino[k]).ents[i]).2).isSome=true):=⟨by rw [← HDr.out,walk_on HK.out.1 hkl HD.out hp hi],HC.out.ent k hkl _ (List.getElem_mem hi)⟩
     rw [HEn.out]
     obtain ⟨z,hzz⟩:∃ z,((S.ino[k]).ents[i]).2=z:=⟨_,rfl⟩
     rw [hzz] at hnz HN ⊢
     have hz0:(z == 0)=false:=by simpa using hnz
     clear hp hzz
     go_wp2_with fail
     go_roundw
     case rel=>exact ⟨n+1,z,ua',uc',xs ++ [num],rfl,by simp,by go_num,by omega,by simp;omega,H3.out,HN.out.1,HN.out.2⟩
     case measure=>simp [intOf];omega
  ·
   have i1:¬ (n:Int) < (names.length:Int):=by omega
   have HE:Hid (R=(num,0)):=by
    rw [← HJ.out.2.1,List.drop_eq_nil_of_le (by omega)]
    rfl
   go_wp2_with fail
   go_ret3
   first | exact ⟨⟨ua,xs.length,uc,(by rw [HE.out];rfl)⟩,HJ.out.1.k⟩ | exact ⟨ua,xs.length,uc,(by rw [HE.out];rfl),HJ.out.1.k⟩
theorem Bx.block {w0 w:World} {X:Nat} {p:Pl} {S:Sta} (h:Bx w0 w X p S):w.cell? ⟨X,0,none⟩=some (.slice p.a1 S.ino.length p.c1)∧w.cell? ⟨X,1,none⟩=some (.slice p.a2 S.opn.length p.c2)∧w.cell? ⟨X,2,none⟩=some (.slice p.a3 S.made.length p.c3):=⟨h.x0,h.x1,h.x2⟩
theorem r_find {w:World} {p:Pl} {S:Sta} (h:Sv w p S) (hc:Clo S.ino) (hz:∀ x∈S.ino,∀ e∈x.ents,e.2≠0) (s:ByteArray) :
  Calls Tryz.prog 93 #[sval p S,.string s] w fun e w'=>e=.returned (.tuple #[.int .i64 (findR S.ino s).1,.int .i64 (findR S.ino s).2])∧Kept [] w w':=by
 obtain ⟨W0,X,HW,HB⟩:=boxS h
 have HSv:Hid (Sv w p S):=h
 have HC:Hid (Clo S.ino):=hc
 have HZ:Hid (_):=hz
 obtain ⟨R,hR⟩:∃ R,findR S.ino s=R:=⟨_,rfl⟩
 rw [hR]
 have HR:Hid (_):=hR
 clear h hc hz hR
 go_enter Tryz.func93,Tryz.ntmps93
 go_upto_region 1 with fail
 rw [HW.out.1,HW.out.2]
 clear HW
 go_wp2_with fail
 refine (f_parse s W0).mono ?_
 rintro e w1 ⟨v,rfl,hS,hk⟩
 have HS:Hid (Sr w1 W0.heap.size v (parseR s).1∧Kept [] w w1):=⟨hS,HB.out.k.trans hk (by simp)⟩
 have HB1:Hid (_):=HB.out.kept hk
 have HCo:Hid (_):=parse_code s
 obtain ⟨x,hx⟩:∃ x,(parseR s).2=x:=⟨_,rfl⟩
 have HX:Hid (_):=hx
 obtain ⟨a,c,hv,hss,-⟩:=hS.read
 rw [hx] at HCo ⊢
 subst hv
 have HSs:Hid (Ss w1 a (parseR s).1):=hss
 have hl4:=parse_few s
 clear hS hk hx hss HB
 by_cases hx0:x=0
 ·
  subst hx0
  obtain ⟨x0,x1,x2⟩:=HB1.out.block
  have HE:Hid (R=walkR S.ino 1 (parseR s).1):=by
   show _=_
   rw [← HR.out]
   unfold findR
   rw [HX.out,if_pos (show codeR 0=0 from rfl)]
  go_wp2_with fail
  refine (r_walk (HSv.out.kept HS.out.2) HC.out HZ.out rfl HSs.out (by have:=hl4.1;omega)).mono ?_
  rintro e w2 ⟨ua,ul,uc,rfl,k2⟩
  go_wp2_with fail
  go_ret2
  exact ⟨by rw [HE.out];rfl,HS.out.2.trans k2 (by simp)⟩
 ·
  have hxn:(x != 0)=true:=by simpa using hx0
  have HE:Hid (R=(0,codeR x)):=by
   show _=_
   rw [← HR.out]
   unfold findR
   rw [HX.out,if_neg]
   rcases HCo.out with e | e | e | e
   · exact absurd e hx0
   · rw [e];decide
   · rw [e];decide
   · rw [e];decide
  go_wp2_with fail
  refine (f_code x HCo.out w1).mono ?_
  rintro e w2 ⟨rfl,hw⟩
  subst hw
  go_wp2_with fail
  go_ret2
  exact ⟨by rw [HE.out];rfl,HS.out.2⟩
theorem pc_kept {w w':World} {X b i:Nat} {a1:Option Addr} {p:Pl} {S:Sta} {v:Value} (h:w.cell? ⟨X,0,none⟩=some (.slice a1 S.ino.length p.c1)∧w.cell? ⟨X,1,none⟩=some (.slice p.a2 S.opn.length p.c2)∧w.cell? ⟨X,2,none⟩=some (.slice p.a3 S.made.length p.c3)∧w.cell? ⟨b,i,none⟩=some v) (k:Kept [] w w') :
  w'.cell? ⟨X,0,none⟩=some (.slice a1 S.ino.length p.c1)∧w'.cell? ⟨X,1,none⟩=some (.slice p.a2 S.opn.length p.c2)∧w'.cell? ⟨X,2,none⟩=some (.slice p.a3 S.made.length p.c3)∧w'.cell? ⟨b,i,none⟩=some v:=
 ⟨k.cell h.1 (by simp),k.cell h.2.1 (by simp),k.cell h.2.2.1 (by simp),k.cell h.2.2.2 (by simp)⟩
theorem r_parent {w:World} {p:Pl} {S:Sta} (h:Sv w p S) (hc:Clo S.ino) (hz:∀ x∈S.ino,∀ e∈x.ents,e.2≠0) (s:ByteArray) {d:Int} {t:ByteArray} (hsp:spotR S.ino s=.ok (d,t)) :
  Calls Tryz.prog 89 #[sval p S,.string s] w fun e w'=>e=.returned (.tuple #[.int .i64 d,.string t,.int .i64 0])∧Kept [] w w':=by
 obtain ⟨W0,X,HW,HB⟩:=boxS h
 have HSv:Hid (Sv w p S):=h
 have HC:Hid (Clo S.ino):=hc
 have HZ:Hid (_):=hz
 have HP:Hid (codeR (parseR s).2=0∧(parseR s).1.length≠0∧walkR S.ino 1 ((parseR s).1.take ((parseR s).1.length - 1))=(d,0)∧dirOf S.ino d=true∧tx (parseR s).1 ((parseR s).1.length - 1)=t):=by
  unfold spotR at hsp
  split at hsp
  · cases hsp
  split at hsp
  · cases hsp
  split at hsp
  · cases hsp
  split at hsp
  ·
   rename_i a1 a2 a3 a4
   simp only [Except.ok.injEq,Prod.mk.injEq] at hsp
   refine ⟨by simpa using a1,a2,Prod.ext hsp.1 (by simpa using a3),by rw [← hsp.1];exact a4,hsp.2⟩
  · cases hsp
 have hl4:=parse_few s
 obtain ⟨L,hL⟩:∃ L,(parseR s).1=L:=⟨_,rfl⟩
 have HL:Hid (_):=hL
 rw [hL] at HP hl4
 clear h hc hz hsp hL
 go_enter Tryz.func89,Tryz.ntmps89
 go_upto_region 1 with fail
 rw [HW.out.1,HW.out.2]
 clear HW
 go_wp2_with fail
 refine (f_parse s W0).mono ?_
 rintro e w1 ⟨v,rfl,hS,hk⟩
 have HS:Hid (Kept [] w w1):=HB.out.k.trans hk (by simp)
 have HB1:Hid (_):=HB.out.kept hk
 have hx0:(parseR s).2=0:=by
  have h1:=HP.out.1
  rcases parse_code s with e | e | e | e
  · exact e
  · rw [e] at h1;exact absurd h1 (by decide)
  · rw [e] at h1;exact absurd h1 (by decide)
  · rw [e] at h1;exact absurd h1 (by decide)
 rw [hx0]
 rw [HL.out] at hS
 obtain ⟨a,c,hv,hss,-⟩:=hS.read
 have hcap:=hS
 subst hv
 have HSs:Hid (Ss w1 a L∧L.length≤c):=⟨hss,by rcases hcap.2 with ⟨e1,e2⟩ | ⟨g,cap,cur,e1,-,-,e4,-⟩;(rw [Value.slice.injEq] at e1;omega);(rw [Value.slice.injEq] at e1;omega)⟩
 have l0:¬ (L.length:Int)=0:=by have:=HP.out.2.1;omega
 have l0b:((L.length:Int) == 0)=false:=by simpa using l0
 have l1:(0:Int)≤(L.length:Int) - 1:=by have:=HP.out.2.1;omega
 have l2:(L.length:Int) - 1≤(c:Int):=by have:=HSs.out.2;omega
 have l3:(L.length:Int) - 1 < (L.length:Int):=by omega
 have l4:IntKind.i64.wrap ((L.length:Int) - 1)=(((L.length - 1:Nat):Nat):Int):=by rw [IntKind.wrap_i64];have:=HP.out.2.1;omega
 obtain ⟨b0,o0,ha0,t0⟩:=hss.2 (L.length - 1) (by have:=HP.out.2.1;omega)
 subst ha0
 obtain ⟨m,hm⟩:∃ m,L.length - 1=m:=⟨_,rfl⟩
 have HM:Hid (L.length=m+1):=by have:=HP.out.2.1;show _=_;omega
 have HPw:Hid (walkR S.ino 1 (L.take m)=(d,0)∧dirOf S.ino d=true∧tx L m=t):=by have:=HP.out;rw [hm] at this;exact this.2.2
 rw [hm] at t0 l4
 rw [HPw.out.2.2] at t0
 have l5:(m:Int) < (L.length:Int):=by have:=HM.out;omega
 have l6:(m:Int)≤(c:Int):=by have:=HSs.out.2;have:=HM.out;omega
 have l7:(0:Int)≤(m:Int):=by omega
 have HT0:Hid (w1.cell? ⟨b0,o0+m,none⟩=some (.string t)):=t0
 clear hS hk hss hcap hx0 hm HB
 obtain ⟨x0,x1,x2⟩:=HB1.out.block
 go_upto_region 6 with fail
 have HC0:Hid (w1.drew.cell? ⟨X,0,none⟩=some (.slice p.a1 S.ino.length p.c1)∧w1.drew.cell? ⟨X,1,none⟩=some (.slice p.a2 S.opn.length p.c2)∧w1.drew.cell? ⟨X,2,none⟩=some (.slice p.a3 S.made.length p.c3)∧w1.drew.cell? ⟨b0,o0+m,none⟩=some (.string t)):=pc_kept ⟨x0,x1,x2,t0⟩ (Kept.refl _ _).drew
 clear x0 x1 x2 t0
 have HWk:Hid (∀ W,Kept [] w1 W→Calls Tryz.prog 126 #[.agg #[.slice p.a1 S.ino.length p.c1,.slice p.a2 S.opn.length p.c2,.slice p.a3 S.made.length p.c3],.slice (some ⟨b0,o0,none⟩) m c] W fun e w'=>∃ ua ul uc,e=.returned (.tuple #[.int .i64 d,.int .i64 0,.slice ua ul uc])∧Kept [] W w'):=fun W k=>by
  have:=r_walk (HSv.out.kept (HS.out.trans k (by simp))) HC.out HZ.out (names:=L.take m) (n0:=m) (c:=c) (by rw [List.length_take];have:=HM.out;omega) ((HSs.out.1.kept k).take m) (by rw [List.length_take];have:=hl4.1;omega)
  rw [HPw.out.1] at this
  exact this
 go_region_held3 (fun w'=>w'.cell? ⟨X,0,none⟩=some (.slice p.a1 S.ino.length p.c1)∧w'.cell? ⟨X,1,none⟩=some (.slice p.a2 S.opn.length p.c2)∧w'.cell? ⟨X,2,none⟩=some (.slice p.a3 S.made.length p.c3)∧w'.cell? ⟨b0,o0+m,none⟩=some (.string t)) (first | exact HC0.out | exact z4 | go_keep)
  (first
   | (go_at_call 126;refine (HWk.out _ (Kept.refl _ _).drew).mono ?_;rintro e w2 ⟨ua,ul,uc,rfl,k2⟩;have z4:=pc_kept HC0.out k2))
 have HK2:Hid (Kept [] w1 w2):=((Kept.refl _ _).drew).trans k2 (by simp)
 have HB2:Hid (_):=HB1.out.kept HK2.out
 clear z4 k2 HC0 HWk
 obtain ⟨k,hk⟩:∃ k,atR S.ino d=some k:=by
  have:=HPw.out.2.1
  unfold dirOf at this
  rcases hh:atR S.ino d with _ | k
  · rw [hh] at this;cases this
  · exact ⟨k,rfl⟩
 obtain ⟨hkl,-⟩:=at_get hk
 have hdir:(S.ino[k]).dir=true:=by
  have:=HPw.out.2.1
  unfold dirOf at this
  rw [hk] at this
  simpa [List.getElem?_eq_getElem hkl] using this
 obtain ⟨b,o,ae,ce,ha,-,h1,-⟩:=HB2.out.sv.ino k hkl
 rw [hdir] at h1
 obtain ⟨x0,x1,x2⟩:=HB2.out.block
 rw [ha] at x0
 have k0:(0:Int)≤(k:Int):=by omega
 have k1:(k:Int) < (S.ino.length:Int):=by omega
 have HAt:Hid (∀ W,Sv W p S→Calls Tryz.prog 94 #[.agg #[.slice (some ⟨b,o,none⟩) S.ino.length p.c1,.slice p.a2 S.opn.length p.c2,.slice p.a3 S.made.length p.c3],.int .i64 d] W fun e w'=>e=.returned (.int .i64 (k:Int))∧Kept [] W w'):=fun W hW=>by
  have:=r_at hW d
  unfold sval at this
  rw [ha,hk] at this
  exact this
 have HA:Hid (_):=ha
 clear ha hk hdir
 go_upto_region 9 with fail
 have HC1:Hid (w2.drew.cell? ⟨X,0,none⟩=some (.slice (some ⟨b,o,none⟩) S.ino.length p.c1)∧w2.drew.cell? ⟨X,1,none⟩=some (.slice p.a2 S.opn.length p.c2)∧w2.drew.cell? ⟨X,2,none⟩=some (.slice p.a3 S.made.length p.c3)∧w2.drew.cell? ⟨b,o+k*4+1,none⟩=some (.bool true)):=pc_kept ⟨x0,x1,x2,h1⟩ (Kept.refl _ _).drew
 clear x0 x1 x2 h1
 go_region_held3 (fun w'=>w'.cell? ⟨X,0,none⟩=some (.slice (some ⟨b,o,none⟩) S.ino.length p.c1)∧w'.cell? ⟨X,1,none⟩=some (.slice p.a2 S.opn.length p.c2)∧w'.cell? ⟨X,2,none⟩=some (.slice p.a3 S.made.length p.c3)∧w'.cell? ⟨b,o+k*4+1,none⟩=some (.bool true)) (first | exact HC1.out | exact z5 | go_keep)
  (first
   | (go_at_call 94;refine (HAt.out _ (HB2.out.sv.kept (Kept.refl _ _).drew)).mono ?_;rintro e w3 ⟨rfl,k3⟩;have z5:=pc_kept HC1.out k3))
 have HK3:Hid (Kept [] w2 w3):=((Kept.refl _ _).drew).trans k3 (by simp)
 clear z5 k3 HC1
 have t3:=HK3.out.cell (HK2.out.cell HT0.out (by simp)) (by simp)
 go_wp2_with fail
 go_quiet (fail)
 go_wp2
 go_ret3
 exact ⟨rfl,((HS.out.trans HK2.out (by simp)).trans HK3.out (by simp)).drewN _⟩
theorem c7_kept {w w':World} {X b o k ce:Nat} {ae:Option Addr} {p:Pl} {S:Sta} {x:Ino} (h:w.cell? ⟨X,0,none⟩=some (.slice (some ⟨b,o,none⟩) S.ino.length p.c1)∧w.cell? ⟨X,1,none⟩=some (.slice p.a2 S.opn.length p.c2)∧w.cell? ⟨X,2,none⟩=some (.slice p.a3 S.made.length p.c3)∧w.cell? ⟨b,o+k*4,none⟩=some (.int .i64 x.num)∧w.cell? ⟨b,o+k*4+1,none⟩=some (.bool x.dir)∧w.cell? ⟨b,o+k*4+2,none⟩=some (.slice ae x.ents.length ce)∧w.cell? ⟨b,o+k*4+3,none⟩=some (.string x.data)) (k':Kept [] w w') :
  w'.cell? ⟨X,0,none⟩=some (.slice (some ⟨b,o,none⟩) S.ino.length p.c1)∧w'.cell? ⟨X,1,none⟩=some (.slice p.a2 S.opn.length p.c2)∧w'.cell? ⟨X,2,none⟩=some (.slice p.a3 S.made.length p.c3)∧w'.cell? ⟨b,o+k*4,none⟩=some (.int .i64 x.num)∧w'.cell? ⟨b,o+k*4+1,none⟩=some (.bool x.dir)∧w'.cell? ⟨b,o+k*4+2,none⟩=some (.slice ae x.ents.length ce)∧w'.cell? ⟨b,o+k*4+3,none⟩=some (.string x.data):=
 ⟨k'.cell h.1 (by simp),k'.cell h.2.1 (by simp),k'.cell h.2.2.1 (by simp),k'.cell h.2.2.2.1 (by simp),k'.cell h.2.2.2.2.1 (by simp),k'.cell h.2.2.2.2.2.1 (by simp),k'.cell h.2.2.2.2.2.2 (by simp)⟩
theorem own4 {Wx w':World} {v0 v1 v2 v3:Value} {t:TypeId} (k:Kept [] (Wx.alloc (.cells #[v0,v1,v2,v3] t (0,0))).drew w') :
  (w'.cell? ⟨Wx.heap.size,0,none⟩=some v0∧w'.cell? ⟨Wx.heap.size,1,none⟩=some v1∧w'.cell? ⟨Wx.heap.size,2,none⟩=some v2∧w'.cell? ⟨Wx.heap.size,3,none⟩=some v3)∧(w'.frozen? ⟨Wx.heap.size,0,none⟩=false∧w'.frozen? ⟨Wx.heap.size,1,none⟩=false∧w'.frozen? ⟨Wx.heap.size,2,none⟩=false∧w'.frozen? ⟨Wx.heap.size,3,none⟩=false)∧w'.heap[Wx.heap.size]?=some (.cells #[v0,v1,v2,v3] t (0,0)):=by
 have hb:w'.heap[Wx.heap.size]?=some (.cells #[v0,v1,v2,v3] t (0,0)):=(k.block _ (by show Wx.heap.size < (Wx.alloc _).heap.size;simp) (by simp)).trans (Go.heap_alloc_new _ _)
 exact ⟨⟨cellB hb,cellB hb,cellB hb,cellB hb⟩,⟨frozen_of hb 0,frozen_of hb 1,frozen_of hb 2,frozen_of hb 3⟩,hb⟩
theorem set4 {W0 w':World} {B:Nat} {v0 v1 v2 v3 u0 u1 u2 u3:Value} {t:TypeId} (hB:W0.heap.size≤B) (k:Kept [] W0 w') (hb:w'.heap[B]?=some (.cells #[v0,v1,v2,v3] t (0,0))) :
  Kept [] W0 ((((w'.setCell ⟨B,0,none⟩ u0).setCell ⟨B,1,none⟩ u1).setCell ⟨B,2,none⟩ u2).setCell ⟨B,3,none⟩ u3)∧((((w'.setCell ⟨B,0,none⟩ u0).setCell ⟨B,1,none⟩ u1).setCell ⟨B,2,none⟩ u2).setCell ⟨B,3,none⟩ u3).heap[B]?=some (.cells #[u0,u1,u2,u3] t (0,0)):=by
 refine ⟨(((k.setCell (Or.inr hB) _).setCell (Or.inr hB) _).setCell (Or.inr hB) _).setCell (Or.inr hB) _,?_⟩
 rw [block_set (block_set (block_set (block_set hb 0 u0) 1 u1) 2 u2) 3 u3]
 rfl
theorem r_full {w:World} {p:Pl} {S:Sta} (h:Sv w p S) {d:Int} {k:Nat} (hat:atR S.ino d=some k) {x:Ino} (hx:S.ino[k]?=some x) (t:ByteArray) (ht:t.size≤12) {bt:Nat} (hbt:bkt t=(bt:Int)) (hnm:∀ e∈x.ents,e.1.size≤12∧e.1.toList≠[]) :
   Calls Tryz.prog 91 #[sval p S,.int .i64 d,.string t,.string ⟨#[]⟩] w fun e w'=>e=.returned (.bool (decide (4≤inB x.ents bt)))∧Kept [] w w':=by
 obtain ⟨hkl,hxe⟩:=List.getElem?_eq_some_iff.1 hx
 obtain ⟨W0,X,HW,HB⟩:=boxS h
 have hel:x.ents.length≤140737488355328:=by have:=h.n4 _ (List.getElem_mem hkl);rw [hxe] at this;exact this
 obtain ⟨b,o,ae,ce,ha,q0,q1,q2,q3,q4,-⟩:=HB.out.sv.ino k hkl
 rw [hxe] at q0 q1 q2 q3 q4
 obtain ⟨x0,x1,x2⟩:=HB.out.block
 rw [ha] at x0
 have k0:(0:Int)≤(k:Int):=by omega
 have k1:(k:Int) < (S.ino.length:Int):=by omega
 have HAt:Hid (∀ W,Sv W p S→Calls Tryz.prog 94 #[.agg #[.slice (some ⟨b,o,none⟩) S.ino.length p.c1,.slice p.a2 S.opn.length p.c2,.slice p.a3 S.made.length p.c3],.int .i64 d] W fun e w'=>e=.returned (.int .i64 (k:Int))∧Kept [] W w'):=fun W hW=>by
   have:=r_at hW d
   unfold sval at this
   rw [ha,hat] at this
   exact this
 have HNm:Hid (_):=hnm
 have HTs:Hid (t.size≤12∧bkt t=(bt:Int)):=⟨ht,hbt⟩
 have HEn:Hid (EntA W0 ae x.ents):=q4
 have HCW:Hid (W0.cell? ⟨X,0,none⟩=some (.slice (some ⟨b,o,none⟩) S.ino.length p.c1)∧W0.cell? ⟨X,1,none⟩=some (.slice p.a2 S.opn.length p.c2)∧W0.cell? ⟨X,2,none⟩=some (.slice p.a3 S.made.length p.c3)∧W0.cell? ⟨b,o+k*4,none⟩=some (.int .i64 x.num)∧W0.cell? ⟨b,o+k*4+1,none⟩=some (.bool x.dir)∧W0.cell? ⟨b,o+k*4+2,none⟩=some (.slice ae x.ents.length ce)∧W0.cell? ⟨b,o+k*4+3,none⟩=some (.string x.data)):=⟨x0,x1,x2,q0,q1,q2,q3⟩
 have HC0:Hid (W0.drew.cell? ⟨X,0,none⟩=some (.slice (some ⟨b,o,none⟩) S.ino.length p.c1)∧W0.drew.cell? ⟨X,1,none⟩=some (.slice p.a2 S.opn.length p.c2)∧W0.drew.cell? ⟨X,2,none⟩=some (.slice p.a3 S.made.length p.c3)∧W0.drew.cell? ⟨b,o+k*4,none⟩=some (.int .i64 x.num)∧W0.drew.cell? ⟨b,o+k*4+1,none⟩=some (.bool x.dir)∧W0.drew.cell? ⟨b,o+k*4+2,none⟩=some (.slice ae x.ents.length ce)∧W0.drew.cell? ⟨b,o+k*4+3,none⟩=some (.string x.data)):=c7_kept ⟨x0,x1,x2,q0,q1,q2,q3⟩ (Kept.refl _ _).drew
 clear h hat hx hxe ha q0 q1 q2 q3 q4 x0 x1 x2 hnm ht hbt
 go_enter Tryz.func91,Tryz.ntmps91
 go_upto_region 2 with fail
 rw [HW.out.1,HW.out.2]
 clear HW
 go_cut [10] from 12 (fun u wx=>∃ Z:Nat,u=.pointer (some ⟨Z,0,none⟩)∧Hid (Kept [] W0 wx∧wx.heap[Z]?=some (.cells #[.int .i64 x.num,.bool x.dir,.slice ae x.ents.length ce,.string x.data] 62 (0,0))))
 case first=>
  go_region_held3 (fun w'=>w'.cell? ⟨X,0,none⟩=some (.slice (some ⟨b,o,none⟩) S.ino.length p.c1)∧w'.cell? ⟨X,1,none⟩=some (.slice p.a2 S.opn.length p.c2)∧w'.cell? ⟨X,2,none⟩=some (.slice p.a3 S.made.length p.c3)∧w'.cell? ⟨b,o+k*4,none⟩=some (.int .i64 x.num)∧w'.cell? ⟨b,o+k*4+1,none⟩=some (.bool x.dir)∧w'.cell? ⟨b,o+k*4+2,none⟩=some (.slice ae x.ents.length ce)∧w'.cell? ⟨b,o+k*4+3,none⟩=some (.string x.data)) (first | exact HC0.out | exact z4 | exact c7_kept HCW.out (set4 (Nat.le_refl _) HK1.out hbo).1 | exact c7_kept z4 ((Kept.refl _ _).alloc _) | exact c7_kept (by assumption) ((Kept.refl _ _).alloc _) | exact c7_kept HC0.out ((Kept.refl _ _).alloc _) | exact c7_kept HC0.out (((Kept.refl _ _).alloc _).trans (Kept.refl _ _).drew (by simp)) | go_keep)
   (first
     | (go_at_call 94;refine (HAt.out _ (HB.out.sv.kept (Kept.refl _ _).drew)).mono ?_;rintro e w1 ⟨rfl,k1'⟩;have z4:=c7_kept HC0.out k1';have HK1:Hid (Kept [] W0 w1):=((Kept.refl _ _).drew).trans k1' (by simp);clear k1')
     | (go_at_call 94;refine (HAt.out _ (HB.out.sv.kept (((Kept.refl _ _).alloc _).drew))).mono ?_;rintro e w1 ⟨rfl,k1'⟩;have z4:=c7_kept (by assumption) k1';have ho4:=own4 k1';obtain ⟨⟨n0,n1,n2,n3⟩,⟨f0,f1,f2,f3⟩,hbo⟩:=ho4;have HK1:Hid (Kept [] W0 w1):=(((Kept.refl _ _).alloc _).drew).trans k1' (by simp);clear k1'))
  ·
    go_wp2
    go_meet
    case rel=>exact ⟨_,rfl,HK1.out.alloc _,Go.heap_alloc_new _ _⟩
  ·
    clear n0 n1 n2 n3 f0 f1 f2 f3
    have h4:=set4 (u0:=.int .i64 x.num) (u1:=.bool x.dir) (u2:=.slice ae x.ents.length ce) (u3:=.string x.data) (Nat.le_refl _) HK1.out hbo
    obtain ⟨W9,hW9⟩:∃ W9,(((w1.setCell ⟨W0.heap.size,0,none⟩ (.int .i64 x.num)).setCell ⟨W0.heap.size,1,none⟩ (.bool x.dir)).setCell ⟨W0.heap.size,2,none⟩ (.slice ae x.ents.length ce)).setCell ⟨W0.heap.size,3,none⟩ (.string x.data)=W9:=⟨_,rfl⟩
    rw [hW9] at h4 ⊢
    have H4:Hid (_∧_):=h4
    clear h4 hW9 hbo
    go_wp2
    go_meet
    case rel=>exact ⟨_,rfl,H4.out⟩
 case rest=>
   obtain ⟨Z,rfl,HZ⟩:=hcut
   have y2:wc.cell? ⟨Z,2,none⟩=some (.slice ae x.ents.length ce):=cellB HZ.out.2
   go_wp2_with fail
   clear y2
   go_loopw [9,11] (fun u i wr=>∃ n:Nat,u=.int .i64 ((inB (x.ents.take n) bt:Nat):Int)∧i=.int .i64 (n:Int)∧n≤x.ents.length∧Hid (Kept [] wc wr)) (fun _ i _=>(x.ents.length - intOf i).toNat)
   case atStart=>exact ⟨0,by simp [inB],rfl,by omega,Kept.refl _ _⟩
   case round=>
     obtain ⟨n,rfl,rfl,hn,HJ⟩:=hrel
     have y2:wr.cell? ⟨Z,2,none⟩=some (.slice ae x.ents.length ce):=HJ.out.cell (cellB HZ.out.2) (by simp)
     by_cases hlt:n < x.ents.length
     ·
      have i0:(0:Int)≤(n:Int):=by omega
      have i1:(n:Int) < (x.ents.length:Int):=by omega
      obtain ⟨g,og,hg,e0,-⟩:=((HEn.out.kept HZ.out.1).kept HJ.out) n hlt
      rw [hg] at y2
      have HG:Hid (_):=hg
      have HNn:Hid (_):=HNm.out _ (List.getElem_mem hlt)
      have HTk:Hid (_):=inB_take (b:=bt) hlt
      have hql:inB (x.ents.take n) bt≤n:=by
       have:=List.countP_le_length (p:=fun e:En=>bkt e.1 == (bt:Int)) (l:=x.ents.take n)
       rw [List.length_take] at this
       unfold inB
       omega
      obtain ⟨q,hq⟩:∃ q,inB (x.ents.take n) bt=q:=⟨_,rfl⟩
      rw [hq] at HTk hql ⊢
      obtain ⟨te,hte⟩:∃ te,(x.ents[n]).1=te:=⟨_,rfl⟩
      rw [hte] at e0 HNn HTk
      have hne:(te.toList == [])=false:=by simpa using HNn.out.2
      have hne2:(te.toList != [])=true:=by simpa using HNn.out.2
      have hne3:te.toList.isEmpty=false:=by simpa using HNn.out.2
      obtain ⟨be,hbe⟩:∃ be:Nat,bkt te=(be:Int):=⟨(bkt te).toNat,by have:=bkt_range te;omega⟩
      have HBe:Hid (_):=hbe
      clear hg hq hte hbe
      go_wp2_with fail
      refine (rbucket_as te be HNn.out.1 HBe.out _).mono ?_
      rintro e w4 ⟨rfl,hw4⟩
      subst hw4
      go_wp2_with fail
      refine (rbucket_as t bt HTs.out.1 HTs.out.2 _).mono ?_
      rintro e w5 ⟨rfl,hw5⟩
      subst hw5
      by_cases hbq:be=bt
      ·
       have b1:((be:Int) == (bt:Int))=true:=by rw [hbq];simp
       have HT2:Hid (inB (x.ents.take (n+1)) bt=q+1):=by show _=_;rw [HTk.out,HBe.out,hbq,if_pos rfl]
       clear hbq HTk
       go_wp2_with fail
       go_roundw
       case rel=>exact ⟨n+1,by rw [HT2.out];go_num,by go_num,by omega,HJ.out⟩
       case measure=>simp [intOf];omega
      ·
       have b1:((be:Int) == (bt:Int))=false:=by simp;omega
       have HT2:Hid (inB (x.ents.take (n+1)) bt=q):=by show _=_;rw [HTk.out,HBe.out,if_neg (by omega)];omega
       clear hbq HTk
       go_wp2_with fail
       go_roundw
       case rel=>exact ⟨n+1,by rw [HT2.out],by go_num,by omega,HJ.out⟩
       case measure=>simp [intOf];omega
     ·
      have i1:¬ (n:Int) < (x.ents.length:Int):=by omega
      have HE:Hid (inB (x.ents.take n) bt=inB x.ents bt):=by show _=_;rw [List.take_of_length_le (by omega)]
      rw [HE.out]
      go_wp2_with fail
      go_ret
      exact ⟨by simp;omega,(HB.out.k.trans HZ.out.1 (by simp)).trans HJ.out (by simp)⟩
structure Hc (w0 w:World) (X:Nat) (v1 v2 v3:Value) (ev:List Value) (S:Sta):Prop where
 box:w.heap[X]?=some (.cells #[v1,v2,v3] 27 (0,0))
 os:Os w w0.heap.size v1 v2 v3 ev S
 off:Off [X] v1 v2 v3 ev
 lo:w0.heap.size≤X
 k:Kept [] w0 w
theorem Hc.kept {w0 w w':World} {X:Nat} {v1 v2 v3:Value} {ev:List Value} {S:Sta} (h:Hc w0 w X v1 v2 v3 ev S) (k:Kept [] w w'):Hc w0 w' X v1 v2 v3 ev S:=
 ⟨(k.block _ (lt_of_heap h.box) (by simp)).trans h.box,h.os.kept k,h.off,h.lo,h.k.trans k (by simp)⟩
theorem ent_more {W w:World} {u:Value} {E:List En} (h:w.ownsRow W.heap.size 64 2 u E.length (flat E)) (k:Kept [] W w) (e:En) (hn:E.length+1≤5864062014635) (ty:TypeId) :
  ∃ a c w',(Builtin.append_ #[60,60] ty #[u,.slice (some ⟨w.heap.size,0,none⟩) 1 1]).run Tryz.prog (w.alloc (.cells #[.string e.1,.int .i64 e.2] 64))=.ok (.slice a (E.length+1) c) w'∧w'.ownsRow W.heap.size 64 2 (.slice a (E.length+1) c) (E ++ [e]).length (flat (E ++ [e]))∧Kept [] W w':=by
 obtain ⟨i0,hi,hz0,hz1,hz2⟩:=info_parts info_Entry
 have kw:Kept [] w (w.alloc (.cells #[.string e.1,.int .i64 e.2] 64)):=(Kept.refl [] w).alloc _
 have h2:=row_keep h kw (by simp)
 have hc:∀ j v,([.string e.1,.int .i64 e.2]:List Value)[j]?=some v→(w.alloc (.cells #[.string e.1,.int .i64 e.2] 64)).cell? ((⟨w.heap.size,0,none⟩:Addr).add j)=some v:=fun j v hj=>by
  rw [add_lit,Nat.zero_add,cell_new,← hj]
  simp
 obtain ⟨g,cap,w',hr,r1,gr,hg,hgl⟩:=run_append_lies (P:=Tryz.prog) (w:=w.alloc (.cells #[.string e.1,.int .i64 e.2] 64)) 60 ty W.heap.size 64 i0 _ 2 24 Tryz.underlying60 hi hz0 hz1 hz2 rfl (by omega) u E.length (flat E) h2 ⟨w.heap.size,0,none⟩ 1 1 _ rfl hc (by
  intro v hv
  simp only [List.mem_cons,List.not_mem_nil,or_false] at hv
  rcases hv with rfl | rfl <;> rfl) (by omega) (by unfold maxLen;omega) (by omega) (by have:=k.size;have:=kw.size;omega) _ rfl
 refine ⟨_,_,w',hr,?_,?_⟩
 ·
  rw [List.length_append,flat_append]
  exact r1
 ·
  refine (k.trans kw (by simp)).grown gr fun x hx=>Or.inr ?_
  exact (h.lt x hx).1
def putP (E:List En) (q:Nat) (e:En) (n:Nat):List En:=if n≤q then E.take n else E.take q ++ e :: (E.take n).drop q
theorem putP_len {E:List En} {q:Nat} {e:En} {n:Nat} (hq:q≤E.length) (hn:n≤E.length):(putP E q e n).length≤n+1:=by
 unfold putP
 split
 · rw [List.length_take];omega
 · rw [List.length_append,List.length_cons,List.length_drop,List.length_take,List.length_take];omega
theorem putP_low {E:List En} {q:Nat} {e:En} {n:Nat} (h:n < E.length) (hq:n < q):putP E q e (n+1)=putP E q e n ++ [E[n]]:=by
 unfold putP
 rw [if_pos (by omega),if_pos (by omega),List.take_succ_eq_append_getElem h]
theorem putP_at {E:List En} {e:En} {n:Nat} (h:n < E.length):putP E n e (n+1)=(putP E n e n ++ [e]) ++ [E[n]]:=by
 unfold putP
 rw [if_neg (by omega),if_pos (Nat.le_refl _),List.take_succ_eq_append_getElem h,List.append_assoc]
 congr 1
 have hl:(E.take n).length=n:=by rw [List.length_take];omega
 rw [List.drop_append_of_le_length (by omega),List.drop_eq_nil_of_le (by omega)]
 rfl
theorem putP_high {E:List En} {q:Nat} {e:En} {n:Nat} (h:n < E.length) (hq:q < n):putP E q e (n+1)=putP E q e n ++ [E[n]]:=by
 unfold putP
 rw [if_neg (by omega),if_neg (by omega),List.take_succ_eq_append_getElem h,List.append_assoc]
 congr 1
 have hl:(E.take n).length=n:=by rw [List.length_take];omega
 rw [List.drop_append_of_le_length (by omega)]
 rfl
end Go.Proofs.YtffncojcnbhblaaGreatDoor
