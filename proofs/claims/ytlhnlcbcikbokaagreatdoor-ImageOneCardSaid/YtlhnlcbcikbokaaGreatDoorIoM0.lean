import Derived.Test.YtlhnlcbcikbokaaGreatDoorIoB
import Derived.Test.YtlhnlcbcikbokaaGreatDoorBase
set_option linter.unusedVariables false
set_option linter.unusedSimpArgs false
set_option linter.unusedSectionVars false
set_option maxRecDepth 100000
namespace Go.Proofs.YtlhnlcbcikbokaaGreatDoor
open Go.Lift
theorem lim_eq:lim=68719476736:=rfl
theorem maxLen_eq:maxLen=9223372036854775807:=by decide
theorem big_lt {n:Nat} (h:n≤maxLen):n < big:=by
 have:maxLen < big:=by decide
 omega
theorem b11:Nat.ble 1 1=true:=rfl
theorem ble_lim {n:Nat} (h:n≤68719476736):Nat.ble n lim=true:=Nat.ble_eq_true_of_le h
def join2 (acc:List Int) (x:List Int) (k:List Int→Option (List Int)):Option (List Int):=if acc.length+x.length≤68719476736 then k (acc++x) else none
theorem fold2:∀ (xs:List (List Int)) (acc:List Int),acc.length+xs.flatten.length≤68719476736→foldC (fun x s k=>join2 s x k) some xs acc=some (acc++xs.flatten)
 | [],acc,_=>by simp [foldC]
 | x::r,acc,h=>by
  simp only [List.flatten_cons,List.length_append] at h
  show join2 acc x (foldC (fun x s k=>join2 s x k) some r)=_
  rw [join2,if_pos (by omega),fold2 r (acc++x) (by rw [List.length_append];omega)]
  simp
theorem joined_loop (xs:List (List Int)) (hx:xs.length≤maxLen) (mk:(α:Type)→Nat→α→List α) (self0) (acc:List Int) (h:acc.length+xs.flatten.length≤68719476736) :
  iterV (gwire_joined_1 mk big self0) big (xs,(xs.length:Int),(0:Int),acc)=some (acc++xs.flatten):=by
 rw [← fold2 xs acc h]
 refine range_run (xs:=xs) (fun (s:List Int) i=>(xs,(xs.length:Int),(i:Int),s)) (fun x s k=>join2 s x k) some ?_ ?_ xs.length 0 big (by omega) (big_lt hx) acc
 ·intro self s
  simp [gwire_joined_1,hwire_joined_1]
 ·intro self s i hi
  have h1:decide ((i:Int) < (xs.length:Int))=true:=by simp;omega
  simp only [gwire_joined_1,hwire_joined_1,h1,cond_true,getI_at hi,Option.bind_some,wrap_succ hi hx,join2]
  by_cases hl:s.length+(xs[i]).length≤68719476736
  ·rw [if_pos hl]
   have:Nat.ble (s.length+(xs[i]).length) lim=true:=Nat.ble_eq_true_of_le (by rw [lim_eq];exact hl)
   simp [this,b11]
  ·rw [if_neg hl]
   have:Nat.ble (s.length+(xs[i]).length) lim=false:=by
    cases hb:Nat.ble (s.length+(xs[i]).length) lim with
    | false=>rfl
    | true=>exact absurd (Nat.le_of_ble_eq_true hb) (by rw [lim_eq];exact hl)
   simp [this]
theorem fold1 (fin:Int→Option (List Int)):∀ (xs:List (List Int)) (s:Nat),s+xs.flatten.length≤68719476736→foldC (fun (x:List Int) (s:Int) k=>k (IntKind.i64.wrap (s+(x.length:Int)))) fin xs (s:Int)=fin ((s+xs.flatten.length:Nat):Int)
 | [],s,_=>by simp [foldC]
 | x::r,s,h=>by
  simp only [List.flatten_cons,List.length_append] at h
  simp only [foldC]
  rw [wrap_i64 (by omega) (by omega)]
  have:=fold1 fin r (s+x.length) (by omega)
  rw [Int.natCast_add] at this
  rw [this]
  congr 2
  simp
  omega
theorem joined_eq (xs:List (List Int)) (hx:xs.length≤maxLen) (h:xs.flatten.length≤68719476736):cwire_joined xs=some xs.flatten:=by
 show iterV (gwire_joined_0 (fun _=>List.replicate) big) big (xs,(0:Int),xs,(xs.length:Int),(0:Int))=some xs.flatten
 have key:=range_run (xs:=xs) (g:=gwire_joined_0 (fun _=>List.replicate) big) (fun (s:Int) i=>(xs,s,xs,(xs.length:Int),(i:Int))) (fun (x:List Int) (s:Int) k=>k (IntKind.i64.wrap (s+(x.length:Int))))
  (fun s=>if 0≤s∧s≤68719476736 then some xs.flatten else none) ?_ ?_ xs.length 0 big (by omega) (big_lt hx) 0
 ·refine key.trans ?_
  have:=fold1 (fun s=>if 0≤s∧s≤68719476736 then some xs.flatten else none) xs 0 (by omega)
  rw [List.drop_zero]
  refine this.trans ?_
  rw [if_pos (by omega)]
 ·intro self s
  have h1:decide ((xs.length:Int) < (xs.length:Int))=false:=by simp
  simp only [gwire_joined_0,hwire_joined_0,h1,cond_false]
  have:=joined_loop xs hx (fun _=>List.replicate) self [] (by simpa using h)
  by_cases hs:0≤s∧s≤68719476736
  ·rw [if_pos hs]
   simpa [hs.1,hs.2] using this
  ·rw [if_neg hs]
   by_cases h0:0≤s
   ·have:¬ s≤68719476736:=fun hh=>hs ⟨h0,hh⟩
    simp [h0,this]
   ·simp [h0]
 ·intro self s i hi
  have h1:decide ((i:Int) < (xs.length:Int))=true:=by simp;omega
  simp only [gwire_joined_0,hwire_joined_0,h1,cond_true,getI_at hi,Option.bind_some,wrap_succ hi hx]
theorem joined1 (x:List Int) (h:x.length≤68719476736):cwire_joined [x]=some x:=by
 have:=joined_eq [x] (by simp [maxLen_eq]) (by simpa using h)
 simpa using this
theorem joined2 (x y:List Int) (h:x.length+y.length≤68719476736):cwire_joined [x,y]=some (x++y):=by
 have:=joined_eq [x,y] (by simp [maxLen_eq]) (by simpa using h)
 simpa using this
def varyF:Nat→Nat→List Int
 | 0,n=>[(n:Int)]
 | k+1,n=>if n < 128 then [(n:Int)] else ((n % 128+128:Nat):Int)::varyF k (n / 128)
def vary (n:Nat):List Int:=varyF 9 n
theorem varyF_len:∀ (k n:Nat),1≤(varyF k n).length∧(varyF k n).length≤k+1
 | 0,n=>by simp [varyF]
 | k+1,n=>by
  simp only [varyF]
  split
  ·simp
  ·have:=varyF_len k (n / 128)
   simp;omega
theorem vary_len (n:Nat):1≤(vary n).length∧(vary n).length≤10:=varyF_len 9 n
theorem or128 (n:Nat):(n % 256) ||| 128=n % 128+128:=by
 have h:∀ m,m < 256→m ||| 128=m % 128+128:=by decide +kernel
 rw [h _ (Nat.mod_lt _ (by decide))]
 omega
theorem vary_loop:∀ (k N n last:Nat) (ds:List Int),last+k=9→ds.length=10→n < 128 ^ (k+1)→k < N→n < 18446744073709551616→iterV (gwire_Vary_0 big) N ((n:Int),(last:Int),ds)=some (ds.take last++varyF k n)
 | k,0,n,last,ds,_,_,_,h,_=>by omega
 | k,N+1,n,last,ds,hl,hd,hn,hN,h64=>by
  rw [iterV_succ]
  simp only [gwire_Vary_0,hwire_Vary_0]
  have hc:(decide ((0:Int)≤(last:Int))&&decide ((last:Int) < (10:Int)))=true:=by simp;omega
  have hw:IntKind.i64.wrap ((last:Int)+1)=((last+1:Nat):Int):=by rw [wrap_i64 (by omega) (by omega)];simp
  have hset:∀ x:Int,(List.set ds last x).take (last+1)=ds.take last++[x]:=by
   intro x
   exact take_set_self ds last x (by omega)
  by_cases h:n < 128
  ·have h1:decide ((n:Int)≥(128:Int))=false:=by simp;omega
   have hv:IntKind.u8.wrap (n:Int)=(n:Int):=by rw [wrap_u8];omega
   have hc2:(decide ((0:Int)≤((last+1:Nat):Int))&&decide (((last+1:Nat):Int)≤((List.set ds last (n:Int)).length:Int)))=true:=by simp;omega
   simp only [h1,cond_false,hc,cond_true,hw,hv,Int.toNat_natCast,hc2,hset]
   rw [joined1 _ (by simp;omega)]
   have:varyF k n=[(n:Int)]:=by cases k <;> simp [varyF,h]
   simp [this]
  ·have h1:decide ((n:Int)≥(128:Int))=true:=by simp;omega
   cases k with
   | zero=>simp at hn;omega
   | succ k=>
    have hv:bits .or .u8 (IntKind.u8.wrap (n:Int)) (128:Int)=((n % 128+128:Nat):Int):=by
     have:IntKind.u8.wrap (n:Int)=((n % 256:Nat):Int):=by rw [wrap_u8];simp
     rw [this,← or128]
     exact bits_or (b:=128) rfl (Nat.mod_lt _ (by decide)) (by decide)
    simp only [h1,cond_true,hc,hw,hv,Int.toNat_natCast]
    rw [fdiv_nat n 7,vary_loop k N (n / 2 ^ 7) (last+1) _ (by omega) (by simpa using hd) (by rw [Nat.pow_succ] at hn;omega) (by omega) (by omega),hset]
    simp [varyF,h]
theorem vary_eq (n:Nat) (h:n < 18446744073709551616):cwire_Vary (n:Int)=some (vary n):=by
 have:=vary_loop 9 big n 0 (List.replicate 10 0) rfl (by simp) (by simp;omega) (by decide) h
 rw [List.take_zero,List.nil_append] at this
 exact this
theorem text_eq (s:List Int):cwire_Text s=some (if s.length > 200000 then ([],4) else (vary s.length++s,0)):=by
 simp only [cwire_Text,mwire_Text,nwire_Text]
 by_cases h:s.length > 200000
 ·have h1:decide ((s.length:Int) > (200000:Int))=true:=by simp;omega
  simp [h1,h]
 ·have h1:decide ((s.length:Int) > (200000:Int))=false:=by simp;omega
  have hw:IntKind.u64.wrap (s.length:Int)=((s.length:Nat):Int):=by rw [wrap_u64];omega
  have hv:=vary_len s.length
  simp only [h1,cond_false,hw,vary_eq s.length (by omega),Option.bind_some,joined2 _ _ (show (vary s.length).length+s.length≤68719476736 by omega),if_neg h]
abbrev Cur:=List Int×Int×Unit
def Valid (c:Cur):Prop:=c.1.length≤200000∧0≤c.2.1∧c.2.1≤c.1.length
instance (c:Cur):Decidable (Valid c):=by unfold Valid;infer_instance
theorem valid_eq (c:Cur):cwire_valid c=some (decide (Valid c)):=by
 simp only [cwire_valid,mwire_valid,nwire_valid,Valid]
 by_cases h1:c.1.length≤200000
 ·by_cases h2:0≤c.2.1
  ·simp [h1,h2,show ((c.1.length:Int)≤200000) by omega]
  ·simp [h1,h2,show ((c.1.length:Int)≤200000) by omega]
 ·simp [h1,show ¬ ((c.1.length:Int)≤200000) by omega]
theorem left_eq (c:Cur) (h:Valid c):cwire_left c=some ((c.1.length:Int) - c.2.1):=by
 obtain ⟨h1,h2,h3⟩:=h
 simp only [cwire_left,mwire_left,nwire_left]
 rw [wrap_i64 (by omega) (by omega)]
def wide (w:Int):Bool:=w==1||(w==2||(w==4||w==8))
theorem isWidth_eq (w:Int):cwire_isWidth w=some (wide w):=by
 simp only [cwire_isWidth,mwire_isWidth,nwire_isWidth,wide]
 cases w==1 <;> cases w==2 <;> cases w==4 <;> rfl
theorem wide_cases {w:Int} (h:wide w=true):∃ k:Nat,w=(k:Int)∧(k=1∨k=2∨k=4∨k=8):=by
 simp only [wide,Bool.or_eq_true,beq_iff_eq] at h
 rcases h with h | h | h | h
 ·exact ⟨1,h,.inl rfl⟩
 ·exact ⟨2,h,.inr (.inl rfl)⟩
 ·exact ⟨4,h,.inr (.inr (.inl rfl))⟩
 ·exact ⟨8,h,.inr (.inr (.inr rfl))⟩
def Fits (n w:Nat):Prop:=w=8∨n < 256 ^ w
theorem Left_eq (c:Cur):cwire_Left c=some (if Valid c then ((c.1.length:Int) - c.2.1,0) else (0,8)):=by
 simp only [cwire_Left,mwire_Left,nwire_Left,valid_eq,Option.bind_some]
 by_cases h:Valid c
 ·simp [h,left_eq c h]
 ·simp [h]
def rd:Nat→Nat→List Int→Nat×Nat×Int
 | 0,_,_=>(0,0,12)
 | _+1,_,[]=>(0,0,24)
 | k+1,p,b::r=>
  if (p > 0∧b=0)∨(p=9∧b > 1) then (0,0,12)
  else if b < 128 then (b.toNat,1,0)
  else if (rd k (p+1) r).2.2=0 then (b.toNat - 128+128 * (rd k (p+1) r).1,(rd k (p+1) r).2.1+1,0) else (0,0,(rd k (p+1) r).2.2)
theorem rd_vary:∀ (k p n:Nat) (rest:List Int),k+1+p=10→n < 2 ^ (64 - 7 * p)→(p > 0→n≠0)→rd (k+1) p (varyF k n++rest)=(n,(varyF k n).length,0)
 | 0,p,n,rest,hp,hn,h0=>by
  have:p=9:=by omega
  subst this
  have hn':n < 2:=hn
  have h1:¬ ((9 > 0∧((n:Int))=0)∨(9=9∧(n:Int) > 1)):=by omega
  simp only [varyF,List.cons_append,List.nil_append]
  rw [rd,if_neg h1,if_pos (by omega)]
  simp
 | k+1,p,n,rest,hp,hn,h0=>by
  by_cases h:n < 128
  ·have h1:¬ ((p > 0∧((n:Int))=0)∨(p=9∧(n:Int) > 1)):=by omega
   simp only [varyF,if_pos h,List.cons_append,List.nil_append]
   rw [rd,if_neg h1,if_pos (by omega)]
   simp
  ·have h1:¬ ((p > 0∧(((n % 128+128:Nat):Int))=0)∨(p=9∧(((n % 128+128:Nat):Int)) > 1)):=by omega
   have e:64 - 7 * p=(64 - 7 * (p+1))+7:=by omega
   have ih:=rd_vary k (p+1) (n / 128) rest (by omega) (by rw [e,Nat.pow_add] at hn;omega) (by intro _;omega)
   simp only [varyF,if_neg h,List.cons_append]
   rw [rd,if_neg h1,if_neg (by omega),ih]
   simp only [if_true,List.length_cons,Int.toNat_natCast]
   congr 1
   omega
theorem rd_read:∀ (k p:Nat) (bs:List Int),k+1+p=10→Bytes bs→(rd (k+1) p bs).2.2=0→
  varyF k (rd (k+1) p bs).1=bs.take (rd (k+1) p bs).2.1∧(rd (k+1) p bs).1 < 2 ^ (64 - 7 * p)∧1≤(rd (k+1) p bs).2.1∧(rd (k+1) p bs).2.1≤bs.length∧(p > 0→(rd (k+1) p bs).1≠0)
 | k,p,[],_,_,h=>by simp [rd] at h
 | k,p,b::r,hp,hb,h=>by
  have hbb:=hb b (by simp)
  rw [rd] at h ⊢
  by_cases h1:(p > 0∧b=0)∨(p=9∧b > 1)
  ·rw [if_pos h1] at h;simp at h
  ·rw [if_neg h1] at h ⊢
   by_cases h2:b < 128
   ·rw [if_pos h2] at h ⊢
    have e:varyF k b.toNat=[b]:=by
     have:((b.toNat:Nat):Int)=b:=Int.toNat_of_nonneg hbb.1
     cases k with
     | zero=>simp [varyF,this]
     | succ k=>simp [varyF,this,show b.toNat < 128 by omega]
    refine ⟨by simp [e],?_,by simp,by simp,by simp only;omega⟩
    simp only
    by_cases h9:p=9
    ·subst h9
     have:b.toNat < 2:=by omega
     simpa using this
    ·have:2 ^ 7≤2 ^ (64 - 7 * p):=Nat.pow_le_pow_right (by decide) (by omega)
     have:2 ^ 7=128:=rfl
     omega
   ·rw [if_neg h2] at h ⊢
    cases k with
    | zero=>simp [rd] at h
    | succ k=>
     by_cases h3:(rd (k+1) (p+1) r).2.2=0
     ·have ih:=rd_read k (p+1) r (by omega) (fun c hc=>hb c (by simp [hc])) h3
      rw [if_pos h3] at h ⊢
      obtain ⟨i1,i2,i3,i4,i5⟩:=ih
      generalize (rd (k+1) (p+1) r).1=m at *
      generalize (rd (k+1) (p+1) r).2.1=u at *
      have hm:=i5 (by omega)
      have hge:¬ (b.toNat - 128+128 * m < 128):=by omega
      have e1:(b.toNat - 128+128 * m) % 128+128=b.toNat:=by omega
      have e2:(b.toNat - 128+128 * m) / 128=m:=by omega
      have e3:((b.toNat:Nat):Int)=b:=Int.toNat_of_nonneg hbb.1
      have e:64 - 7 * p=(64 - 7 * (p+1))+7:=by omega
      refine ⟨?_,?_,by simp,by simp;omega,by simp only;omega⟩
      ·simp only [varyF,if_neg hge,e1,e2,e3,i1,List.take_succ_cons]
      ·simp only
       rw [e,Nat.pow_add]
       omega
     ·rw [if_neg h3] at h
      exact absurd h h3
def zc:Cur:=([],(0,()))
def outc (bs:List Int) (a:Nat) (most:Int) (n p:Nat) (r:Nat×Nat×Int):Cur×Int×Int:=
 if r.2.2=0 then (if ((n+r.1 * 128 ^ p:Nat):Int) > most then (zc,0,4) else ((bs,(((a+r.2.1:Nat):Int),())),((n+r.1 * 128 ^ p:Nat):Int),0)) else (zc,0,r.2.2)
theorem unvary_loop (bs:List Int) (most:Int) (hl:bs.length≤200000) (hb:Bytes bs):∀ (k N n p a:Nat),k+p=10→k < N→n < 128 ^ p→a≤bs.length→
  iterV (gwire_Unvary_0 big) N ((n:Int),(p:Int),(bs,((a:Int),())),((0:Int),()),([]:List Int),most)=some (outc bs a most n p (rd k p (bs.drop a)))
 | k,0,n,p,a,_,h,_,_=>by omega
 | 0,N+1,n,p,a,hp,_,_,_=>by
  rw [iterV_succ]
  have h1:decide ((p:Int) < (10:Int))=false:=decide_eq_false (by omega)
  simp only [gwire_Unvary_0,hwire_Unvary_0,h1,cond_false]
  simp [outc,rd,zc]
 | k+1,N+1,n,p,a,hp,hN,hn,ha=>by
  rw [iterV_succ]
  have h1:decide ((p:Int) < (10:Int))=true:=decide_eq_true (by omega)
  have hleft:cwire_left (bs,((a:Int),()))=some ((bs.length:Int) - (a:Int)):=left_eq _ ⟨hl,by simp,by simp;omega⟩
  simp only [gwire_Unvary_0,hwire_Unvary_0,h1,cond_true,hleft,Option.bind_some]
  by_cases he:a=bs.length
  ·have h2:(((bs.length:Int) - (a:Int))==(0:Int))=true:=by rw [beq_iff_eq];omega
   have hd:bs.drop a=[]:=by rw [he];simp
   simp only [h2,cond_true,hd]
   simp [outc,rd,zc]
  ·have hlt:a < bs.length:=by omega
   have h2:(((bs.length:Int) - (a:Int))==(0:Int))=false:=by rw [beq_eq_false_iff_ne];omega
   have hd:bs.drop a=bs[a]::bs.drop (a+1):=List.drop_eq_getElem_cons hlt
   have hbb:=hb bs[a] (List.getElem_mem hlt)
   have ha1:IntKind.i64.wrap ((a:Int)+1)=((a+1:Nat):Int):=by rw [wrap_i64 (by omega) (by omega)];simp
   simp only [h2,cond_false,getI_at hlt,Option.bind_some,ha1]
   rw [hd]
   generalize hc:bs[a]=c at *
   obtain ⟨m,rfl⟩:=Int.eq_ofNat_of_zero_le hbb.1
   have hm:m≤255:=by omega
   have h7:IntKind.i64.wrap ((7:Int) * (p:Int))=((7 * p:Nat):Int):=by rw [wrap_i64 (by omega) (by omega)];simp
   have h70:decide (((7 * p:Nat):Int) < 0)=false:=decide_eq_false (by omega)
   have hmin:min (7 * p) 64=7 * p:=by omega
   have hp1:IntKind.i64.wrap ((p:Int)+1)=((p+1:Nat):Int):=by rw [wrap_i64 (by omega) (by omega)];simp
   have hmod:IntKind.u64.wrap ((m:Int).tmod (128:Int))=((m % 128:Nat):Int):=by
    rw [Int.tmod_eq_emod_of_nonneg (by omega),wrap_u64];omega
   have e128:(2:Nat) ^ (7 * p)=128 ^ p:=by rw [Nat.pow_mul]
   by_cases hbad:(p > 0∧(m:Int)=0)∨(p=9∧(m:Int) > 1)
   ·
    have hr:rd (k+1) p ((m:Int)::bs.drop (a+1))=(0,0,12):=by rw [rd,if_pos hbad]
    rw [hr]
    rcases hbad with ⟨g1,g2⟩ | ⟨g1,g2⟩
    ·have hp0:decide ((p:Int) > (0:Int))=true:=decide_eq_true (by omega)
     have hm0:((m:Int)==(0:Int))=true:=by rw [beq_iff_eq];exact g2
     simp only [hp0,cond_true,hm0]
     cases (p:Int)==9 <;> simp [outc,zc]
    ·have hp0:decide ((p:Int) > (0:Int))=true:=decide_eq_true (by omega)
     have hp9:((p:Int)==(9:Int))=true:=by rw [beq_iff_eq];omega
     have hm1:decide ((m:Int) > (1:Int))=true:=decide_eq_true g2
     have hm0:((m:Int)==(0:Int))=false:=by rw [beq_eq_false_iff_ne];omega
     simp only [hp0,cond_true,hp9,hm0,cond_false,hm1]
     simp [outc,zc]
   ·
    have hsh:IntKind.u64.wrap (((m % 128:Nat):Int) * 2 ^ (7 * p))=((m % 128 * 128 ^ p:Nat):Int):=by
     have h64:m % 128 * 128 ^ p < 18446744073709551616:=by
      have hp9:p≤9:=by omega
      by_cases h9:p=9
      ·subst h9
       have:m≤1:=by omega
       have:m % 128≤1:=by omega
       calc m % 128 * 128 ^ 9≤1 * 128 ^ 9:=Nat.mul_le_mul_right _ this
        _ < 18446744073709551616:=by decide
      ·have hpp:128 ^ p≤128 ^ 8:=Nat.pow_le_pow_right (by decide) (by omega)
       calc m % 128 * 128 ^ p≤127 * 128 ^ 8:=Nat.mul_le_mul (by omega) hpp
        _ < 18446744073709551616:=by decide
     have e:(((m % 128:Nat):Int) * 2 ^ (7 * p))=((m % 128 * 128 ^ p:Nat):Int):=by
      rw [Int.natCast_mul,← e128,Int.natCast_pow];rfl
     rw [e,wrap_u64]
     omega
    have hor:bits .or .u64 (n:Int) ((m % 128 * 128 ^ p:Nat):Int)=((n+m % 128 * 128 ^ p:Nat):Int):=by
     have hn64:n < 2 ^ 64:=by
      have:128 ^ p≤128 ^ 9:=Nat.pow_le_pow_right (by decide) (by omega)
      have:(128:Nat) ^ 9 < 2 ^ 64:=by decide
      omega
     have h64:m % 128 * 128 ^ p < 2 ^ 64:=by
      rw [wrap_u64] at hsh
      have:(((m % 128:Nat):Int) * 2 ^ (7 * p)) % 18446744073709551616 < 18446744073709551616:=Int.emod_lt_of_pos _ (by decide)
      rw [hsh] at this
      have e:(2:Nat) ^ 64=18446744073709551616:=by decide
      omega
     rw [bits_or rfl hn64 h64,← e128,or_high (by rw [e128];exact hn)]
    have htail:(bif decide ((m:Int) < (128:Int)) then (bif (decide ((bits .or .u64 (n:Int) ((m % 128 * 128 ^ p:Nat):Int)) > most)) then (some ((([]:List Int),((0:Int),())),(0:Int),(4:Int))) else (some ((bs,(((a+1:Nat):Int),())),(bits .or .u64 (n:Int) ((m % 128 * 128 ^ p:Nat):Int)),(0:Int))))
      else iterV (gwire_Unvary_0 big) N ((bits .or .u64 (n:Int) ((m % 128 * 128 ^ p:Nat):Int)),((p+1:Nat):Int),(bs,(((a+1:Nat):Int),())),((0:Int),()),([]:List Int),most))=some (outc bs a most n p (rd (k+1) p ((m:Int)::bs.drop (a+1)))):=by
     rw [hor,rd,if_neg hbad]
     by_cases h128:m < 128
     ·have g1:decide ((m:Int) < (128:Int))=true:=decide_eq_true (by omega)
      rw [g1,cond_true,if_pos (by omega)]
      simp only [outc,if_true,Int.toNat_natCast,Nat.mod_eq_of_lt h128]
      by_cases hmost:((n+m * 128 ^ p:Nat):Int) > most
      ·rw [if_pos hmost,decide_eq_true hmost];rfl
      ·rw [if_neg hmost,decide_eq_false hmost];rfl
     ·have g1:decide ((m:Int) < (128:Int))=false:=decide_eq_false (by omega)
      rw [g1,cond_false,if_neg (by omega)]
      rw [unvary_loop bs most hl hb k N (n+m % 128 * 128 ^ p) (p+1) (a+1) (by omega) (by omega) ?_ (by omega)]
      ·generalize rd k (p+1) (bs.drop (a+1))=r
       have e1:n+m % 128 * 128 ^ p+r.1 * 128 ^ (p+1)=n+(m - 128+128 * r.1) * 128 ^ p:=by
        have:m % 128=m - 128:=by omega
        rw [this,Nat.pow_succ,Nat.add_mul,Nat.add_assoc]
        congr 2
        rw [Nat.mul_comm (128 ^ p) 128,← Nat.mul_assoc,Nat.mul_comm r.1 128]
       by_cases hr:r.2.2=0
       ·simp only [outc,hr,if_true,e1,Int.toNat_natCast]
        rw [show a+1+r.2.1=a+(r.2.1+1) by omega]
       ·simp only [outc,hr,if_false]
      ·have:m % 128≤127:=by omega
       have:m % 128 * 128 ^ p≤127 * 128 ^ p:=Nat.mul_le_mul_right _ this
       rw [Nat.pow_succ]
       omega
    rw [← htail]
    by_cases hp0:p=0
    ·subst hp0
     have g0:decide (((0:Nat):Int) > (0:Int))=false:=by decide
     have g9:((((0:Nat):Int))==(9:Int))=false:=by decide
     simp only [g0,cond_false,g9,hmod,h7,h70,Int.toNat_natCast,hmin,hsh,hp1]
    ·have g0:decide ((p:Int) > (0:Int))=true:=decide_eq_true (by omega)
     have hm0:((m:Int)==(0:Int))=false:=by rw [beq_eq_false_iff_ne];omega
     simp only [g0,cond_true,hm0,cond_false]
     by_cases h9:p=9
     ·have g9:((p:Int)==(9:Int))=true:=by rw [beq_iff_eq];omega
      have hm1:decide ((m:Int) > (1:Int))=false:=decide_eq_false (by omega)
      simp only [g9,cond_true,hm1,cond_false,hmod,h7,h70,Int.toNat_natCast,hmin,hsh,hp1]
     ·have g9:((p:Int)==(9:Int))=false:=by rw [beq_eq_false_iff_ne];omega
      simp only [g9,cond_false,hmod,h7,h70,Int.toNat_natCast,hmin,hsh,hp1]
theorem unvary_eq (c:Cur) (most:Int) (hb:Bytes c.1):cwire_Unvary (c,most)=some (if Valid c then outc c.1 c.2.1.toNat most 0 0 (rd 10 0 (c.1.drop c.2.1.toNat)) else (zc,0,8)):=by
 show nwire_Unvary (iterV (gwire_Unvary_0 big) big) (c,most)=_
 simp only [nwire_Unvary,valid_eq,Option.bind_some]
 by_cases h:Valid c
 ·obtain ⟨bs,at_,u⟩:=c
  obtain ⟨h1,h2,h3⟩:=h
  simp only at h1 h2 h3 hb
  obtain ⟨a,rfl⟩:=Int.eq_ofNat_of_zero_le h2
  have hv:Valid (bs,((a:Int),u)):=⟨h1,h2,h3⟩
  simp only [hv,decide_true,Bool.not_true,cond_false,if_true]
  have:=unvary_loop bs most h1 hb 10 big 0 0 a rfl (by decide) (by decide) (by omega)
  simpa using this
 ·simp [h,zc]
def dbl (x:Int):Nat:=if x < 0 then (-2 * x - 1).toNat else (2 * x).toNat
def half (n:Nat):Int:=if n % 2=1 then -1 - ((n / 2:Nat):Int) else ((n / 2:Nat):Int)
theorem dbl_lt {x:Int} (h0 : -9223372036854775808≤x) (h1:x≤9223372036854775807):dbl x < 18446744073709551616:=by
 unfold dbl
 split <;> omega
theorem half_dbl (x:Int):half (dbl x)=x:=by
 unfold half dbl
 split <;> split <;> omega
theorem dbl_half (n:Nat):dbl (half n)=n:=by
 unfold half dbl
 split <;> split <;> omega
theorem half_range {n:Nat} (h:n < 18446744073709551616) : -9223372036854775808≤half n∧half n≤9223372036854775807:=by
 unfold half
 split <;> omega
theorem or_one {m:Nat}:(2 * m) ||| 1=2 * m+1:=by
 have:=or_high (a:=1) (b:=m) (i:=1) (by decide)
 rw [Nat.or_comm,Nat.mul_comm]
 simpa [Nat.add_comm] using this
theorem signed_eq (x:Int) (h0 : -9223372036854775808≤x) (h1:x≤9223372036854775807):cwire_Signed x=some (vary (dbl x)):=by
 simp only [cwire_Signed,mwire_Signed,nwire_Signed]
 have hd:=dbl_lt h0 h1
 by_cases h:x < 0
 ·have g:decide (x < (0:Int))=true:=decide_eq_true h
  have e0:(if IntKind.signed .i64 then (-1:Int) else IntKind.max .i64) = -1:=rfl
  have e1:IntKind.u64.wrap (-1 - x)=((-1 - x).toNat:Int):=by rw [wrap_u64];omega
  have e2:IntKind.u64.wrap ((((-1 - x).toNat:Nat):Int) * 2 ^ 1)=((2 * (-1 - x).toNat:Nat):Int):=by rw [wrap_u64];omega
  have e3:bits .or .u64 ((2 * (-1 - x).toNat:Nat):Int) (1:Int)=((dbl x:Nat):Int):=by
   have:=bits_or (k:=.u64) (a:=2 * (-1 - x).toNat) (b:=1) rfl (by rw [show (2:Nat) ^ IntKind.u64.bits=18446744073709551616 by decide];omega) (by decide)
   rw [show ((1:Nat):Int)=1 from rfl] at this
   rw [this,or_one]
   congr 1
   unfold dbl
   rw [if_pos h]
   omega
  simp only [g,cond_true,e0,bits_not x h0 h1,e1,e2,e3,vary_eq _ hd,Option.bind_some]
 ·have g:decide (x < (0:Int))=false:=decide_eq_false h
  have e1:IntKind.u64.wrap x=(x.toNat:Int):=by rw [wrap_u64];omega
  have e2:IntKind.u64.wrap (((x.toNat:Nat):Int) * 2 ^ 1)=((dbl x:Nat):Int):=by
   rw [wrap_u64]
   unfold dbl
   rw [if_neg h]
   omega
  simp only [g,cond_false,e1,e2,vary_eq _ hd,Option.bind_some]
theorem and_one (n:Nat):n &&& 1=n % 2:=Nat.and_one_is_mod n
def outs (r:Cur×Int×Int):Cur×Int×Int:=if r.2.2=0 then (r.1,half r.2.1.toNat,0) else (zc,0,r.2.2)
theorem outc_num {bs:List Int} {a:Nat} {most:Int} {n p:Nat} {r:Nat×Nat×Int} (h:(outc bs a most n p r).2.2=0):r.2.2=0∧((n+r.1 * 128 ^ p:Nat):Int)≤most∧outc bs a most n p r=((bs,(((a+r.2.1:Nat):Int),())),((n+r.1 * 128 ^ p:Nat):Int),0):=by
 unfold outc at h ⊢
 by_cases hr:r.2.2=0
 ·rw [if_pos hr] at h ⊢
  by_cases hm:((n+r.1 * 128 ^ p:Nat):Int) > most
  ·rw [if_pos hm] at h;simp at h
  ·rw [if_neg hm]
   exact ⟨hr,by omega,rfl⟩
 ·rw [if_neg hr] at h
  exact absurd h hr
theorem unsigned_eq (c:Cur) (hb:Bytes c.1):cwire_Unsigned c=some (outs (if Valid c then outc c.1 c.2.1.toNat 18446744073709551615 0 0 (rd 10 0 (c.1.drop c.2.1.toNat)) else (zc,0,8))):=by
 simp only [cwire_Unsigned,mwire_Unsigned,nwire_Unsigned,unvary_eq c _ hb,Option.bind_some]
 generalize hx:(if Valid c then outc c.1 c.2.1.toNat 18446744073709551615 0 0 (rd 10 0 (c.1.drop c.2.1.toNat)) else (zc,0,8))=x
 by_cases he:x.2.2=0
 ·have hv:Valid c:=by
   apply Classical.byContradiction
   intro hn
   rw [if_neg hn] at hx
   subst hx
   simp at he
  rw [if_pos hv] at hx
  subst hx
  obtain ⟨h1,h2,h3⟩:=outc_num he
  have hrd:=rd_read 9 0 _ rfl (fun b hbb=>hb b (List.mem_of_mem_drop hbb)) h1
  rw [h3]
  generalize hn:(rd 10 0 (c.1.drop c.2.1.toNat)).1=n at *
  have hn64:n < 18446744073709551616:=hrd.2.1
  have e0:(0+n * 128 ^ 0)=n:=by omega
  rw [e0]
  have g:((0:Int) != (0:Int))=false:=rfl
  have e1:IntKind.i64.wrap ((n:Int).fdiv (2 ^ 1))=((n / 2:Nat):Int):=by
   rw [fdiv_nat n 1,wrap_i64 (by omega) (by omega)]
  have e2:bits .and .u64 (n:Int) (1:Int)=((n % 2:Nat):Int):=by
   have:=bits_and (k:=.u64) (a:=n) (b:=1) rfl (by simpa [IntKind.bits] using hn64) (by decide)
   rw [show ((1:Nat):Int)=1 from rfl] at this
   rw [this,and_one]
  have e3:(if IntKind.signed .i64 then (-1:Int) else IntKind.max .i64) = -1:=rfl
  simp only [g,cond_false,e1,e2,e3,outs,if_true,Int.toNat_natCast]
  by_cases ho:n % 2=1
  ·have g1:(((n % 2:Nat):Int)==(1:Int))=true:=by rw [beq_iff_eq];omega
   simp only [g1,cond_true,bits_not ((n / 2:Nat):Int) (by omega) (by omega),half,if_pos ho]
  ·have g1:(((n % 2:Nat):Int)==(1:Int))=false:=by rw [beq_eq_false_iff_ne];omega
   simp only [g1,cond_false,half,if_neg ho]
 ·have g:(x.2.2 != (0:Int))=true:=by rw [bne_iff_ne];exact he
  simp only [g,cond_true,outs,if_neg he]
  rfl
def outt (c:Cur) (most:Int):Cur×List Int×Int:=
 if ¬ Valid c then (zc,[],8) else if most < 0∨most > 200000 then (zc,[],2) else
  let x:=outc c.1 c.2.1.toNat most 0 0 (rd 10 0 (c.1.drop c.2.1.toNat))
  if x.2.2≠0 then (zc,[],x.2.2) else if (c.1.length:Int) - x.1.2.1 < x.2.1 then (zc,[],24) else ((c.1,(x.1.2.1+x.2.1,())),(c.1.take (x.1.2.1+x.2.1).toNat).drop x.1.2.1.toNat,0)
theorem untext_eq (c:Cur) (most:Int) (hb:Bytes c.1):cwire_Untext (c,most)=some (outt c most):=by
 simp only [cwire_Untext,mwire_Untext,nwire_Untext,valid_eq,Option.bind_some,outt]
 by_cases hv:Valid c
 ·simp only [hv,decide_true,Bool.not_true,cond_false,not_true_eq_false,if_false]
  by_cases h0:most < 0
  ·simp [h0,zc]
  ·by_cases h1:most > 200000
   ·simp [h0,h1,zc]
   ·have g0:decide (most < (0:Int))=false:=decide_eq_false h0
    have g1:decide (most > (200000:Int))=false:=decide_eq_false h1
    have gw:IntKind.u64.wrap most=most:=by rw [wrap_u64];omega
    rw [if_neg (by omega)]
    simp only [g0,g1,cond_false,gw,unvary_eq c most hb,if_pos hv,Option.bind_some]
    generalize hx:outc c.1 c.2.1.toNat most 0 0 (rd 10 0 (c.1.drop c.2.1.toNat))=x
    by_cases he:x.2.2=0
    ·subst hx
     obtain ⟨h2,h3,h4⟩:=outc_num he
     have hrd:=rd_read 9 0 _ rfl (fun b hbb=>hb b (List.mem_of_mem_drop hbb)) h2
     rw [h4]
     generalize (rd 10 0 (c.1.drop c.2.1.toNat)).1=n at *
     generalize (rd 10 0 (c.1.drop c.2.1.toNat)).2.1=u at *
     obtain ⟨v1,v2,v3⟩:=hv
     obtain ⟨_,r2,r3,r4,_⟩:=hrd
     rw [List.length_drop] at r4
     have e0:(0+n * 128 ^ 0)=n:=by omega
     rw [e0] at h3 ⊢
     have g:((0:Int) != (0:Int))=false:=rfl
     have hval:Valid (c.1,(((c.2.1.toNat+u:Nat):Int),())):=⟨v1,by simp only;omega,by simp only;omega⟩
     have hl:=left_eq _ hval
     have ew:IntKind.i64.wrap (n:Int)=(n:Int):=wrap_i64 (by omega) (by omega)
     simp only [g,cond_false,hl,Option.bind_some,ew,ne_eq,not_true_eq_false,if_false]
     by_cases hs:(c.1.length:Int) - ((c.2.1.toNat+u:Nat):Int) < (n:Int)
     ·rw [decide_eq_true hs,if_pos hs];rfl
     ·have ea:IntKind.i64.wrap (((c.2.1.toNat+u:Nat):Int)+(n:Int))=((c.2.1.toNat+u:Nat):Int)+(n:Int):=wrap_i64 (by omega) (by omega)
      have gc:(decide ((0:Int)≤((c.2.1.toNat+u:Nat):Int))&&(decide (((c.2.1.toNat+u:Nat):Int)≤((c.2.1.toNat+u:Nat):Int)+(n:Int))&&decide (((c.2.1.toNat+u:Nat):Int)+(n:Int)≤(c.1.length:Int))))=true:=by
       rw [decide_eq_true (by omega),decide_eq_true (by omega),decide_eq_true (by omega)];rfl
      rw [decide_eq_false hs,if_neg hs]
      simp only [cond_false,ea,gc,cond_true]
    ·have g:(x.2.2 != (0:Int))=true:=by rw [bne_iff_ne];exact he
     simp only [g,cond_true,ne_eq,he,not_false_eq_true,if_true]
     rfl
 ·simp [hv,zc]
def begins (a b:List Int):Bool:=decide (b.length≤a.length∧a.take b.length=b)
theorem rd_of_vary (n:Nat) (rest:List Int) (h:n < 18446744073709551616):rd 10 0 (vary n++rest)=(n,(vary n).length,0):=rd_vary 9 0 n rest rfl (by simpa using h) (by simp)
theorem vary_bytesF:∀ (k n:Nat),n < 128 ^ (k+1)→Bytes (varyF k n)
 | 0,n,h=>by intro c hc;simp [varyF] at hc;omega
 | k+1,n,h=>by
  intro c hc
  simp only [varyF] at hc
  split at hc
  ·simp at hc;omega
  ·rcases List.mem_cons.1 hc with rfl | hc
   ·omega
   ·exact vary_bytesF k (n / 128) (by rw [Nat.pow_succ] at h;omega) c hc
theorem vary_bytes {n:Nat} (h:n < 18446744073709551616):Bytes (vary n):=vary_bytesF 9 n (by simp;omega)
theorem bytes_append {a b:List Int} (ha:Bytes a) (hb:Bytes b):Bytes (a++b):=fun c hc=>(List.mem_append.1 hc).elim (ha c) (hb c)
theorem bytes_take {a:List Int} (ha:Bytes a) (n:Nat):Bytes (a.take n):=fun c hc=>ha c (List.mem_of_mem_take hc)
def unl:List Int→Nat
 | []=>0
 | b::r=>b.toNat+256 * unl r
theorem unl_lt:∀ (b:List Int),Bytes b→unl b < 256 ^ b.length
 | [],_=>by simp [unl]
 | c::r,h=>by
  have:=unl_lt r (fun d hd=>h d (by simp [hd]))
  have hc:=h c (by simp)
  simp only [unl,List.length_cons,Nat.pow_succ]
  omega
theorem unl_append:∀ (a b:List Int),unl (a++b)=unl a+256 ^ a.length * unl b
 | [],b=>by simp [unl]
 | c::a,b=>by
  simp only [List.cons_append,unl,unl_append a b,List.length_cons,Nat.pow_succ]
  rw [Nat.mul_add,← Nat.mul_assoc,Nat.mul_comm 256 (256 ^ a.length)]
  omega
theorem unfixed_loop (bs:List Int) (hl:bs.length≤200000) (hb:Bytes bs) (w a:Nat) (hw:w≤8) (ha:a+w≤bs.length):∀ (k N i:Nat),i+k=w→k < N→
  iterV (gwire_Unfixed_0 big) N ((w:Int),((unl ((bs.drop a).take i):Nat):Int),(w:Int),(i:Int),(bs,((a:Int),())),((0:Int),()),([]:List Int))=some ((bs,(((a+w:Nat):Int),())),((unl ((bs.drop a).take w):Nat):Int),0)
 | k,0,i,_,h=>by omega
 | 0,N+1,i,hi,_=>by
  have:i=w:=by omega
  subst this
  rw [iterV_succ]
  have h1:decide ((i:Int) < (i:Int))=false:=decide_eq_false (by omega)
  have h2:IntKind.i64.wrap ((a:Int)+(i:Int))=((a+i:Nat):Int):=by rw [wrap_i64 (by omega) (by omega)];simp
  simp only [gwire_Unfixed_0,hwire_Unfixed_0,h1,cond_false,h2]
 | k+1,N+1,i,hi,hN=>by
  rw [iterV_succ]
  have h1:decide ((i:Int) < (w:Int))=true:=decide_eq_true (by omega)
  have h2:IntKind.i64.wrap ((a:Int)+(i:Int))=((a+i:Nat):Int):=by rw [wrap_i64 (by omega) (by omega)];simp
  have hlt:a+i < bs.length:=by omega
  have h8:IntKind.i64.wrap ((8:Int) * (i:Int))=((8 * i:Nat):Int):=by rw [wrap_i64 (by omega) (by omega)];simp
  have h80:decide (((8 * i:Nat):Int) < 0)=false:=decide_eq_false (by omega)
  have hmin:min (8 * i) 64=8 * i:=by omega
  have hi1:IntKind.i64.wrap ((i:Int)+1)=((i+1:Nat):Int):=by rw [wrap_i64 (by omega) (by omega)];simp
  have hbb:=hb bs[a+i] (List.getElem_mem hlt)
  have htake:(bs.drop a).take (i+1)=(bs.drop a).take i++[bs[a+i]]:=by
   rw [List.take_add_one]
   congr 1
   simp [List.getElem?_drop,hlt]
  have hulen:((bs.drop a).take i).length=i:=by simp;omega
  have hu:=unl_lt ((bs.drop a).take i) (bytes_take (fun c hc=>hb c (List.mem_of_mem_drop hc)) i)
  rw [hulen] at hu
  simp only [gwire_Unfixed_0,hwire_Unfixed_0,h1,cond_true,h2,getI_at hlt,Option.bind_some,h8,h80,cond_false,Int.toNat_natCast,hmin,hi1]
  have e256:(2:Nat) ^ (8 * i)=256 ^ i:=by rw [Nat.pow_mul]
  have key:bits .or .u64 ((unl ((bs.drop a).take i):Nat):Int) (IntKind.u64.wrap (IntKind.u64.wrap bs[a+i] * 2 ^ (8 * i)))=((unl ((bs.drop a).take (i+1)):Nat):Int):=by
   rw [htake,unl_append,hulen]
   generalize bs[a+i]=c at *
   obtain ⟨m,rfl⟩:=Int.eq_ofNat_of_zero_le hbb.1
   have hm:m≤255:=by omega
   have hpow:256 ^ i≤256 ^ 7:=Nat.pow_le_pow_right (by decide) (by omega)
   have h7:(256:Nat) ^ 7=72057594037927936:=by decide
   have e64:(2:Nat) ^ 64=18446744073709551616:=by decide
   have hmul:m * 256 ^ i≤255 * 256 ^ 7:=Nat.mul_le_mul hm hpow
   have e1:IntKind.u64.wrap (m:Int)=(m:Int):=by rw [wrap_u64];omega
   have e2:((m:Int) * 2 ^ (8 * i))=((m * 256 ^ i:Nat):Int):=by rw [Int.natCast_mul,← e256,Int.natCast_pow];rfl
   have e3:IntKind.u64.wrap ((m * 256 ^ i:Nat):Int)=((m * 256 ^ i:Nat):Int):=by rw [wrap_u64];omega
   rw [e1,e2,e3,bits_or rfl (by simp only [IntKind.bits];omega) (by simp only [IntKind.bits];omega),← e256,or_high (by rw [e256];exact hu)]
   simp only [unl,Int.toNat_natCast]
   congr 1
   rw [Nat.mul_comm m]
   simp
  rw [key]
  exact unfixed_loop bs hl hb w a hw ha k N (i+1) (by omega) (by omega)
theorem unfixed_eq (c:Cur) (w:Int) (hb:Bytes c.1):cwire_Unfixed (c,w)=some (if ¬ Valid c then (zc,0,8) else if wide w=false then (zc,0,2) else if (c.1.length:Int) - c.2.1 < w then (zc,0,24)
  else ((c.1,(c.2.1+w,())),((unl ((c.1.drop c.2.1.toNat).take w.toNat):Nat):Int),0)):=by
 show nwire_Unfixed (iterV (gwire_Unfixed_0 big) big) (c,w)=_
 simp only [nwire_Unfixed,valid_eq,isWidth_eq,Option.bind_some]
 by_cases hv:Valid c
 ·rw [if_neg (not_not_intro hv),left_eq c hv]
  simp only [hv,decide_true,Bool.not_true,cond_false,Option.bind_some]
  cases hw:wide w with
  | false=>simp [zc]
  | true=>
   obtain ⟨k,rfl,hk⟩:=wide_cases hw
   obtain ⟨bs,at_,u⟩:=c
   obtain ⟨h1,h2,h3⟩:=hv
   simp only at h1 h2 h3 hb ⊢
   obtain ⟨a,rfl⟩:=Int.eq_ofNat_of_zero_le h2
   by_cases hs:(bs.length:Int) - (a:Int) < (k:Int)
   ·have g:decide ((bs.length:Int) - (a:Int) < (k:Int))=true:=decide_eq_true hs
    simp [g,hs,zc]
   ·have g:decide ((bs.length:Int) - (a:Int) < (k:Int))=false:=decide_eq_false hs
    have:=unfixed_loop bs h1 hb k a (by omega) (by omega) k big 0 (by omega) (big_lt (by rw [maxLen_eq];omega))
    simp only [Bool.not_true,cond_false,g,hs,if_false,Int.toNat_natCast]
    rw [if_neg (by simp)]
    refine Eq.trans this ?_
    simp
 ·simp [hv,zc]
abbrev Ins:=Int×Int×Int×Int×Unit
def zi:Ins:=(0,(0,(0,(0,()))))
theorem big_4:big=(big - 4)+4:=by decide
theorem w01:IntKind.i64.wrap ((0:Int)+1)=1:=by decide
theorem w12:IntKind.i64.wrap ((1:Int)+1)=2:=by decide
theorem w23:IntKind.i64.wrap ((2:Int)+1)=3:=by decide
theorem getI_0 {α:Type} (a:α) (l:List α):getI (a::l) 0=some a:=rfl
theorem getI_1 {α:Type} (a b:α) (l:List α):getI (a::b::l) 1=some b:=rfl
theorem getI_2 {α:Type} (a b c:α) (l:List α):getI (a::b::c::l) 2=some c:=rfl
theorem beqd (a b:Int):(a==b)=decide (a=b):=rfl
def isOp (o:Int):Bool:=decide (1≤o)&&decide (o≤34)
theorem isOperation_eq (o:Int):cops_isOperation o=some (isOp o):=by
 simp only [cops_isOperation,mops_isOperation,nops_isOperation,isOp]
 by_cases h:(1:Int)≤o <;> simp [h]
def opRow (k:Nat):List Int×List Int×Unit:=gl0.getD k ([],[],())
def rol (o:Int):List Int:=(opRow o.toNat).2.1
def nam (o:Int):List Int:=(opRow o.toNat).1
theorem op_nat {o:Int} (h:isOp o=true):∃ k:Nat,o=(k:Int)∧1≤k∧k≤34:=by
 simp only [isOp,Bool.and_eq_true,decide_eq_true_eq] at h
 exact ⟨o.toNat,by omega,by omega,by omega⟩
theorem ops_len:List.length gl0=35:=by decide +kernel
theorem ops_at {o:Int} (h:isOp o=true):getI gl0 o=some (nam o,rol o,()):=by
 obtain ⟨k,rfl,h1,h2⟩:=op_nat h
 rw [getI_nat,getD_at (by rw [ops_len];omega) ([],[],())]
 rfl
def Rl (r:Int):Prop:=0≤r∧r≤10
instance (r:Int):Decidable (Rl r):=by unfold Rl;infer_instance
def three (l:List Int):Bool:=match l with | [a,b,c]=>decide (Rl a)&&decide (Rl b)&&decide (Rl c) | _=>false
theorem three_all:((List.range 35).all fun k=>three (opRow k).2.1)=true:=by decide +kernel
theorem rol_three {o:Int} (h:isOp o=true):∃ a b c,rol o=[a,b,c]∧Rl a∧Rl b∧Rl c:=by
 obtain ⟨k,rfl,h1,h2⟩:=op_nat h
 have:=List.all_eq_true.1 three_all k (List.mem_range.2 (by omega))
 unfold rol
 rw [Int.toNat_natCast]
 unfold three at this
 split at this
 ·rename_i a b c e
  simp only [Bool.and_eq_true,decide_eq_true_eq] at this
  exact ⟨a,b,c,e,this.1.1,this.1.2,this.2⟩
 ·cases this
theorem rl_cases {r:Int} (h:Rl r):r=0∨r=1∨r=2∨r=3∨r=4∨r=5∨r=6∨r=7∨r=8∨r=9∨r=10:=by
 unfold Rl at h;omega
def idx (n k:Int):Bool:=decide (0≤n)&&decide (n < k)
theorem isIndex_eq (n k:Int):cops_isIndex (n,k)=some (idx n k):=by
 simp only [cops_isIndex,mops_isIndex,nops_isIndex,idx]
 by_cases h:(0:Int)≤n <;> simp [h]
def fit (r n:Int):Bool:=
 if r=5 then true else if r=3∨r=4 then decide (n = -1)||idx n 16 else if r=1∨r=2 then idx n 16 else if r=6 then idx n 2 else if r=7∨r=9 then idx n 32 else if r=8 then idx n 8 else if r=10 then idx n 200 else decide (n=0)
theorem fits_eq (r n:Int) (h:Rl r):cops_fits (r,n)=some (fit r n):=by
 rcases rl_cases h with rfl | rfl | rfl | rfl | rfl | rfl | rfl | rfl | rfl | rfl | rfl <;>
  by_cases hn:n = -1 <;> simp [cops_fits,mops_fits,nops_fits,isIndex_eq,fit,beqd,hn]
def sg (r:Int):Bool:=decide (r=5)||decide (r=3)||decide (r=4)
theorem isSigned_eq (r:Int):cops_isSigned r=some (sg r):=by
 simp only [cops_isSigned,mops_isSigned,nops_isSigned,sg]
 by_cases h5:r=5
 ·subst h5;rfl
 by_cases h3:r=3
 ·subst h3;rfl
 simp [h5,h3,beqd]
theorem fit_low {r n:Int} (hr:Rl r) (h:fit r n=true) (hs:sg r=false):0≤n∧n < 1000:=by
 rcases rl_cases hr with rfl | rfl | rfl | rfl | rfl | rfl | rfl | rfl | rfl | rfl | rfl <;> simp [fit,sg,idx] at h hs <;> omega
def fitL:List Int→List Int→Bool
 | r::rs,n::ns=>fit r n&&fitL rs ns
 | _,_=>true
def vals (x:Ins):List Int:=[x.2.1,x.2.2.1,x.2.2.2.1]
def okI (x:Ins):Bool:=isOp x.1&&fitL (rol x.1) (vals x)
theorem operands_eq (x:Ins):cops_operands x=some (vals x):=rfl
theorem chk_step (N:Nat) (self0) {rs ns:List Int} {i r n:Int} (h0:0≤i) (h3:i < 3) (hr:getI rs i=some r) (hn:nth ns i.toNat=some n) (hl:Rl r) :
  gops_Check_0 N self0 (rs,i,ns)=if fit r n then self0 (rs,IntKind.i64.wrap (i+1),ns) else some 8:=by
 show hops_Check_0 self0 _=_
 unfold hops_Check_0
 dsimp only
 rw [decide_eq_true h3,decide_eq_true h0,cond_true,hr]
 simp only [Option.bind_some,Bool.and_self,cond_true,hn,fits_eq r n hl]
 cases fit r n <;> rfl
theorem Check_eq (x:Ins):cops_Check x=some (if okI x then 0 else 8):=by
 show nops_Check (iterV (gops_Check_0 big) big) x=_
 unfold nops_Check
 rw [isOperation_eq,Option.bind_some,operands_eq,Option.bind_some]
 cases h:isOp x.1 with
 | false=>simp [okI,h]
 | true=>
  obtain ⟨a,b,c,e,ha,hb,hc⟩:=rol_three h
  rw [ops_at h]
  simp only [Option.bind_some,Bool.not_true,cond_false,e]
  rw [big_4,iterV_succ,chk_step _ _ (by decide) (by decide) (getI_0 _ _) rfl ha,w01]
  simp only [okI,h,e,fitL,vals,Bool.true_and,Bool.and_true]
  cases fit a x.2.1 with
  | false=>rfl
  | true=>
   rw [if_pos rfl,iterV_succ,chk_step _ _ (by decide) (by decide) (getI_1 _ _ _) rfl hb,w12]
   cases fit b x.2.2.1 with
   | false=>rfl
   | true=>
    rw [if_pos rfl,iterV_succ,chk_step _ _ (by decide) (by decide) (getI_2 _ _ _ _) rfl hc,w23]
    cases fit c x.2.2.2.1 with
    | false=>rfl
    | true=>rfl
def raw (r n:Int):Nat:=if sg r then dbl n else n.toNat
def seg (r n:Int):List Int:=if r=0 then [] else vary (raw r n)
def body:List Int→List Int→List Int
 | r::rs,n::ns=>seg r n++body rs ns
 | _,_=>[]
def enc (x:Ins):List Int:=x.1::body (rol x.1) (vals x)
def I64 (n:Int):Prop:=-9223372036854775808≤n∧n≤9223372036854775807
theorem seg_len (r n:Int):(seg r n).length≤10:=by
 unfold seg
 split
 ·simp
 ·exact (vary_len _).2
theorem enc_step (N:Nat) (self0) {rs acc ns:List Int} {i r n:Int} (h0:0≤i) (h3:i < 3) (hr:getI rs i=some r) (hn:nth ns i.toNat=some n) (hl:Rl r) (hf:fit r n=true) (h64:I64 n) (ha:acc.length≤100) :
  gops_Encode_0 N self0 (rs,i,acc,ns)=self0 (rs,IntKind.i64.wrap (i+1),acc++seg r n,ns):=by
 show hops_Encode_0 self0 _=_
 unfold hops_Encode_0
 dsimp only
 rw [decide_eq_true h3,decide_eq_true h0,cond_true,hr]
 simp only [Option.bind_some,Bool.and_self,cond_true,hn,isSigned_eq]
 by_cases hr0:r=0
 ·subst hr0
  simp [seg]
 ·have e:(r != 0)=true:=by simpa using hr0
  rw [e,cond_true,seg,if_neg hr0,raw]
  cases hs:sg r with
  | true=>
   have l:=vary_len (dbl n)
   simp only [cond_true,if_true]
   rw [signed_eq n h64.1 h64.2,Option.bind_some,b11,ble_lim (by omega)]
   rfl
  | false=>
   obtain ⟨l0,l1⟩:=fit_low hl hf hs
   obtain ⟨m,rfl⟩:=Int.eq_ofNat_of_zero_le l0
   have l:=vary_len m
   have e1:IntKind.u64.wrap (m:Int)=(m:Int):=by rw [wrap_u64];omega
   simp only [cond_false]
   rw [e1,vary_eq m (by omega),Option.bind_some,b11,ble_lim (by omega)]
   rfl
def WfI (x:Ins):Prop:=I64 x.2.1∧I64 x.2.2.1∧I64 x.2.2.2.1
theorem okI_three {x:Ins} (h:okI x=true):∃ a b c,isOp x.1=true∧rol x.1=[a,b,c]∧Rl a∧Rl b∧Rl c∧fit a x.2.1=true∧fit b x.2.2.1=true∧fit c x.2.2.2.1=true:=by
 simp only [okI,Bool.and_eq_true] at h
 obtain ⟨a,b,c,e,ha,hb,hc⟩:=rol_three h.1
 have h2:=h.2
 simp only [e,vals,fitL,Bool.and_eq_true,Bool.and_true] at h2
 exact ⟨a,b,c,h.1,e,ha,hb,hc,h2.1,h2.2.1,h2.2.2⟩
theorem Encode_eq (x:Ins) (w:WfI x):cops_Encode x=some (if okI x then (enc x,0) else ([],8)):=by
 show nops_Encode (iterV (gops_Encode_0 big) big) x=_
 unfold nops_Encode
 rw [Check_eq,Option.bind_some,operands_eq,Option.bind_some]
 cases h:okI x with
 | false=>rfl
 | true=>
  obtain ⟨a,b,c,ho,e,ha,hb,hc,fa,fb,fc⟩:=okI_three h
  rw [ops_at ho]
  simp only [Option.bind_some,if_true,e]
  have l1:=seg_len a x.2.1
  have l2:=seg_len b x.2.2.1
  show (bif (0:Int) != 0 then _ else _)=_
  rw [show ((0:Int) != 0)=false from rfl,cond_false]
  rw [big_4,iterV_succ,enc_step _ _ (by decide) (by decide) (getI_0 _ _) rfl ha fa w.1 (by simp),w01]
  rw [iterV_succ,enc_step _ _ (by decide) (by decide) (getI_1 _ _ _) rfl hb fb w.2.1 (by simp only [List.length_append,List.length_cons,List.length_nil];omega),w12]
  rw [iterV_succ,enc_step _ _ (by decide) (by decide) (getI_2 _ _ _ _) rfl hc fc w.2.2 (by simp only [List.length_append,List.length_cons,List.length_nil];omega),w23]
  show some (_,(0:Int))=_
  simp [enc,e,vals,body]
def vl (r:Int) (n:Nat):Int:=if sg r then half n else if n≤9223372036854775807 then (n:Int) else 9223372036854775807
theorem rd_good {bs:List Int} (hb:Bytes bs) (h:(rd 10 0 bs).2.2=0):(rd 10 0 bs).1 < 18446744073709551616∧(rd 10 0 bs).2.1≤bs.length∧1≤(rd 10 0 bs).2.1∧vary (rd 10 0 bs).1=bs.take (rd 10 0 bs).2.1:=by
 obtain ⟨r1,r2,r3,r4,_⟩:=rd_read 9 0 bs rfl hb h
 exact ⟨by simpa using r2,r4,r3,r1⟩
theorem bytes_drop {a:List Int} (ha:Bytes a) (n:Nat):Bytes (a.drop n):=fun c hc=>ha c (List.mem_of_mem_drop hc)
theorem valid_at {bs:List Int} {a:Nat} (h1:bs.length≤200000) (h2:a≤bs.length):Valid (bs,((a:Int),())):=⟨h1,by simp only;omega,by simp only;omega⟩
theorem read1_eq (bs:List Int) (a:Nat) (h1:bs.length≤200000) (h2:a≤bs.length) (hb:Bytes bs):outc bs a 18446744073709551615 0 0 (rd 10 0 (bs.drop a))=if (rd 10 0 (bs.drop a)).2.2=0 then ((bs,(((a+(rd 10 0 (bs.drop a)).2.1:Nat):Int),())),((rd 10 0 (bs.drop a)).1:Int),0) else (zc,0,(rd 10 0 (bs.drop a)).2.2):=by
 unfold outc
 by_cases h:(rd 10 0 (bs.drop a)).2.2=0
 ·obtain ⟨g1,g2,g3,g4⟩:=rd_good (bytes_drop hb a) h
  rw [if_pos h,if_neg (by omega),if_pos h]
  simp
 ·rw [if_neg h,if_neg h]
theorem readOperand_eq (bs:List Int) (a:Nat) (r:Int) (h1:bs.length≤200000) (h2:a≤bs.length) (hb:Bytes bs):cops_readOperand ((bs,((a:Int),())),r) =
  some (if (rd 10 0 (bs.drop a)).2.2=0 then ((bs,(((a+(rd 10 0 (bs.drop a)).2.1:Nat):Int),())),vl r (rd 10 0 (bs.drop a)).1,0) else (zc,0,(rd 10 0 (bs.drop a)).2.2)):=by
 show nops_readOperand _=_
 unfold nops_readOperand
 dsimp only
 rw [isSigned_eq,Option.bind_some,unsigned_eq _ hb,unvary_eq _ _ hb,if_pos (valid_at h1 h2)]
 simp only [Int.toNat_natCast,Option.bind_some,read1_eq bs a h1 h2 hb]
 by_cases h:(rd 10 0 (bs.drop a)).2.2=0
 ·obtain ⟨g1,g2,g3,g4⟩:=rd_good (bytes_drop hb a) h
  simp only [if_pos h,outs,if_true,Int.toNat_natCast,vl]
  generalize (rd 10 0 (bs.drop a)).1=m at *
  cases sg r with
  | true=>rfl
  | false=>
   simp only [cond_false]
   by_cases hm:m≤9223372036854775807
   ·rw [if_neg (show ¬ ((9223372036854775807:Int) < (m:Int)) by omega),wrap_i64 (by omega) (by omega)]
    simp [hm]
   ·rw [if_pos (show ((9223372036854775807:Int) < (m:Int)) by omega),wrap_i64 (by omega) (by omega)]
    simp [hm]
 ·simp only [if_neg h,outs]
  cases sg r <;> rfl
def rdL (bs:List Int):List Int→Nat→Int×Nat×List Nat
 | [],a=>(0,a,[])
 | r::rs,a=>
  if r=0 then ((rdL bs rs a).1,(rdL bs rs a).2.1,0::(rdL bs rs a).2.2)
  else if (rd 10 0 (bs.drop a)).2.2=0 then ((rdL bs rs (a+(rd 10 0 (bs.drop a)).2.1)).1,(rdL bs rs (a+(rd 10 0 (bs.drop a)).2.1)).2.1,(rd 10 0 (bs.drop a)).1::(rdL bs rs (a+(rd 10 0 (bs.drop a)).2.1)).2.2)
  else ((rd 10 0 (bs.drop a)).2.2,0,[])
def vlL:List Int→List Nat→List Int
 | r::rs,n::ns=>vl r n::vlL rs ns
 | _,_=>[]
def mkI (op:Int) (l:List Int):Ins:=(op,l.getD 0 0,l.getD 1 0,l.getD 2 0,())
def decEnd (op:Int) (bs:List Int) (t:Int×Nat×List Nat) (vs:List Int):Cur×Ins×Int:=
 if t.1≠0 then (zc,zi,t.1) else if okI (mkI op vs) then ((bs,((t.2.1:Int),())),mkI op vs,0) else (zc,zi,12)
theorem len3 {l:List Int} (h:l.length=3):∃ a b c,l=[a,b,c]:=by
 match l,h with
 | [a,b,c],_=>exact ⟨a,b,c,rfl⟩
theorem rdL_len (bs:List Int):∀ (rs:List Int) (a:Nat),(rdL bs rs a).1=0→(rdL bs rs a).2.2.length=rs.length
 | [],a,_=>rfl
 | r::rs,a,h=>by
  simp only [rdL] at h ⊢
  split at h
  ·rename_i hr;rw [if_pos hr];simp [rdL_len bs rs a h]
  ·rename_i hr
   split at h
   ·rename_i h2;rw [if_neg hr,if_pos h2];simp [rdL_len bs rs _ h]
   ·rename_i h2;exact absurd h h2
theorem vlL_len:∀ (rs:List Int) (ns:List Nat),rs.length=ns.length→(vlL rs ns).length=rs.length
 | [],[],_=>rfl
 | r::rs,n::ns,h=>by simp [vlL,vlL_len rs ns (by simpa using h)]
 | [],_::_,h=>by simp at h
 | _::_,[],h=>by simp at h
theorem vl_0:vl 0 0=0:=rfl
theorem dec_run (N:Nat) (op:Int) (bs:List Int) (h1:bs.length≤200000) (hb:Bytes bs) (u:Int×Unit) (z:List Int) (zx:Ins) (rs:List Int):∀ (rs':List Int) (M i a:Nat) (pv:List Int),rs.drop i=rs'→i+rs'.length=3→pv.length=i→a≤bs.length→rs'.length < M→
  iterV (gops_Decode_0 N) M (op,rs,(i:Int),(bs,((a:Int),())),u,z,zx,pv++List.replicate rs'.length 0)=some (decEnd op bs (rdL bs rs' a) (pv++vlL rs' (rdL bs rs' a).2.2))
 | [],M+1,i,a,pv,hd,hi,hp,ha,hM=>by
  rw [iterV_succ]
  show hops_Decode_0 _ _=_
  unfold hops_Decode_0
  dsimp only
  simp only [List.length_nil,Nat.add_zero] at hi
  subst hi
  obtain ⟨A,B,C,rfl⟩:=len3 hp
  rw [decide_eq_false (by omega),cond_false]
  simp only [List.length_nil,List.replicate_zero,List.append_nil,rdL,vlL,decEnd,ne_eq,not_true_eq_false,if_false]
  show ((cops_Check (op,(A,(B,(C,()))))).bind _)=_
  rw [Check_eq,Option.bind_some]
  show (bif (if okI (mkI op [A,B,C]) then (0:Int) else 8) != 0 then _ else _)=_
  cases okI (mkI op [A,B,C]) <;> rfl
 | r::rs',M+1,i,a,pv,hd,hi,hp,ha,hM=>by
  rw [iterV_succ]
  show hops_Decode_0 _ _=_
  unfold hops_Decode_0
  dsimp only
  simp only [List.length_cons] at hi hM
  have hr:getI rs (i:Int)=some r:=by
   rw [getI_nat]
   have:=congrArg (fun l=>l[0]?) hd
   simpa using this
  have hd':rs.drop (i+1)=rs':=by
   have:=congrArg List.tail hd
   simpa [List.tail_drop] using this
  have hw:IntKind.i64.wrap ((i:Int)+1)=((i+1:Nat):Int):=by rw [wrap_i64 (by omega) (by omega)];simp
  rw [decide_eq_true (show (i:Int) < 3 by omega),cond_true,hr,Option.bind_some,hw]
  by_cases h0:r=0
  ·subst h0
   rw [show ((0:Int)==0)=true from rfl,cond_true]
   have:=dec_run N op bs h1 hb u z zx rs rs' M (i+1) a (pv++[0]) hd' (by omega) (by simp [hp]) ha (by omega)
   rw [show pv++List.replicate (0::rs').length (0:Int)=pv++[0]++List.replicate rs'.length 0 by simp [List.replicate_succ]]
   rw [this]
   simp only [rdL,if_true,vlL,vl_0,List.append_assoc,List.singleton_append,decEnd]
  ·rw [show (r==0)=false by simpa using h0,cond_false,readOperand_eq bs a r h1 ha hb,Option.bind_some,decide_eq_true (show (0:Int)≤(i:Int) by omega)]
   simp only [Bool.and_self,cond_true,rdL,if_neg h0]
   by_cases h:(rd 10 0 (bs.drop a)).2.2=0
   ·obtain ⟨g1,g2,g3,g4⟩:=rd_good (bytes_drop hb a) h
    simp only [if_pos h]
    have hset:List.set (pv++List.replicate (r::rs').length (0:Int)) ((i:Int).toNat) (vl r (rd 10 0 (bs.drop a)).1)=pv++[vl r (rd 10 0 (bs.drop a)).1]++List.replicate rs'.length 0:=by
     rw [Int.toNat_natCast,List.set_append_right _ _ (by omega),hp,Nat.sub_self]
     simp [List.replicate_succ]
    simp only [List.length_drop] at g2
    have:=dec_run N op bs h1 hb u z zx rs rs' M (i+1) (a+(rd 10 0 (bs.drop a)).2.1) (pv++[vl r (rd 10 0 (bs.drop a)).1]) hd' (by omega) (by simp [hp]) (by omega) (by omega)
    rw [hset,show ((0:Int) != 0)=false from rfl,cond_false,this]
    simp only [vlL,List.append_assoc,List.singleton_append,decEnd]
    rfl
   ·simp only [if_neg h]
    rw [show ((rd 10 0 (bs.drop a)).2.2 != 0)=true by simpa using h,cond_true]
    simp only [decEnd,if_pos h,ne_eq,h,not_false_eq_true]
    rfl
def decAt (bs:List Int) (a:Nat):Cur×Ins×Int:=
 match bs[a]? with
 | none=>(zc,zi,24)
 | some o=>if isOp o then decEnd o bs (rdL bs (rol o) (a+1)) (vlL (rol o) (rdL bs (rol o) (a+1)).2.2) else (zc,zi,12)
theorem Decode_eq (c:Cur) (hb:Bytes c.1):cops_Decode c=some (if Valid c then decAt c.1 c.2.1.toNat else (zc,zi,8)):=by
 show nops_Decode (iterV (gops_Decode_0 big) big) c=_
 unfold nops_Decode
 rw [unfixed_eq c 1 hb,Option.bind_some]
 by_cases hv:Valid c
 ·obtain ⟨bs,at_,u⟩:=c
  have hv':=hv
  obtain ⟨h1,h2,h3⟩:=hv
  simp only at h1 h2 h3 hb
  obtain ⟨a,rfl⟩:=Int.eq_ofNat_of_zero_le h2
  simp only [hv',not_true_eq_false,if_false,if_true,show (wide 1=false)=False by simp [wide],Int.toNat_natCast,decAt]
  by_cases ha:a < bs.length
  ·have e:bs[a]? = some bs[a]:=List.getElem?_eq_getElem ha
   have hbb:=hb bs[a] (List.getElem_mem ha)
   rw [if_neg (by omega),e]
   have ht:(bs.drop a).take (1:Int).toNat=[bs[a]]:=by
    rw [List.drop_eq_getElem_cons ha];rfl
   rw [ht]
   simp only [unl,Nat.mul_zero,Nat.add_zero]
   generalize hO:bs[a]=o at *
   have ew:IntKind.u8.wrap ((o.toNat:Nat):Int)=o:=by rw [wrap_u8];omega
   rw [ew,show ((0:Int) != 0)=false from rfl,cond_false,isOperation_eq,Option.bind_some]
   cases ho:isOp o with
   | false=>rfl
   | true=>
    obtain ⟨p,q,r,e3,hp,hq,hr⟩:=rol_three ho
    rw [ops_at ho]
    simp only [Bool.not_true,cond_false,Option.bind_some,if_true]
    have:=dec_run big o bs h1 hb ((0:Int),()) [] zi (rol o) (rol o) big 0 (a+1) [] rfl (by rw [e3];rfl) rfl (by omega) (by rw [e3];exact (by decide:3 < big))
    simp only [List.nil_append] at this
    rw [show (List.replicate 3 (0:Int))=List.replicate (rol o).length 0 by rw [e3];rfl]
    exact this
  ·rw [if_pos (by omega),List.getElem?_eq_none (by omega)]
   rfl
 ·simp only [hv,not_false_eq_true,if_true,if_false]
  rfl
def q (r:Int) (n:Nat):Int:=if sg r then half n else ((n % 1000:Nat):Int)
theorem rdL_lt (bs:List Int) (hb:Bytes bs):∀ (rs:List Int) (a:Nat),∀ n∈(rdL bs rs a).2.2,n < 18446744073709551616
 | [],a,n,h=>by simp [rdL] at h
 | r::rs,a,n,h=>by
  simp only [rdL] at h
  split at h
  ·rcases List.mem_cons.1 h with rfl | h
   ·omega
   ·exact rdL_lt bs hb rs a n h
  ·split at h
   ·rename_i h0
    rcases List.mem_cons.1 h with rfl | h
    ·exact (rd_good (bytes_drop hb a) h0).1
    ·exact rdL_lt bs hb rs _ n h
   ·simp at h
theorem okI_mk {o:Int} (ho:isOp o=true) {vs:List Int} (hv:vs.length=3):okI (mkI o vs)=fitL (rol o) vs:=by
 obtain ⟨A,B,C,rfl⟩:=len3 hv
 show (isOp o&&fitL (rol o) [A,B,C])=_
 rw [ho,Bool.true_and]
def rw1 (r n:Int):Nat:=if r=0 then 0 else raw r n
def rawL:List Int→List Int→List Nat
 | r::rs,n::ns=>rw1 r n::rawL rs ns
 | _,_=>[]
theorem raw_lt {r n:Int} (hr:Rl r) (hf:fit r n=true) (h64:I64 n):raw r n < 18446744073709551616:=by
 unfold raw
 cases hs:sg r with
 | true=>simpa using dbl_lt h64.1 h64.2
 | false=>
  have:=fit_low hr hf hs
  simp only [Bool.false_eq_true,if_false]
  omega
theorem vl_raw {r n:Int} (hr:Rl r) (hf:fit r n=true):vl r (rw1 r n)=n:=by
 by_cases h0:r=0
 ·subst h0
  have:n=0:=by simpa [fit] using hf
  subst this;rfl
 ·unfold rw1 vl raw
  rw [if_neg h0]
  cases hs:sg r with
  | true=>simp [half_dbl]
  | false=>
   have:=fit_low hr hf hs
   simp only [Bool.false_eq_true,if_false]
   rw [if_pos (by omega)]
   omega
theorem raw_vl {r:Int} {n:Nat} (hr:Rl r) (hf:fit r (vl r n)=true):raw r (vl r n)=n:=by
 unfold raw
 cases hs:sg r with
 | true=>simp [vl,hs,dbl_half]
 | false=>
  have h:=fit_low hr hf hs
  simp only [Bool.false_eq_true,if_false]
  simp only [vl,hs,Bool.false_eq_true,if_false] at h ⊢
  split at h
  ·rename_i h1;rw [if_pos h1];omega
  ·omega
theorem vlL_raw:∀ (rs ns:List Int),rs.length=ns.length→(∀ r∈rs,Rl r)→fitL rs ns=true→vlL rs (rawL rs ns)=ns
 | [],[],_,_,_=>rfl
 | r::rs,n::ns,hl,hr,hf=>by
  simp only [fitL,Bool.and_eq_true] at hf
  simp only [rawL,vlL,vl_raw (hr r (by simp)) hf.1,vlL_raw rs ns (by simpa using hl) (fun x hx=>hr x (by simp [hx])) hf.2]
 | [],_::_,hl,_,_=>by simp at hl
 | _::_,[],hl,_,_=>by simp at hl
theorem body_rd (rest:List Int):∀ (rs ns pre:List Int),rs.length=ns.length→(∀ r∈rs,Rl r)→(∀ n∈ns,I64 n)→fitL rs ns=true→
  rdL (pre++(body rs ns++rest)) rs pre.length=(0,pre.length+(body rs ns).length,rawL rs ns)
 | [],[],pre,_,_,_,_=>by simp [rdL,body,rawL]
 | r::rs,n::ns,pre,hl,hr,hn,hf=>by
  simp only [fitL,Bool.and_eq_true] at hf
  by_cases h0:r=0
  ·subst h0
   have:=body_rd rest rs ns pre (by simpa using hl) (fun x hx=>hr x (by simp [hx])) (fun x hx=>hn x (by simp [hx])) hf.2
   simp only [body,seg,if_true,List.nil_append,rdL,this,rawL,rw1]
  ·have hlt:=raw_lt (hr r (by simp)) hf.1 (hn n (by simp))
   have:=body_rd rest rs ns (pre++vary (raw r n)) (by simpa using hl) (fun x hx=>hr x (by simp [hx])) (fun x hx=>hn x (by simp [hx])) hf.2
   have e1:(pre++(vary (raw r n)++body rs ns++rest)).drop pre.length=vary (raw r n)++(body rs ns++rest):=by simp
   have e2:pre++(vary (raw r n)++body rs ns++rest)=(pre++vary (raw r n))++(body rs ns++rest):=by simp
   simp only [body,seg,if_neg h0,rdL,e1,rd_of_vary _ _ hlt,if_true,rawL,rw1]
   rw [e2,show pre.length+(vary (raw r n)).length=(pre++vary (raw r n)).length by simp,this]
   simp [Nat.add_assoc]
 | [],_::_,_,hl,_,_,_=>by simp at hl
 | _::_,[],_,hl,_,_,_=>by simp at hl
theorem body_back (bs:List Int) (hb:Bytes bs):∀ (rs:List Int) (a:Nat),a≤bs.length→(∀ r∈rs,Rl r)→(rdL bs rs a).1=0→fitL rs (vlL rs (rdL bs rs a).2.2)=true→
  a≤(rdL bs rs a).2.1∧(rdL bs rs a).2.1≤bs.length∧body rs (vlL rs (rdL bs rs a).2.2)=(bs.drop a).take ((rdL bs rs a).2.1 - a)
 | [],a,ha,_,_,_=>by simp [rdL,body,ha]
 | r::rs,a,ha,hr,he,hf=>by
  simp only [rdL] at he hf ⊢
  by_cases h0:r=0
  ·subst h0
   simp only [if_true] at he hf ⊢
   simp only [vlL,fitL,Bool.and_eq_true] at hf
   obtain ⟨g1,g2,g3⟩:=body_back bs hb rs a ha (fun x hx=>hr x (by simp [hx])) he hf.2
   exact ⟨g1,g2,by simp only [vlL,body,seg,if_true,List.nil_append,g3]⟩
  ·simp only [if_neg h0] at he hf ⊢
   by_cases h:(rd 10 0 (bs.drop a)).2.2=0
   ·obtain ⟨k1,k2,k3,k4⟩:=rd_good (bytes_drop hb a) h
    simp only [if_pos h] at he hf ⊢
    simp only [vlL,fitL,Bool.and_eq_true] at hf
    simp only [List.length_drop] at k2
    obtain ⟨g1,g2,g3⟩:=body_back bs hb rs (a+(rd 10 0 (bs.drop a)).2.1) (by omega) (fun x hx=>hr x (by simp [hx])) he hf.2
    refine ⟨by omega,g2,?_⟩
    simp only [vlL,body,seg,if_neg h0,g3,raw_vl (hr r (by simp)) hf.1,k4]
    rw [show (rdL bs rs (a+(rd 10 0 (bs.drop a)).2.1)).2.1 - a=(rd 10 0 (bs.drop a)).2.1+((rdL bs rs (a+(rd 10 0 (bs.drop a)).2.1)).2.1 - (a+(rd 10 0 (bs.drop a)).2.1)) by omega,List.take_add,List.drop_drop]
   ·rw [if_neg h] at he
    exact absurd he h
theorem rol_rl {o:Int} (h:isOp o=true):(rol o).length=3∧∀ x∈rol o,Rl x:=by
 obtain ⟨p,q',r,e3,hp,hq,hr⟩:=rol_three h
 rw [e3]
 refine ⟨rfl,?_⟩
 intro x hx
 simp at hx
 rcases hx with rfl | rfl | rfl <;> assumption
theorem okI_parts {x:Ins} (h:okI x=true) (w:WfI x):isOp x.1=true∧(rol x.1).length=(vals x).length∧(∀ r∈rol x.1,Rl r)∧(∀ n∈vals x,I64 n)∧fitL (rol x.1) (vals x)=true:=by
 simp only [okI,Bool.and_eq_true] at h
 obtain ⟨h1,h2⟩:=rol_rl h.1
 refine ⟨h.1,by rw [h1];rfl,h2,?_,h.2⟩
 intro n hn
 simp only [vals,List.mem_cons,List.not_mem_nil,or_false] at hn
 rcases hn with rfl | rfl | rfl
 ·exact w.1
 ·exact w.2.1
 ·exact w.2.2
theorem mkI_vals (x:Ins):mkI x.1 (vals x)=x:=rfl
theorem body_bytes:∀ (rs ns:List Int),rs.length=ns.length→(∀ r∈rs,Rl r)→(∀ n∈ns,I64 n)→fitL rs ns=true→Bytes (body rs ns)∧(body rs ns).length≤10 * rs.length
 | [],[],_,_,_,_=>by simp [body,Bytes]
 | r::rs,n::ns,hl,hr,hn,hf=>by
  simp only [fitL,Bool.and_eq_true] at hf
  obtain ⟨h1,h2⟩:=body_bytes rs ns (by simpa using hl) (fun x hx=>hr x (by simp [hx])) (fun x hx=>hn x (by simp [hx])) hf.2
  have hs:=seg_len r n
  simp only [body]
  refine ⟨bytes_append ?_ h1,by simp only [List.length_append,List.length_cons];omega⟩
  unfold seg
  split
  ·simp [Bytes]
  ·exact vary_bytes (raw_lt (hr r (by simp)) hf.1 (hn n (by simp)))
 | [],_::_,hl,_,_,_=>by simp at hl
 | _::_,[],hl,_,_,_=>by simp at hl
theorem enc_bytes {x:Ins} (h:okI x=true) (w:WfI x):Bytes (enc x)∧(enc x).length≤31:=by
 obtain ⟨h1,h2,h3,h4,h5⟩:=okI_parts h w
 obtain ⟨g1,g2⟩:=body_bytes _ _ h2 h3 h4 h5
 obtain ⟨k,hk,_,_⟩:=op_nat h1
 refine ⟨?_,?_⟩
 ·intro c hc
  rcases List.mem_cons.1 hc with rfl | hc
  ·omega
  ·exact g1 c hc
 ·have:(rol x.1).length=3:=(rol_rl h1).1
  simp only [enc,List.length_cons]
  omega
theorem dec_enc {x:Ins} (h:okI x=true) (w:WfI x) (rest:List Int):decAt (enc x++rest) 0=((enc x++rest,(((enc x).length:Int),())),x,0):=by
 obtain ⟨h1,h2,h3,h4,h5⟩:=okI_parts h w
 have hr:=body_rd rest (rol x.1) (vals x) [x.1] h2 h3 h4 h5
 have e:[x.1]++(body (rol x.1) (vals x)++rest)=enc x++rest:=by simp [enc]
 rw [e] at hr
 have e0:(enc x++rest)[0]? = some x.1:=by simp [enc]
 unfold decAt
 rw [e0]
 simp only [h1,if_true]
 rw [show (0+1:Nat)=[x.1].length from rfl,hr]
 simp only [decEnd,vlL_raw _ _ h2 h3 h5,mkI_vals,h,if_true,ne_eq,not_true_eq_false,if_false,enc,List.length_cons,List.length_nil]
 congr 3
 simp
 omega
theorem dec_good {bs:List Int} (hb:Bytes bs) (h:(decAt bs 0).2.2=0):okI (decAt bs 0).2.1=true∧1≤(decAt bs 0).1.2.1∧(decAt bs 0).1.2.1≤(bs.length:Int)∧enc (decAt bs 0).2.1=bs.take (decAt bs 0).1.2.1.toNat∧WfI (decAt bs 0).2.1:=by
 unfold decAt at h ⊢
 cases e:bs[0]? with
 | none=>rw [e] at h;simp [zi,zc] at h
 | some o=>
  rw [e] at h
  simp only at h ⊢
  cases ho:isOp o with
  | false=>rw [ho] at h;simp at h
  | true=>
   rw [ho] at h
   simp only [if_true] at h ⊢
   obtain ⟨b0,r0,rfl⟩:∃ b r,bs=b::r:=by
    cases bs with
    | nil=>simp at e
    | cons b r=>exact ⟨b,r,rfl⟩
   simp only [List.getElem?_cons_zero,Option.some.injEq] at e
   subst e
   obtain ⟨l3,hR⟩:=rol_rl ho
   have hlt:=rdL_lt (b0::r0) hb (rol b0) (0+1)
   unfold decEnd at h ⊢
   by_cases he:(rdL (b0::r0) (rol b0) (0+1)).1=0
   ·have hlen:(rol b0).length=(rdL (b0::r0) (rol b0) (0+1)).2.2.length:=(rdL_len _ _ _ he).symm
    have hv:=vlL_len _ _ hlen
    rw [if_neg (not_not_intro he)] at h ⊢
    cases hf:okI (mkI b0 (vlL (rol b0) (rdL (b0::r0) (rol b0) (0+1)).2.2)) with
    | false=>rw [hf] at h;simp at h
    | true=>
     simp only [if_true]
     have hf':=hf
     rw [okI_mk ho (by rw [hv,l3])] at hf'
     obtain ⟨g1,g2,g3⟩:=body_back (b0::r0) hb (rol b0) (0+1) (by simp) hR he hf'
     obtain ⟨A,B,C,e3⟩:=len3 (hv.trans l3)
     refine ⟨hf,by omega,by omega,?_,?_⟩
     ·show b0::body (rol b0) (vals (mkI b0 _))=_
      have:vals (mkI b0 (vlL (rol b0) (rdL (b0::r0) (rol b0) (0+1)).2.2))=vlL (rol b0) (rdL (b0::r0) (rol b0) (0+1)).2.2:=by rw [e3];rfl
      rw [this,g3]
      simp only [List.drop_succ_cons,List.drop_zero,Int.toNat_natCast]
      obtain ⟨m,hm⟩:∃ m,(rdL (b0::r0) (rol b0) (0+1)).2.1=m+1:=⟨(rdL (b0::r0) (rol b0) (0+1)).2.1 - 1,by omega⟩
      rw [hm,List.take_succ_cons]
      simp
     ·have hin:∀ (rs:List Int) (ns:List Nat),(∀ n∈ns,n < 18446744073709551616)→∀ v∈vlL rs ns,I64 v:=by
       intro rs
       induction rs with
       | nil=>intro ns _ v hv;simp [vlL] at hv
       | cons r rs ih=>
        intro ns hn v hv
        cases ns with
        | nil=>simp [vlL] at hv
        | cons n ns=>
         simp only [vlL] at hv
         rcases List.mem_cons.1 hv with rfl | hv
         ·have:=hn n (by simp)
          unfold vl
          split
          ·exact half_range this
          ·split <;> constructor <;> omega
         ·exact ih ns (fun x hx=>hn x (by simp [hx])) v hv
      have:=hin (rol b0) _ hlt
      rw [e3] at this ⊢
      exact ⟨this A (by simp),this B (by simp),this C (by simp)⟩
   ·rw [if_pos he] at h
    exact absurd h he
end Go.Proofs.YtlhnlcbcikbokaaGreatDoor
